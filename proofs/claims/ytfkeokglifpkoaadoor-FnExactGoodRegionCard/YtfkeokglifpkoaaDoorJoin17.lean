/-
  Texts that follow one another, joined: RgX, BrHd, RgA.
-/
import Derived.Test.YtfkeokglifpkoaaDoorJoin6
import Derived.Test.YtfkeokglifpkoaaDoorJoin16
/-
  Boxes of three cells and of two, a region's value and a word's.
-/
namespace Go.Proofs.YtfkeokglifpkoaaDoor
open Go.RowKit M
open Clk (upd upd_same upd_other)
namespace M
/-- A region's value, a word's. -/
abbrev rv (id ver : Int) (v : Value) : Value := .agg #[.int .i64 id, .int .i64 ver, v]
abbrev wv (ver : Int) (v : Value) : Value := .agg #[.int .i64 ver, v]
def q3 (a b c : Value) : Nat → Value := fun i => if i = 0 then a else if i = 1 then b else c
theorem new3 (w : World) (a b c : Value) (t : TypeId) : Blk (w.alloc (.cells #[a, b, c] t)) w.heap.size 3 (q3 a b c) t := Blk.fresh _ _ _ _ _ rfl
theorem Blk.tri {w : World} {g : Nat} {a b c : Value} {t : TypeId} (h : Blk w g 3 (q3 a b c) t) :
    (w.cell? ⟨g, 0, none⟩ = some a ∧ w.cell? ⟨g, 1, none⟩ = some b ∧ w.cell? ⟨g, 2, none⟩ = some c) ∧ w.frozen? ⟨g, 0, none⟩ = false ∧ w.frozen? ⟨g, 1, none⟩ = false ∧ w.frozen? ⟨g, 2, none⟩ = false :=
  ⟨⟨h.cell (i := 0) (by omega), h.cell (i := 1) (by omega), h.cell (i := 2) (by omega)⟩, h.thaw 0, h.thaw 1, h.thaw 2⟩
theorem Blk.put3 {w : World} {g : Nat} {a b c : Value} {t : TypeId} (h : Blk w g 3 (q3 a b c) t) (x y z : Value) :
    Blk (((w.setCell ⟨g, 0, none⟩ x).setCell ⟨g, 1, none⟩ y).setCell ⟨g, 2, none⟩ z) g 3 (q3 x y z) t := by
  refine (((h.set 0 x).set 1 y).set 2 z).ext fun i hi => ?_
  rcases (show i = 0 ∨ i = 1 ∨ i = 2 by omega) with e | e | e
  · subst e; rfl
  · subst e; rfl
  · subst e; rfl
theorem Blk.tri0 {w : World} {g : Nat} {a b c : Value} {t : TypeId} (h : Blk w g 3 (q3 a b c) t) (x : Value) : Blk (w.setCell ⟨g, 0, none⟩ x) g 3 (q3 x b c) t := by
  refine (h.set 0 x).ext fun i hi => ?_
  rcases (show i = 0 ∨ i = 1 ∨ i = 2 by omega) with e | e | e
  · subst e; rfl
  · subst e; rfl
  · subst e; rfl
theorem Blk.tri1 {w : World} {g : Nat} {a b c : Value} {t : TypeId} (h : Blk w g 3 (q3 a b c) t) (x : Value) : Blk (w.setCell ⟨g, 1, none⟩ x) g 3 (q3 a x c) t := by
  refine (h.set 1 x).ext fun i hi => ?_
  rcases (show i = 0 ∨ i = 1 ∨ i = 2 by omega) with e | e | e
  · subst e; rfl
  · subst e; rfl
  · subst e; rfl
theorem Blk.tri2 {w : World} {g : Nat} {a b c : Value} {t : TypeId} (h : Blk w g 3 (q3 a b c) t) (x : Value) : Blk (w.setCell ⟨g, 2, none⟩ x) g 3 (q3 a b x) t := by
  refine (h.set 2 x).ext fun i hi => ?_
  rcases (show i = 0 ∨ i = 1 ∨ i = 2 by omega) with e | e | e
  · subst e; rfl
  · subst e; rfl
  · subst e; rfl
def q2 (a b : Value) : Nat → Value := fun i => if i = 0 then a else b
theorem new2 (w : World) (a b : Value) (t : TypeId) : Blk (w.alloc (.cells #[a, b] t)) w.heap.size 2 (q2 a b) t := Blk.fresh _ _ _ _ _ rfl
theorem Blk.duo {w : World} {g : Nat} {a b : Value} {t : TypeId} (h : Blk w g 2 (q2 a b) t) :
    (w.cell? ⟨g, 0, none⟩ = some a ∧ w.cell? ⟨g, 1, none⟩ = some b) ∧ w.frozen? ⟨g, 0, none⟩ = false ∧ w.frozen? ⟨g, 1, none⟩ = false :=
  ⟨⟨h.cell (i := 0) (by omega), h.cell (i := 1) (by omega)⟩, h.thaw 0, h.thaw 1⟩
theorem Blk.duo1 {w : World} {g : Nat} {a b : Value} {t : TypeId} (h : Blk w g 2 (q2 a b) t) (x : Value) : Blk (w.setCell ⟨g, 1, none⟩ x) g 2 (q2 a x) t := by
  refine (h.set 1 x).ext fun i hi => ?_
  rcases (show i = 0 ∨ i = 1 by omega) with e | e
  · subst e; rfl
  · subst e; rfl
theorem Blk.put2 {w : World} {g : Nat} {a b : Value} {t : TypeId} (h : Blk w g 2 (q2 a b) t) (x y : Value) :
    Blk ((w.setCell ⟨g, 0, none⟩ x).setCell ⟨g, 1, none⟩ y) g 2 (q2 x y) t := by
  refine ((h.set 0 x).set 1 y).ext fun i hi => ?_
  rcases (show i = 0 ∨ i = 1 by omega) with e | e
  · subst e; rfl
  · subst e; rfl
theorem Blk.off {w : World} {g g' n i : Nat} {f : Nat → Value} {t : TypeId} (h : Blk w g n f t) (hne : g ≠ g') (x : Value) : Blk (w.setCell ⟨g', i, none⟩ x) g n f t :=
  h.gb (gbT_set (gbT_refl w (some g'))) (fun e => hne (by simpa using e))
/-- A function's boxes: the region that came in, the region that is answered. -/
structure R2 (w W : World) (id ver : Int) (v : Value) : Prop where
  low : Below w.heap.size w W
  arg : Blk W w.heap.size 3 (q3 (.int .i64 id) (.int .i64 ver) v) 33
  res : Blk W (w.heap.size + 1) 3 (q3 (.int .i64 0) (.int .i64 0) (.slice none 0 0)) 33
  big : w.heap.size + 2 ≤ W.heap.size
theorem R2.down {w W W' : World} {id ver : Int} {v : Value} (h : R2 w W id ver v) (hb : Below W.heap.size W W') : R2 w W' id ver v :=
  ⟨h.low.trans (hb.mono h.low.size), h.arg.down hb, h.res.down hb, Nat.le_trans h.big hb.size⟩
theorem R2.new (w : World) (id ver : Int) (v : Value) : R2 w ((w.alloc (.cells #[.int .i64 id, .int .i64 ver, v] 33)).alloc (.cells #[.int .i64 0, .int .i64 0, .slice none 0 0] 33)) id ver v := by
  refine ⟨((Below.refl _ w).alloc (Nat.le_refl _) _).alloc (by simp) _, (new3 w _ _ _ 33).alloc _, ?_, by simp⟩
  have := new3 (w.alloc (.cells #[.int .i64 id, .int .i64 ver, v] 33)) (.int .i64 0) (.int .i64 0) (.slice none 0 0) 33
  rw [World.size_alloc] at this; exact this
theorem R2.fin {w W : World} {id ver : Int} {v : Value} (h : R2 w W id ver v) (x y z : Value) : ∀ WZ, ((W.setCell ⟨w.heap.size + 1, 0, none⟩ x).setCell ⟨w.heap.size + 1, 1, none⟩ y).setCell ⟨w.heap.size + 1, 2, none⟩ z = WZ →
    Blk WZ (w.heap.size + 1) 3 (q3 x y z) 33 ∧ Below w.heap.size w WZ ∧ ∀ (B : Nat) (u : Value) (ps : Prs), OwnP W B u ps → w.heap.size + 2 ≤ B → OwnP WZ w.heap.size u ps := by
  intro WZ hWZ
  subst hWZ
  exact ⟨h.res.put3 _ _ _, ((h.low.setCell (p := ⟨w.heap.size + 1, 0, none⟩) (Nat.le_succ _) _).setCell (p := ⟨w.heap.size + 1, 1, none⟩) (Nat.le_succ _) _).setCell (p := ⟨w.heap.size + 1, 2, none⟩) (Nat.le_succ _) _, fun B u ps ho hB => (((ho.set_low (by omega) _).set_low (by omega) _).set_low (by omega) _).mono (by omega)⟩
/-- The same, a word answered. -/
structure R2W (w W : World) (id ver : Int) (v : Value) : Prop where
  low : Below w.heap.size w W
  arg : Blk W w.heap.size 3 (q3 (.int .i64 id) (.int .i64 ver) v) 33
  res : Blk W (w.heap.size + 1) 2 (q2 (.int .i64 0) (.slice none 0 0)) 49
  big : w.heap.size + 2 ≤ W.heap.size
theorem R2W.down {w W W' : World} {id ver : Int} {v : Value} (h : R2W w W id ver v) (hb : Below W.heap.size W W') : R2W w W' id ver v :=
  ⟨h.low.trans (hb.mono h.low.size), h.arg.down hb, h.res.down hb, Nat.le_trans h.big hb.size⟩
theorem R2W.new (w : World) (id ver : Int) (v : Value) : R2W w ((w.alloc (.cells #[.int .i64 id, .int .i64 ver, v] 33)).alloc (.cells #[.int .i64 0, .slice none 0 0] 49)) id ver v := by
  refine ⟨((Below.refl _ w).alloc (Nat.le_refl _) _).alloc (by simp) _, (new3 w _ _ _ 33).alloc _, ?_, by simp⟩
  have := new2 (w.alloc (.cells #[.int .i64 id, .int .i64 ver, v] 33)) (.int .i64 0) (.slice none 0 0) 49
  rw [World.size_alloc] at this; exact this
theorem R2W.fin {w W : World} {id ver : Int} {v : Value} (h : R2W w W id ver v) (x y : Value) : ∀ WZ, (W.setCell ⟨w.heap.size + 1, 0, none⟩ x).setCell ⟨w.heap.size + 1, 1, none⟩ y = WZ →
    Blk WZ (w.heap.size + 1) 2 (q2 x y) 49 ∧ Below w.heap.size w WZ ∧ ∀ (B : Nat) (u : Value) (ps : Prs), OwnP W B u ps → w.heap.size + 2 ≤ B → OwnP WZ w.heap.size u ps := by
  intro WZ hWZ
  subst hWZ
  exact ⟨h.res.put2 _ _, (h.low.setCell (p := ⟨w.heap.size + 1, 0, none⟩) (Nat.le_succ _) _).setCell (p := ⟨w.heap.size + 1, 1, none⟩) (Nat.le_succ _) _, fun B u ps ho hB => ((ho.set_low (by omega) _).set_low (by omega) _).mono (by omega)⟩
theorem low1 (w : World) (o : Obj) : Below w.heap.size w (w.alloc o) := (Below.refl w.heap.size w).alloc (Nat.le_refl _) o
end M
end Go.Proofs.YtfkeokglifpkoaaDoor

/-
  The law's look whether marks are still there, on branches and tellings.
-/
namespace Go.Proofs.YtfkeokglifpkoaaDoor
open Go.RowKit M
open Go.Sort (grow)
namespace M
theorem mkP_at : ∀ (k0 : Nat) (ps : Prs) (k : Nat) (p : Value × Evs), ps[k]? = some p → (mkP k0 ps)[k]? = some (p.1, mkE (k0 + 4 * evn (ps.take k)) p.2.length)
  | k0, [], k, p, h => by simp at h
  | k0, q :: r, 0, p, h => by simp at h; subst h; simp [mkP, evn]
  | k0, q :: r, k + 1, p, h => by
    have := mkP_at (k0 + 4 * q.2.length) r k p (by simpa using h)
    simp only [mkP, List.getElem?_cons_succ, List.take_succ_cons, evn]
    rw [this]
    congr 3; omega
theorem evn_le {n : Nat} : ∀ {ps : Prs}, (∀ p ∈ ps, p.2.length ≤ n) → evn ps ≤ n * ps.length
  | [], _ => by simp [evn]
  | p :: r, h => by
    have h1 := h p (by simp)
    have h2 := evn_le (ps := r) (fun q hq => h q (by simp [hq]))
    simp only [evn, List.length_cons, Nat.mul_succ]
    omega
theorem vsP_len2 (k : Nat) (ps : Prs) : (mkP k ps).length = ps.length := mkP_len k ps
end M
end Go.Proofs.YtfkeokglifpkoaaDoor

/-
  The law's helpers on regions: size, a copy in memory of its own, that two of the same are told alike, marks on a copy.
-/
namespace Go.Proofs.YtfkeokglifpkoaaDoor
open Go.RowKit M
open Go.Sort (grow)
namespace M
/-- A copy under way: the argument's box, the result's, the one that is built. -/
structure TR (w W : World) (id ver : Int) (v x : Value) : Prop where
  low : Below w.heap.size w W
  arg : Blk W w.heap.size 3 (q3 (.int .i64 id) (.int .i64 ver) v) 26
  res : Blk W (w.heap.size + 1) 3 (q3 (.int .i64 0) (.int .i64 0) (.slice none 0 0)) 33
  out : Blk W (w.heap.size + 1 + 1) 3 (q3 (.int .i64 id) (.int .i64 ver) x) 33
  big : w.heap.size + 3 ≤ W.heap.size
theorem TR.down {w W W' : World} {id ver : Int} {v x : Value} (h : TR w W id ver v x) (hb : Below W.heap.size W W') : TR w W' id ver v x :=
  ⟨h.low.trans (hb.mono h.low.size), h.arg.down hb, h.res.down hb, h.out.down hb, Nat.le_trans h.big hb.size⟩
theorem TR.new (w : World) (id ver : Int) (v : Value) : TR w (((w.alloc (.cells #[.int .i64 id, .int .i64 ver, v] 26)).alloc (.cells #[.int .i64 0, .int .i64 0, .slice none 0 0] 33)).alloc (.cells #[.int .i64 id, .int .i64 ver, .slice none 0 0] 33)) id ver v (.slice none 0 0) := by
  refine ⟨(((Below.refl _ w).alloc (Nat.le_refl _) _).alloc (by simp) _).alloc (by simp; omega) _, ((new3 w _ _ _ 26).alloc _).alloc _, ?_, ?_, by simp⟩
  · have := (new3 (w.alloc (.cells #[.int .i64 id, .int .i64 ver, v] 26)) (.int .i64 0) (.int .i64 0) (.slice none 0 0) 33).alloc (.cells #[.int .i64 id, .int .i64 ver, .slice none 0 0] 33)
    rw [World.size_alloc] at this; exact this
  · have := new3 ((w.alloc (.cells #[.int .i64 id, .int .i64 ver, v] 26)).alloc (.cells #[.int .i64 0, .int .i64 0, .slice none 0 0] 33)) (.int .i64 id) (.int .i64 ver) (.slice none 0 0) 33
    rw [World.size_alloc, World.size_alloc] at this; exact this
theorem TR.put {w W : World} {id ver : Int} {v x : Value} (h : TR w W id ver v x) (u : Value) : TR w (W.setCell ⟨w.heap.size + 1 + 1, 2, none⟩ u) id ver v u :=
  ⟨h.low.setCell (p := ⟨w.heap.size + 1 + 1, 2, none⟩) (by show w.heap.size ≤ w.heap.size + 1 + 1; omega) _, h.arg.off (by omega) _, h.res.off (by omega) _, h.out.tri2 _, by rw [World.size_setCell]; exact h.big⟩
end M
set_option maxHeartbeats 1000000 in
set_option maxRecDepth 20000 in
theorem to_region (id ver : Int) (v : Value) (bs : Brs) (w : World) (hv : BrsOf w v bs) (hf : FineS bs) :
    Calls Tryd.prog 6 #[rv id ver v] w fun e w' => (∃ g ps, e = .returned (rv id ver (.slice (some ⟨g, 0, none⟩) bs.length bs.length)) ∧ OwnP w' w.heap.size (.slice (some ⟨g, 0, none⟩) bs.length bs.length) ps ∧ bsP ps = bs) ∧ Below w.heap.size w w' := by
  have HV := hide hv
  have HF := hide hf
  obtain ⟨a1, c1, rfl⟩ := hv.form
  obtain ⟨W, hW⟩ : ∃ W, ((w.alloc (.cells #[.int .i64 id, .int .i64 ver, .slice a1 bs.length c1] 26)).alloc (.cells #[.int .i64 0, .int .i64 0, .slice none 0 0] 33)).alloc (.cells #[.int .i64 id, .int .i64 ver, .slice none 0 0] 33) = W := ⟨_, rfl⟩
  have HT0 := hide (show TR w W id ver (.slice a1 bs.length c1) (.slice none 0 0) from by rw [← hW]; exact TR.new w _ _ _)
  have HWW := hide hW
  clear hv hf hW
  go_enter Tryd.func6, Tryd.ntmps6
  go_wp2_with fail
  rw [HWW.out]
  clear HWW
  refine (to_tell _ bs _ (HV.out.below HT0.out.low) HF.out).mono ?_
  rintro e w1 ⟨⟨g, ps, rfl, hX, hps⟩, hb1⟩
  have HT1 := hide (HT0.out.down hb1)
  have HO := hide (hX.mono (show w.heap.size + 3 ≤ W.heap.size from HT0.out.big))
  have HPS := hide hps
  obtain ⟨⟨f0, f1, f2⟩, f3, f4, f5⟩ := HT1.out.out.tri
  obtain ⟨⟨g0, g1, g2⟩, g3, g4, g5⟩ := HT1.out.res.tri
  obtain ⟨WZ, hWZ⟩ : ∃ WZ, ((((w1.setCell ⟨w.heap.size + 1 + 1, 2, none⟩ (.slice (some ⟨g, 0, none⟩) bs.length bs.length)).setCell ⟨w.heap.size + 1, 0, none⟩ (.int .i64 id)).setCell ⟨w.heap.size + 1, 1, none⟩ (.int .i64 ver)).setCell ⟨w.heap.size + 1, 2, none⟩ (.slice (some ⟨g, 0, none⟩) bs.length bs.length)) = WZ := ⟨_, rfl⟩
  have HZ := hide (show Blk WZ (w.heap.size + 1) 3 (q3 (.int .i64 id) (.int .i64 ver) (.slice (some ⟨g, 0, none⟩) bs.length bs.length)) 33 from by rw [← hWZ]; exact (HT1.out.put _).res.put3 _ _ _)
  have HZO := hide (show OwnP WZ w.heap.size (.slice (some ⟨g, 0, none⟩) bs.length bs.length) ps from by
    rw [← hWZ]; exact ((((HO.out.set_low (by omega) _).set_low (by omega) _).set_low (by omega) _).set_low (by omega) _).mono (by omega))
  have HZB := hide (show Below w.heap.size w WZ from by
    rw [← hWZ]; exact ((((HT1.out.low.setCell (p := ⟨w.heap.size + 1 + 1, 2, none⟩) (by show w.heap.size ≤ w.heap.size + 1 + 1; omega) _).setCell (p := ⟨w.heap.size + 1, 0, none⟩) (by show w.heap.size ≤ w.heap.size + 1; omega) _).setCell (p := ⟨w.heap.size + 1, 1, none⟩) (by show w.heap.size ≤ w.heap.size + 1; omega) _).setCell (p := ⟨w.heap.size + 1, 2, none⟩) (by show w.heap.size ≤ w.heap.size + 1; omega) _))
  have HWZ := hide hWZ
  clear hWZ hb1 hX hps HO HT1 HT0 HV HF
  go_wp2
  rw [HWZ.out]
  clear f0 f1 f2 f3 f4 f5 g0 g1 g2 g3 g4 g5
  obtain ⟨⟨e0, e1, e2⟩, -⟩ := HZ.out.tri
  exact bodyPost_ret (v := rv id ver (.slice (some ⟨g, 0, none⟩) bs.length bs.length)) (by simp [results, Tryd.results6, go_sem, e0, e1, e2]) rfl ⟨⟨_, ps, rfl, HZO.out, HPS.out⟩, HZB.out⟩
set_option maxRecDepth 20000 in
theorem eq_region (id ver : Int) (v u : Value) (bs : Brs) (w : World) (hv : BrsOf w v bs) (hu : BrsOf w u bs) (hf : FineS bs) :
    Calls Tryd.prog 8 #[rv id ver v, rv id ver u] w fun e w' => e = .returned (.bool true) ∧ Below w.heap.size w w' := by
  have HF := hide hf
  have hal := ((Below.refl w.heap.size w).alloc (Nat.le_refl _) (.cells #[.int .i64 id, .int .i64 ver, v] 33)).alloc (by simp) (.cells #[.int .i64 id, .int .i64 ver, u] 33)
  have HV := hide (hv.below hal)
  have HU := hide (hu.below hal)
  obtain ⟨a1, c1, rfl⟩ := hv.form
  obtain ⟨a2, c2, rfl⟩ := hu.form
  have h1 : (id != id) = false := by simp
  have h2 : (ver != ver) = false := by simp
  clear hv hu hf
  go_enter Tryd.func8, Tryd.ntmps8
  go_wp2_with fail
  refine (eq_tell _ _ bs _ HV.out HU.out HF.out).mono ?_
  rintro e w1 ⟨rfl, hb1⟩
  have hbw := hal.trans (hb1.mono hal.size)
  clear hb1 hal
  go_wp2
  go_ret
  exact ⟨rfl, hbw⟩
set_option maxRecDepth 20000 in
theorem sz_region (id ver : Int) (v : Value) (bs : Brs) (left : Int) (w : World) (hv : BrsOf w v bs) (hf : Fine bs) (hl0 : 0 ≤ left) (hl1 : left ≤ 1048576) :
    Calls Tryd.prog 4 #[rv id ver v, .int .i64 left] w fun e w' => e = .returned (.int .i64 (szr left (bs.length + wb bs))) ∧ Below w.heap.size w w' := by
  have HF := hide hf
  have ha := (Below.refl w.heap.size w).alloc (Nat.le_refl _) (.cells #[.int .i64 id, .int .i64 ver, v] 26)
  have HV := hide (hv.below ha)
  obtain ⟨a, c, rfl⟩ := hv.form
  clear hv hf
  by_cases hfit : ((bs.length + wb bs : Nat) : Int) ≤ left
  · have hz := szr_yes hfit
    have hge : ¬ (szr left (bs.length + wb bs) < 0) := by rw [hz]; omega
    clear hz
    go_enter Tryd.func4, Tryd.ntmps4
    go_wp2_with fail
    refine (sz_tell _ bs left _ HV.out HF.out hl0 hl1).mono ?_
    rintro e w1 ⟨rfl, hb⟩
    have hb1 := ha.trans (hb.mono ha.size)
    clear hb ha
    go_wp2
    go_ret
    exact ⟨rfl, hb1⟩
  · have hz := szr_no (left := left) (n := bs.length + wb bs) (by omega)
    have hge : szr left (bs.length + wb bs) < 0 := by rw [hz]; omega
    have HZ := hide hz
    clear hz
    go_enter Tryd.func4, Tryd.ntmps4
    go_wp2_with fail
    refine (sz_tell _ bs left _ HV.out HF.out hl0 hl1).mono ?_
    rintro e w1 ⟨rfl, hb⟩
    have hb1 := ha.trans (hb.mono ha.size)
    clear hb ha
    go_wp2
    go_ret
    exact ⟨ret_int (by rw [HZ.out]), hb1⟩
end Go.Proofs.YtfkeokglifpkoaaDoor

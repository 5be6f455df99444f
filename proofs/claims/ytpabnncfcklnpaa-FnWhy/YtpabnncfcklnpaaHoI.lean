/-
  The program's reckoning in memory: one object, counts of its own, rows of method values; come, fire and less.
-/
import Derived.Test.YtpabnncfcklnpaaHoX
import Derived.Deep.AppendLies
import Derived.Laws.EntriesVeiled
namespace Go.Proofs.Ytpabnncfcklnpaa
open Go.RowKit M
open Clk (upd upd_same upd_other)
open Go.Sort (grow)
open Ho
namespace M
/-- The cells of a reckoning. -/
def rk (rv vc vf : Value) (inn : Nat → Bool) (wt : Nat → Value) (wk : Int) : Nat → Value := fun i =>
  if i = 0 then rv else if i < 41 then .bool (inn (i - 1)) else if i = 41 then vc else if i = 42 then vf else if i < 83 then wt (i - 43) else .int .i64 wk
theorem rk_in (rv vc vf : Value) (inn : Nat → Bool) (wt : Nat → Value) (wk : Int) {x : Nat} (hx : x < 40) : upd (rk rv vc vf inn wt wk) (1 + x) (.bool true) = rk rv vc vf (upd inn x true) wt wk := by
  funext i
  by_cases e : i = 1 + x
  · subst e; rw [upd_same]; unfold rk; rw [if_neg (by omega), if_pos (by omega), show 1 + x - 1 = x by omega, upd_same]
  · rw [upd_other _ _ _ _ e]; unfold rk
    by_cases h0 : i = 0
    · rw [if_pos h0, if_pos h0]
    · rw [if_neg h0, if_neg h0]
      by_cases h1 : i < 41
      · rw [if_pos h1, if_pos h1, upd_other _ _ _ _ (by omega)]
      · rw [if_neg h1, if_neg h1]
theorem rk_vc (rv vc vf : Value) (inn : Nat → Bool) (wt : Nat → Value) (wk : Int) (v : Value) : upd (rk rv vc vf inn wt wk) 41 v = rk rv v vf inn wt wk := by
  funext i
  by_cases e : i = 41
  · subst e; rw [upd_same]; rfl
  · rw [upd_other _ _ _ _ e]; unfold rk; rw [if_neg e, if_neg e]
theorem rk_vf (rv vc vf : Value) (inn : Nat → Bool) (wt : Nat → Value) (wk : Int) (v : Value) : upd (rk rv vc vf inn wt wk) 42 v = rk rv vc v inn wt wk := by
  funext i
  by_cases e : i = 42
  · subst e; rw [upd_same]; rfl
  · rw [upd_other _ _ _ _ e]; unfold rk; rw [if_neg e, if_neg e]
theorem rk_wt (rv vc vf : Value) (inn : Nat → Bool) (wt : Nat → Value) (wk : Int) (v : Value) {x : Nat} (hx : x < 40) : upd (rk rv vc vf inn wt wk) (43 + x) v = rk rv vc vf inn (upd wt x v) wk := by
  funext i
  by_cases e : i = 43 + x
  · subst e; rw [upd_same]; unfold rk; rw [if_neg (by omega), if_neg (by omega), if_neg (by omega), if_neg (by omega), if_pos (by omega), show 43 + x - 43 = x by omega, upd_same]
  · rw [upd_other _ _ _ _ e]; unfold rk
    by_cases h0 : i = 0
    · rw [if_pos h0, if_pos h0]
    · rw [if_neg h0, if_neg h0]
      by_cases h1 : i < 41
      · rw [if_pos h1, if_pos h1]
      · rw [if_neg h1, if_neg h1]
        by_cases h2 : i = 41
        · rw [if_pos h2, if_pos h2]
        · rw [if_neg h2, if_neg h2]
          by_cases h3 : i = 42
          · rw [if_pos h3, if_pos h3]
          · rw [if_neg h3, if_neg h3, upd_other _ _ _ _ (by omega)]
theorem rk_wk (rv vc vf : Value) (inn : Nat → Bool) (wt : Nat → Value) (wk z : Int) {i : Nat} (hi : i < 84) : upd (rk rv vc vf inn wt wk) 83 (.int .i64 z) i = rk rv vc vf inn wt z i := by
  by_cases e : i = 83
  · subst e; rw [upd_same]; rfl
  · rw [upd_other _ _ _ _ e]; unfold rk
    by_cases h3 : i < 83
    · simp only [h3, if_true]
    · omega
/-- A count's method value. -/
def mf (g : Nat) : Value := .func (.func 68) #[.pointer (some ⟨g, 0, none⟩)] #[]
theorem own_keep {w : World} {B e s n : Nat} {v : Value} {xs : List Value} (h : w.ownsRow B e s v n xs) {g m : Nat} {f : Nat → Value} {t : TypeId} (hb : Blk w g m f t) (ht : t ≠ e) (i : Nat) (u : Value) : (w.setCell ⟨g, i, none⟩ u).ownsRow B e s v n xs := by
  refine ⟨h.1, ?_⟩
  rcases h.2 with h0 | ⟨g', cap, cur, hv, hB, hg, r⟩
  · exact .inl h0
  · refine .inr ⟨g', cap, cur, hv, hB, (Go.heap_setCell_other _ _ _ _ (show g' ≠ g from fun e' => ?_)).trans hg, r⟩
    subst e'
    unfold Blk at hb
    rw [hb] at hg
    simp only [Option.some.injEq, Obj.cells.injEq] at hg
    exact ht hg.2.1
theorem Blk.keep {w : World} {g' m' g m : Nat} {f' f : Nat → Value} {t' t : TypeId} (h : Blk w g' m' f' t') (hb : Blk w g m f t) (ht : t ≠ t') (i : Nat) (u : Value) : Blk (w.setCell ⟨g, i, none⟩ u) g' m' f' t' := by
  refine h.set_other (fun e' => ?_) _ _
  subst e'
  unfold Blk at hb h
  rw [hb] at h
  simp only [Option.some.injEq, Obj.cells.injEq] at h
  exact ht h.2.1
/-- The reckoning's memory. -/
structure IM (w : World) (gR j : Nat) (rv vc vf : Value) (inn : Nat → Bool) (wk : Nat) (c : Nat → Int) (L F : List Nat) (gc : Nat → Nat) (wt : Nat → Value) (wl : Nat → List Value) (W : World) : Prop where
  hr : Blk W gR 84 (rk rv vc vf inn wt (wk : Int)) 71
  hg : w.heap.size ≤ gR
  cm : W.ownsRow w.heap.size 3 1 vc L.length (L.map nv)
  fr : W.ownsRow w.heap.size 3 1 vf F.length (F.map nv)
  ap : ∀ g, vc.ownBlock = some g → vf.ownBlock ≠ some g
  ct : ∀ i, i < j → w.heap.size ≤ gc i ∧ Blk W (gc i) 2 (p2 (.int .i64 (i : Int)) (.int .i64 (c i))) 95
  inj : ∀ i i', i < j → i' < j → gc i = gc i' → i = i'
  wr : ∀ x, x < 40 → W.ownsRow w.heap.size 83 1 (wt x) (wl x).length (wl x)
  wa : ∀ x y, x < 40 → y < 40 → x ≠ y → ∀ g, (wt x).ownBlock = some g → (wt y).ownBlock ≠ some g
  bel : Below w.heap.size w W
theorem IM.down {w W W' : World} {gR j wk : Nat} {rv vc vf : Value} {inn : Nat → Bool} {c : Nat → Int} {L F : List Nat} {gc : Nat → Nat} {wt : Nat → Value} {wl : Nat → List Value} (h : IM w gR j rv vc vf inn wk c L F gc wt wl W) (hb : Below W.heap.size W W') : IM w gR j rv vc vf inn wk c L F gc wt wl W' :=
  ⟨h.hr.down hb, h.hg, owns_below h.cm hb, owns_below h.fr hb, h.ap, fun i hi => ⟨(h.ct i hi).1, (h.ct i hi).2.down hb⟩, h.inj, fun x hx => owns_below (h.wr x hx) hb, h.wa, h.bel.trans (hb.mono h.bel.size)⟩
theorem IM.alloc {w W : World} {gR j wk : Nat} {rv vc vf : Value} {inn : Nat → Bool} {c : Nat → Int} {L F : List Nat} {gc : Nat → Nat} {wt : Nat → Value} {wl : Nat → List Value} (h : IM w gR j rv vc vf inn wk c L F gc wt wl W) (o : Obj) : IM w gR j rv vc vf inn wk c L F gc wt wl (W.alloc o) := h.down ((Below.refl _ _).alloc (Nat.le_refl _) _)
/-- A cell of the reckoning itself is turned. -/
theorem IM.cell {w W : World} {gR j wk wk' : Nat} {rv vc vf vc' vf' : Value} {inn inn' : Nat → Bool} {c : Nat → Int} {L F : List Nat} {gc : Nat → Nat} {wt : Nat → Value} {wl : Nat → List Value} (h : IM w gR j rv vc vf inn wk c L F gc wt wl W) (i : Nat) (u : Value)
    (hu : ∀ q, q < 84 → upd (rk rv vc vf inn wt (wk : Int)) i u q = rk rv vc' vf' inn' wt (wk' : Int) q) (hc : vc' = vc) (hf : vf' = vf) : IM w gR j rv vc' vf' inn' wk' c L F gc wt wl (W.setCell ⟨gR, i, none⟩ u) := by
  subst hc hf
  exact ⟨(h.hr.set i u).ext hu, h.hg, own_keep h.cm h.hr (by decide) _ _, own_keep h.fr h.hr (by decide) _ _, h.ap, fun q hq => ⟨(h.ct q hq).1, (h.ct q hq).2.keep h.hr (by decide) _ _⟩, h.inj, fun x hx => own_keep (h.wr x hx) h.hr (by decide) _ _, h.wa, h.bel.setCell h.hg _⟩
theorem own_lt {w : World} {B e s n : Nat} {v : Value} {xs : List Value} (h : w.ownsRow B e s v n xs) {g : Nat} (hg : v.ownBlock = some g) : g < w.heap.size := (h.lt g hg).2
/-- A number was put to what came, and the new row is laid down. -/
theorem IM.came {w W W' : World} {gR j wk : Nat} {rv vc vf : Value} {inn : Nat → Bool} {c : Nat → Int} {L F : List Nat} {gc : Nat → Nat} {wt : Nat → Value} {wl : Nat → List Value} (h : IM w gR j rv vc vf inn wk c L F gc wt wl W) {x g' cap : Nat}
    (hown : W'.ownsRow w.heap.size 3 1 (.slice (some ⟨g', 0, none⟩) (L.length + 1) cap) (L.length + 1) (L.map nv ++ [.int .i64 (x : Int)])) (hg : W.grownBy W' vc.ownBlock) (hat : vc.ownBlock = some g' ∨ g' = W.heap.size) :
    IM w gR j rv (.slice (some ⟨g', 0, none⟩) (L.length + 1) cap) vf inn wk c (L ++ [x]) F gc wt wl (W'.setCell ⟨gR, 41, none⟩ (.slice (some ⟨g', 0, none⟩) (L.length + 1) cap)) := by
  have hr := h.hr.grown h.cm (by decide) hg
  have hap : ∀ g, Value.ownBlock (.slice (some ⟨g', 0, none⟩) (L.length + 1) cap) = some g → vf.ownBlock ≠ some g := fun g e hf => by
    simp only [Value.ownBlock, Option.some.injEq] at e
    subst e
    rcases hat with h1 | h1
    · exact h.ap _ h1 hf
    · have := own_lt h.fr hf; omega
  refine ⟨(hr.set _ _).ext fun q _ => by rw [rk_vc], h.hg, own_keep ?_ hr (by decide) _ _, own_keep (owns_other h.fr hg fun g e e' => h.ap g e'.symm e) hr (by decide) _ _, hap, fun q hq => ⟨(h.ct q hq).1, ((h.ct q hq).2.grown h.cm (by decide) hg).keep hr (by decide) _ _⟩, h.inj,
    fun y hy => own_keep (owns_other (h.wr y hy) hg (owns_apart (h.wr y hy) h.cm (by decide))) hr (by decide) _ _, h.wa, (h.bel.grown hg h.bel.size (fun q hq => (h.cm.lt q hq).1)).setCell h.hg _⟩
  rw [List.map_append, List.length_append]; exact hown
/-- A rule was put to the first ones, and the new row is laid down. -/
theorem IM.firsts {w W W' : World} {gR j wk : Nat} {rv vc vf : Value} {inn : Nat → Bool} {c : Nat → Int} {L F : List Nat} {gc : Nat → Nat} {wt : Nat → Value} {wl : Nat → List Value} (h : IM w gR j rv vc vf inn wk c L F gc wt wl W) {x g' cap : Nat}
    (hown : W'.ownsRow w.heap.size 3 1 (.slice (some ⟨g', 0, none⟩) (F.length + 1) cap) (F.length + 1) (F.map nv ++ [.int .i64 (x : Int)])) (hg : W.grownBy W' vf.ownBlock) (hat : vf.ownBlock = some g' ∨ g' = W.heap.size) :
    IM w gR j rv vc (.slice (some ⟨g', 0, none⟩) (F.length + 1) cap) inn wk c L (F ++ [x]) gc wt wl (W'.setCell ⟨gR, 42, none⟩ (.slice (some ⟨g', 0, none⟩) (F.length + 1) cap)) := by
  have hr := h.hr.grown h.fr (by decide) hg
  have hap : ∀ g, vc.ownBlock = some g → Value.ownBlock (.slice (some ⟨g', 0, none⟩) (F.length + 1) cap) ≠ some g := fun g e hf => by
    simp only [Value.ownBlock, Option.some.injEq] at hf
    subst hf
    rcases hat with h1 | h1
    · exact h.ap _ e h1
    · have := own_lt h.cm e; omega
  refine ⟨(hr.set _ _).ext fun q _ => by rw [rk_vf], h.hg, own_keep (owns_other h.cm hg fun g e e' => h.ap g e e'.symm) hr (by decide) _ _, own_keep ?_ hr (by decide) _ _, hap, fun q hq => ⟨(h.ct q hq).1, ((h.ct q hq).2.grown h.fr (by decide) hg).keep hr (by decide) _ _⟩, h.inj,
    fun y hy => own_keep (owns_other (h.wr y hy) hg (owns_apart (h.wr y hy) h.fr (by decide))) hr (by decide) _ _, h.wa, (h.bel.grown hg h.bel.size (fun q hq => (h.fr.lt q hq).1)).setCell h.hg _⟩
  rw [List.map_append, List.length_append]; exact hown
/-- A count is made less. -/
theorem IM.less {w W : World} {gR j wk : Nat} {rv vc vf : Value} {inn : Nat → Bool} {c : Nat → Int} {L F : List Nat} {gc : Nat → Nat} {wt : Nat → Value} {wl : Nat → List Value} (h : IM w gR j rv vc vf inn wk c L F gc wt wl W) {i : Nat} (hi : i < j) (z : Int) :
    IM w gR j rv vc vf inn wk (upd c i z) L F gc wt wl (W.setCell ⟨gc i, 1, none⟩ (.int .i64 z)) := by
  have hb := (h.ct i hi).2
  refine ⟨h.hr.keep hb (by decide) _ _, h.hg, own_keep h.cm hb (by decide) _ _, own_keep h.fr hb (by decide) _ _, h.ap, fun q hq => ⟨(h.ct q hq).1, ?_⟩, h.inj, fun x hx => own_keep (h.wr x hx) hb (by decide) _ _, h.wa, h.bel.setCell (h.ct i hi).1 _⟩
  by_cases e : q = i
  · subst e; rw [upd_same]; exact hb.set1 _
  · rw [upd_other _ _ _ _ e]
    exact (h.ct q hq).2.set_other (fun e' => e (h.inj q i hq hi e')) _ _
/-- What is kept where a number comes: all blocks but the reckoning's and the row's own. -/
def Kp (W w' : World) (gR : Nat) (vc vc' : Value) : Prop := (∀ b, b < W.heap.size → b ≠ gR → vc.ownBlock ≠ some b → w'.heap[b]? = W.heap[b]?) ∧ (∀ b, vc'.ownBlock = some b → vc.ownBlock = some b ∨ W.heap.size ≤ b) ∧ W.heap.size ≤ w'.heap.size
theorem rk_cell_in {W : World} {gR : Nat} {rv vc vf : Value} {inn : Nat → Bool} {wt : Nat → Value} {wk : Int} {t : TypeId} (h : Blk W gR 84 (rk rv vc vf inn wt wk) t) {x : Nat} (hx : x < 40) : W.cell? ⟨gR, 1 + x, none⟩ = some (.bool (inn x)) := by
  rw [h.cell (show 1 + x < 84 by omega)]; unfold rk; rw [if_neg (by omega), if_pos (by omega), show 1 + x - 1 = x by omega]
theorem rk_cell_wt {W : World} {gR : Nat} {rv vc vf : Value} {inn : Nat → Bool} {wt : Nat → Value} {wk : Int} {t : TypeId} (h : Blk W gR 84 (rk rv vc vf inn wt wk) t) {x : Nat} (hx : x < 40) : W.cell? ⟨gR, 43 + x, none⟩ = some (wt x) := by
  rw [h.cell (show 43 + x < 84 by omega)]; unfold rk; rw [if_neg (by omega), if_neg (by omega), if_neg (by omega), if_neg (by omega), if_pos (by omega), show 43 + x - 43 = x by omega]
theorem rk_cells {W : World} {gR : Nat} {rv vc vf : Value} {inn : Nat → Bool} {wt : Nat → Value} {wk : Int} {t : TypeId} (h : Blk W gR 84 (rk rv vc vf inn wt wk) t) : W.cell? ⟨gR, 0, none⟩ = some rv ∧ W.cell? ⟨gR, 41, none⟩ = some vc ∧ W.cell? ⟨gR, 42, none⟩ = some vf ∧ W.cell? ⟨gR, 83, none⟩ = some (.int .i64 wk) :=
  ⟨h.cell (by omega), h.cell (by omega), h.cell (by omega), h.cell (by omega)⟩
end M
theorem come_old {w W : World} {gR j wk : Nat} {rv vc vf : Value} {inn : Nat → Bool} {c : Nat → Int} {L F : List Nat} {gc : Nat → Nat} {wt : Nat → Value} {wl : Nat → List Value} (h : IM w gR j rv vc vf inn wk c L F gc wt wl W) {x : Nat} (hx : x < 40) (hin : inn x = true) :
    Calls Try.prog 62 #[.pointer (some ⟨gR, 0, none⟩), .int .i64 (x : Int)] W fun e w' => e = .returned (.bool false) ∧ w' = W := by
  have c0 := rk_cell_in h.hr hx
  rw [hin] at c0
  have hx0 : (0 : Int) ≤ (x : Int) := by omega
  have hx1 : (x : Int) < 40 := by omega
  clear h hin
  go_enter Try.func62, Try.ntmps62
  go_wp2
  go_ret
  exact ⟨rfl, rfl⟩
set_option maxHeartbeats 1000000 in
theorem come_new {w W : World} {gR j wk : Nat} {rv vc vf : Value} {inn : Nat → Bool} {c : Nat → Int} {L F : List Nat} {gc : Nat → Nat} {wt : Nat → Value} {wl : Nat → List Value} (h : IM w gR j rv vc vf inn wk c L F gc wt wl W) {x : Nat} (hx : x < 40) (hin : inn x = false) (hL : L.length ≤ 1000) :
    Calls Try.prog 62 #[.pointer (some ⟨gR, 0, none⟩), .int .i64 (x : Int)] W fun e w' => e = .returned (.bool true) ∧ ∃ vc', IM w gR j rv vc' vf (upd inn x true) wk c (L ++ [x]) F gc wt wl w' ∧ Kp W w' gR vc vc' := by
  have c0 := rk_cell_in h.hr hx
  rw [hin] at c0
  have t0 := h.hr.thaw (1 + x)
  have hx0 : (0 : Int) ≤ (x : Int) := by omega
  have hx1 : (x : Int) < 40 := by omega
  have H := hide h
  obtain ⟨i0, hi, hz0, hz1, hz2⟩ := info_parts info_int
  clear h hin
  go_enter Try.func62, Try.ntmps62
  go_wp2_with (refine stop_at (some 19) rfl (fun W1 => IM w gR j rv vc vf (upd inn x true) wk c L F gc wt wl W1 ∧ (∀ b, b ≠ gR → W1.heap[b]? = W.heap[b]?) ∧ W1.heap.size = W.heap.size) ?hR ?_)
  case hR => exact hide ⟨H.out.cell _ _ (fun q _ => by rw [rk_in _ _ _ _ _ _ hx]) rfl rfl, fun b hb => Go.heap_setCell_other _ _ _ _ hb, World.size_setCell _ _ _⟩
  clear H c0 t0
  rintro W1 ⟨h1, hkk⟩
  have HKK := hide hkk
  clear hkk
  have H1 := hide h1
  obtain ⟨-, c1, -, -⟩ := rk_cells h1.hr
  have hown := h1.cm
  obtain ⟨av, cv, rfl⟩ := own_form hown
  have hsz := h1.bel.size
  have H2 := hide (h1.alloc (.cells #[.int .i64 (x : Int)] 3))
  clear h1
  generalize hLn : L.length = n at *
  go_wp2_with (refine wpList_append_lies _ rfl _ _ 29 rfl w.heap.size 3 i0 _ 1 8 Try.underlying29 hi hz0 hz1 hz2 rfl (by decide) _ n _ rfl (hown.alloc _) ⟨W1.heap.size, 0, none⟩ 1 1 [.int .i64 (x : Int)] rfl rfl (news1 W1 _ _) (by intro u hu; simp at hu; subst hu; rfl) (by omega) (by unfold maxLen; omega) (by omega) (by simp; omega) _ rfl ?_)
  intro g' cap' W2 hown2 hgrow hat hlt
  have hr2 := H2.out.hr.grown H2.out.cm (by decide) hgrow
  obtain ⟨-, d1, -, -⟩ := rk_cells hr2
  have t1 := hr2.thaw 41
  subst hLn
  have HE := hide (H2.out.came hown2 hgrow (by rw [World.size_alloc]; exact hat))
  have HK := hide (show Kp W (W2.setCell ⟨gR, 41, none⟩ (.slice (some ⟨g', 0, none⟩) (L.length + 1) cap')) gR (.slice av L.length cv) (.slice (some ⟨g', 0, none⟩) (L.length + 1) cap') from by
    obtain ⟨hkp, hks⟩ := HKK.out
    refine ⟨fun b hb hbr hbo => ?_, fun b hb => ?_, ?_⟩
    · rw [Go.heap_setCell_other _ _ _ _ hbr, hgrow.block b (by rw [World.size_alloc]; omega) (fun e => hbo e.symm), heap_alloc_old _ _ (by omega)]; exact hkp b hbr
    · simp only [Value.ownBlock, Option.some.injEq] at hb
      subst hb
      rcases hat with h | h
      · exact .inl h
      · exact .inr (by omega)
    · rw [World.size_setCell]; have := hgrow.size; rw [World.size_alloc] at this; omega)
  clear hown2 hgrow hat hlt hr2 H1 H2 hown c1 HKK
  go_wp2
  go_ret
  exact ⟨rfl, _, HE.out, HK.out⟩
set_option maxHeartbeats 1000000 in
theorem less_is {w W : World} {gR j wk : Nat} {rv vc vf : Value} {inn : Nat → Bool} {c : Nat → Int} {L F : List Nat} {gc : Nat → Nat} {wt : Nat → Value} {wl : Nat → List Value} (h : IM w gR j rv vc vf inn wk c L F gc wt wl W) {i : Nat} (hi : i < j) (hc0 : 0 ≤ c i) (hc1 : c i ≤ 40) (b : Bool) (hb : (c i - 1 == 0) = b) :
    Calls Try.prog 68 #[.pointer (some ⟨gc i, 0, none⟩)] W fun e w' => e = .returned (.tuple #[.int .i64 (i : Int), .bool b]) ∧ IM w gR j rv vc vf inn wk (upd c i (c i - 1)) L F gc wt wl w' := by
  obtain ⟨c0, c1, t0, t1⟩ := (h.ct i hi).2.pair
  have h2 := h.less hi (c i - 1)
  have H2 := hide h2
  obtain ⟨d0, d1, -, -⟩ := (h2.ct i hi).2.pair
  rw [upd_same] at d1
  clear h h2
  generalize c i = z at *
  generalize gc i = g at *
  go_enter Try.func68, Try.ntmps68
  go_upto_region 2 with fail
  generalize W.setCell ⟨g, 1, none⟩ (.int .i64 (z - 1)) = W2 at *
  clear c0 c1 t0 t1
  go_big_quiet (fail)
  have HE := hide (H2.out.down (below_drewN (Below.refl _ _) nq))
  clear H2 d0 d1
  go_wp2
  go_ret2
  exact ⟨by rw [← hb]; rfl, HE.out⟩
set_option maxHeartbeats 1000000 in
theorem fire_old {w W : World} {gR j wk : Nat} {vc vf : Value} {inn : Nat → Bool} {c : Nat → Int} {L F : List Nat} {gc : Nat → Nat} {wt : Nat → Value} {wl : Nat → List Value} {bb off k cap : Nat} (h : IM w gR j (.slice (some ⟨bb, off, none⟩) k cap) vc vf inn wk c L F gc wt wl W) {i x : Nat} (hi : i < k) (hx : x < 40) (hin : inn x = true) (hc : W.cell? ⟨bb, off + i * 2, none⟩ = some (.int .i64 (x : Int))) :
    Calls Try.prog 61 #[.pointer (some ⟨gR, 0, none⟩), .int .i64 (i : Int)] W fun e w' => e = .returned (.tuple #[]) ∧ w' = W := by
  have H := hide h
  obtain ⟨c0, -, -, -⟩ := rk_cells h.hr
  have hi1 : (i : Int) < (k : Int) := by omega
  clear h
  go_enter Try.func61, Try.ntmps61
  go_wp2_with fail
  refine (come_old H.out hx hin).mono ?_
  rintro e w1 ⟨rfl, rfl⟩
  clear H
  go_wp2
  go_end0
  exact ⟨rfl, rfl⟩
set_option maxHeartbeats 1000000 in
theorem fire_new {w W : World} {gR j wk : Nat} {vc vf : Value} {inn : Nat → Bool} {c : Nat → Int} {L F : List Nat} {gc : Nat → Nat} {wt : Nat → Value} {wl : Nat → List Value} {bb off k cap : Nat} (h : IM w gR j (.slice (some ⟨bb, off, none⟩) k cap) vc vf inn wk c L F gc wt wl W) {i x : Nat} (hi : i < k) (hx : x < 40) (hin : inn x = false) (hL : L.length ≤ 1000) (hF : F.length ≤ 1000) (hc : W.cell? ⟨bb, off + i * 2, none⟩ = some (.int .i64 (x : Int))) :
    Calls Try.prog 61 #[.pointer (some ⟨gR, 0, none⟩), .int .i64 (i : Int)] W fun e w' => e = .returned (.tuple #[]) ∧ ∃ vc' vf', IM w gR j (.slice (some ⟨bb, off, none⟩) k cap) vc' vf' (upd inn x true) wk c (L ++ [x]) (F ++ [i]) gc wt wl w' := by
  have H := hide h
  obtain ⟨c0, -, -, -⟩ := rk_cells h.hr
  have hi1 : (i : Int) < (k : Int) := by omega
  obtain ⟨i0, hi', hz0, hz1, hz2⟩ := info_parts info_int
  clear h
  go_enter Try.func61, Try.ntmps61
  go_wp2_with fail
  refine (come_new H.out hx hin hL).mono ?_
  rintro e W1 ⟨rfl, vc', h1, -⟩
  obtain ⟨-, -, c1, -⟩ := rk_cells h1.hr
  have hown := h1.fr
  obtain ⟨av, cv, rfl⟩ := own_form hown
  have hsz := h1.bel.size
  have H2 := hide (h1.alloc (.cells #[.int .i64 (i : Int)] 3))
  clear h1 H c0 hc
  generalize hFn : F.length = n at *
  go_wp2_with (refine wpList_append_lies _ rfl _ _ 29 rfl w.heap.size 3 i0 _ 1 8 Try.underlying29 hi' hz0 hz1 hz2 rfl (by decide) _ n _ rfl (hown.alloc _) ⟨W1.heap.size, 0, none⟩ 1 1 [.int .i64 (i : Int)] rfl rfl (news1 W1 _ _) (by intro u hu; simp at hu; subst hu; rfl) (by omega) (by unfold maxLen; omega) (by omega) (by simp; omega) _ rfl ?_)
  intro g' cap' W2 hown2 hgrow hat hlt
  have hr2 := H2.out.hr.grown H2.out.fr (by decide) hgrow
  obtain ⟨-, -, d1, -⟩ := rk_cells hr2
  have t1 := hr2.thaw 42
  subst hFn
  have HE := hide (H2.out.firsts hown2 hgrow (by rw [World.size_alloc]; exact hat))
  clear hown2 hgrow hat hlt hr2 H2 hown c1
  go_wp2
  go_end0
  exact ⟨rfl, _, _, HE.out⟩
end Go.Proofs.Ytpabnncfcklnpaa

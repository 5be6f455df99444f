/-
  The law's helpers on worlds: how much they hold, a copy in memory of its own, that two of the same are told alike, and marks on a copy.
-/
import Derived.Test.YtjgopjnkkhkcnaaGreatDoorWoM
import Derived.Test.YtjgopjnkkhkcnaaGreatDoorWoAr
import Derived.Test.YtjgopjnkkhkcnaaGreatDoorWoAs
namespace Go.Proofs.YtjgopjnkkhkcnaaGreatDoor
open Go.RowKit M
open Go.Sort (grow)
namespace M
/-- A world's value, two rows. -/
abbrev wdv (x y : Value) : Value := .agg #[x, y]
/-- A world that is read. -/
structure WdOf (c : Bool) (w : World) (x y : Value) (W : Wd) : Prop where
  r : TpsOf c w x W.rs
  l : TpsOf c w y W.ln
theorem WdOf.below {c : Bool} {w w' : World} {x y : Value} {W : Wd} (h : WdOf c w x y W) (hb : Below w.heap.size w w') : WdOf c w' x y W := ⟨h.r.below hb, h.l.below hb⟩
theorem WdOf.weak {c : Bool} {w : World} {x y : Value} {W : Wd} (h : WdOf c w x y W) : WdOf false w x y W := ⟨h.r.weak, h.l.weak⟩
theorem WdOf.form {c : Bool} {w : World} {x y : Value} {W : Wd} (h : WdOf c w x y W) : ∃ a m b n, x = .slice a W.rs.length m ∧ y = .slice b W.ln.length n := by
  obtain ⟨a, m, rfl⟩ := h.r.form
  obtain ⟨b, n, rfl⟩ := h.l.form
  exact ⟨_, _, _, _, rfl, rfl⟩
/-- A world that a call owns. -/
structure OwnWd (w : World) (B : Nat) (x y : Value) (ts ss : List Tp) : Prop where
  r : OwnTp 32 w B x ts
  l : OwnTp 121 w B y ss
  ap : ∀ k, Blks x ts k → ¬ Blks y ss k
abbrev wd (ts ss : List Tp) : Wd := ⟨rgs ts, rgs ss⟩
theorem OwnWd.down {w w' : World} {B : Nat} {x y : Value} {ts ss : List Tp} (h : OwnWd w B x y ts ss) (hb : Below w.heap.size w w') : OwnWd w' B x y ts ss := ⟨h.r.down hb, h.l.down hb, h.ap⟩
theorem OwnWd.mono {w : World} {B B' : Nat} {x y : Value} {ts ss : List Tp} (h : OwnWd w B x y ts ss) (hB : B' ≤ B) : OwnWd w B' x y ts ss := ⟨h.r.mono hB, h.l.mono hB, h.ap⟩
theorem OwnWd.kept {lo hi : Nat} {w w' : World} {B : Nat} {x y : Value} {ts ss : List Tp} (h : OwnWd w B x y ts ss) (hk : KeptB lo hi w w') (hB : hi ≤ B) : OwnWd w' B x y ts ss := ⟨h.r.kept hk hB, h.l.kept hk hB, h.ap⟩
theorem OwnWd.low {w : World} {B g i : Nat} {x y : Value} {ts ss : List Tp} (h : OwnWd w B x y ts ss) (hg : g < B) (u : Value) : OwnWd (w.setCell ⟨g, i, none⟩ u) B x y ts ss := ⟨h.r.low hg u, h.l.low hg u, h.ap⟩
theorem OwnWd.wd {w : World} {B : Nat} {x y : Value} {ts ss : List Tp} (h : OwnWd w B x y ts ss) : WdOf true w x y (wd ts ss) := ⟨h.r.tps, h.l.tps⟩
theorem OwnWd.form {w : World} {B : Nat} {x y : Value} {ts ss : List Tp} (h : OwnWd w B x y ts ss) : ∃ a m b n, x = .slice a ts.length m ∧ y = .slice b ss.length n := by
  obtain ⟨a, m, rfl⟩ := h.r.form
  obtain ⟨b, n, rfl⟩ := h.l.form
  exact ⟨_, _, _, _, rfl, rfl⟩
theorem OwnWd.nil (w : World) (B : Nat) : OwnWd w B (.slice none 0 0) (.slice none 0 0) [] [] := ⟨OwnTp.nil _ _ _, OwnTp.nil _ _ _, fun k hk => by
  rcases hk with hk | ⟨t, ht, _⟩
  · cases hk
  · cases ht⟩
/-- All its blocks. -/
def BlkW (x y : Value) (ts ss : List Tp) : Nat → Prop := fun k => Blks x ts k ∨ Blks y ss k
theorem OwnWd.blks {w : World} {B k : Nat} {x y : Value} {ts ss : List Tp} (h : OwnWd w B x y ts ss) (hk : BlkW x y ts ss k) : B ≤ k ∧ k < w.heap.size := by
  rcases hk with hk | hk
  · exact h.r.blks hk
  · exact h.l.blks hk
def LenT (ts : List Tp) : Prop := ts.length ≤ 1048576 ∧ ∀ t ∈ ts, t.ps.length ≤ 1048576 ∧ ∀ p ∈ t.ps, p.2.length ≤ 1048576
theorem lenT_of {ts : List Tp} (h : FinS (rgs ts)) : LenT ts := by
  refine ⟨by have := h.1; rw [rgs_len] at this; exact this, fun t ht => ?_⟩
  have h2 := h.2 t.rg (List.mem_map.2 ⟨t, ht, rfl⟩)
  refine ⟨by have := h2.1; rw [bsP_len] at this; exact this, fun p hp => ?_⟩
  exact (h2.2 p.2 (List.mem_map.2 ⟨p, hp, rfl⟩)).1
/-- The law's size of a world. -/
def szW (W : Wd) : Nat := (W.rs.length + wgR W.rs) + (W.ln.length + wgR W.ln)
def FinW (W : Wd) : Prop := FinT W.rs ∧ FinT W.ln
def FinWS (W : Wd) : Prop := FinS W.rs ∧ FinS W.ln
theorem finS_of {rs : List Rg} (h : FinT rs) (hl : rs.length + wgR rs ≤ 1048576) : FinS rs := ⟨by omega, fun r hr => by
  have hm := wgR_mem hr
  have hf := h.2 r hr
  refine ⟨by omega, fun b hb => ⟨?_, (hf.2 b hb).2⟩⟩
  have := wb_mem hb
  unfold wt at this; omega⟩
theorem finWS_of {W : Wd} (h : FinW W) (hl : szW W ≤ 1048576) : FinWS W := by
  unfold szW at hl
  exact ⟨finS_of h.1 (by omega), finS_of h.2 (by omega)⟩
/-- A copy under way: the argument's box, the result's, the one that is built. -/
structure TD (w W : World) (x y p q : Value) : Prop where
  low : Below w.heap.size w W
  arg : Blk W w.heap.size 2 (q2 x y) 53
  res : Blk W (w.heap.size + 1) 2 (q2 (.slice none 0 0) (.slice none 0 0)) 59
  out : Blk W (w.heap.size + 1 + 1) 2 (q2 p q) 59
  big : w.heap.size + 3 ≤ W.heap.size
theorem TD.down {w W W' : World} {x y p q : Value} (h : TD w W x y p q) (hb : Below W.heap.size W W') : TD w W' x y p q :=
  ⟨h.low.trans (hb.mono h.low.size), h.arg.down hb, h.res.down hb, h.out.down hb, Nat.le_trans h.big hb.size⟩
theorem TD.new (w : World) (x y : Value) : TD w (((w.alloc (.cells #[x, y] 53)).alloc (.cells #[.slice none 0 0, .slice none 0 0] 59)).alloc (.cells #[.slice none 0 0, .slice none 0 0] 59)) x y (.slice none 0 0) (.slice none 0 0) := by
  refine ⟨(((Below.refl _ w).alloc (Nat.le_refl _) _).alloc (by simp) _).alloc (by simp; omega) _, ((new2 w _ _ 53).alloc _).alloc _, ?_, ?_, by simp⟩
  · have := (new2 (w.alloc (.cells #[x, y] 53)) (.slice none 0 0) (.slice none 0 0) 59).alloc (.cells #[.slice none 0 0, .slice none 0 0] 59)
    rw [World.size_alloc] at this; exact this
  · have := new2 ((w.alloc (.cells #[x, y] 53)).alloc (.cells #[.slice none 0 0, .slice none 0 0] 59)) (.slice none 0 0) (.slice none 0 0) 59
    rw [World.size_alloc, World.size_alloc] at this; exact this
theorem Blk.duo0 {w : World} {g : Nat} {a b : Value} {t : TypeId} (h : Blk w g 2 (q2 a b) t) (x : Value) : Blk (w.setCell ⟨g, 0, none⟩ x) g 2 (q2 x b) t := by
  refine (h.set 0 x).ext fun i hi => ?_
  rcases (show i = 0 ∨ i = 1 by omega) with e | e
  · subst e; rfl
  · subst e; rfl
theorem TD.put0 {w W : World} {x y p q : Value} (h : TD w W x y p q) (u : Value) : TD w (W.setCell ⟨w.heap.size + 1 + 1, 0, none⟩ u) x y u q :=
  ⟨h.low.setCell (p := ⟨w.heap.size + 1 + 1, 0, none⟩) (by show w.heap.size ≤ w.heap.size + 1 + 1; omega) _, h.arg.off (by omega) _, h.res.off (by omega) _, h.out.duo0 _, by rw [World.size_setCell]; exact h.big⟩
theorem TD.put1 {w W : World} {x y p q : Value} (h : TD w W x y p q) (u : Value) : TD w (W.setCell ⟨w.heap.size + 1 + 1, 1, none⟩ u) x y p u :=
  ⟨h.low.setCell (p := ⟨w.heap.size + 1 + 1, 1, none⟩) (by show w.heap.size ≤ w.heap.size + 1 + 1; omega) _, h.arg.off (by omega) _, h.res.off (by omega) _, h.out.duo1 _, by rw [World.size_setCell]; exact h.big⟩
theorem low2 (w : World) (a b : Obj) : Below w.heap.size w ((w.alloc a).alloc b) := ((Below.refl _ w).alloc (Nat.le_refl _) _).alloc (by simp) _
end M
set_option maxHeartbeats 1000000 in
set_option maxRecDepth 20000 in
theorem to_world (x y : Value) (W : Wd) (w : World) (hv : WdOf false w x y W) (hf : FinWS W) :
    Calls Tryz.prog 31 #[wdv x y] w fun e w' => (∃ x' y' ts ss, e = .returned (wdv x' y') ∧ OwnWd w' w.heap.size x' y' ts ss ∧ wd ts ss = W) ∧ Below w.heap.size w w' := by
  have HV := hide hv
  have HF := hide hf
  obtain ⟨a, m, b, n, rfl, rfl⟩ := hv.form
  obtain ⟨W0, hW⟩ : ∃ W0, ((w.alloc (.cells #[.slice a W.rs.length m, .slice b W.ln.length n] 53)).alloc (.cells #[.slice none 0 0, .slice none 0 0] 59)).alloc (.cells #[.slice none 0 0, .slice none 0 0] 59) = W0 := ⟨_, rfl⟩
  have HT0 := hide (show TD w W0 (.slice a W.rs.length m) (.slice b W.ln.length n) (.slice none 0 0) (.slice none 0 0) from by rw [← hW]; exact TD.new w _ _)
  have HWW := hide hW
  clear hv hf hW
  go_enter Tryz.func31, Tryz.ntmps31
  go_wp2_with fail
  rw [HWW.out]
  clear HWW
  refine (to_regions _ W.rs _ (HV.out.r.below HT0.out.low) HF.out.1).mono ?_
  rintro e w1 ⟨⟨ts, rfl, hX, hts⟩, hb1⟩
  have HT1 := hide (HT0.out.down hb1)
  have HX1 := hide hX
  have HTS := hide hts
  obtain ⟨⟨d0, d1⟩, -⟩ := HT1.out.arg.duo
  obtain ⟨⟨f0, f1⟩, f3, f4⟩ := HT1.out.out.duo
  obtain ⟨w1s, hw1s⟩ : ∃ z, w1.setCell ⟨w.heap.size + 1 + 1, 0, none⟩ (.slice (some ⟨W0.heap.size, 0, none⟩) W.rs.length W.rs.length) = z := ⟨_, rfl⟩
  have HT2 := hide (show TD w w1s (.slice a W.rs.length m) (.slice b W.ln.length n) (.slice (some ⟨W0.heap.size, 0, none⟩) W.rs.length W.rs.length) (.slice none 0 0) from by rw [← hw1s]; exact HT1.out.put0 _)
  have HX2 := hide (show OwnTp 32 w1s W0.heap.size (.slice (some ⟨W0.heap.size, 0, none⟩) W.rs.length W.rs.length) ts from by rw [← hw1s]; exact HX1.out.low (by have := HT0.out.big; omega) _)
  have HS := hide hw1s
  clear hX hts hb1 HT1 HX1 hw1s
  go_wp2_with fail
  rw [HS.out]
  clear d0 d1 f0 f1 f3 f4 HS
  refine (to_saids _ W.ln _ (HV.out.l.below HT2.out.low) HF.out.2).mono ?_
  rintro e w2 ⟨⟨ss, rfl, hY, hss⟩, hb2⟩
  have HT3 := hide (HT2.out.down hb2)
  have HX3 := hide (HX2.out.down hb2)
  have HSS := hide hss
  have HAP := hide (show ∀ k, Blks (.slice (some ⟨W0.heap.size, 0, none⟩) W.rs.length W.rs.length) ts k → ¬ Blks (.slice (some ⟨w1s.heap.size, 0, none⟩) W.ln.length W.ln.length) ss k from fun k h1 h2 => by
    have := HX2.out.blks h1
    have := hY.blks h2
    omega)
  obtain ⟨⟨f0, f1⟩, f3, f4⟩ := HT3.out.out.duo
  obtain ⟨⟨g0, g1⟩, g3, g4⟩ := HT3.out.res.duo
  have HY := hide (hY.mono (show W0.heap.size ≤ w1s.heap.size from Nat.le_of_lt (HX2.out.lt rfl).2))
  obtain ⟨WZ, hWZ⟩ : ∃ WZ, ((w2.setCell ⟨w.heap.size + 1 + 1, 1, none⟩ (.slice (some ⟨w1s.heap.size, 0, none⟩) W.ln.length W.ln.length)).setCell ⟨w.heap.size + 1, 0, none⟩ (.slice (some ⟨W0.heap.size, 0, none⟩) W.rs.length W.rs.length)).setCell ⟨w.heap.size + 1, 1, none⟩ (.slice (some ⟨w1s.heap.size, 0, none⟩) W.ln.length W.ln.length) = WZ := ⟨_, rfl⟩
  have HZ := hide (show Blk WZ (w.heap.size + 1) 2 (q2 (.slice (some ⟨W0.heap.size, 0, none⟩) W.rs.length W.rs.length) (.slice (some ⟨w1s.heap.size, 0, none⟩) W.ln.length W.ln.length)) 59 from by rw [← hWZ]; exact (HT3.out.put1 _).res.put2 _ _)
  have HZO := hide (show OwnWd WZ w.heap.size (.slice (some ⟨W0.heap.size, 0, none⟩) W.rs.length W.rs.length) (.slice (some ⟨w1s.heap.size, 0, none⟩) W.ln.length W.ln.length) ts ss from by
    have hbig := HT0.out.big
    rw [← hWZ]
    exact ((((show OwnWd w2 W0.heap.size _ _ ts ss from ⟨HX3.out, HY.out, HAP.out⟩).low (by omega) _).low (by omega) _).low (by omega) _).mono (by omega))
  have HZB := hide (show Below w.heap.size w WZ from by
    rw [← hWZ]; exact ((HT3.out.put1 (.slice (some ⟨w1s.heap.size, 0, none⟩) W.ln.length W.ln.length)).low.setCell (p := ⟨w.heap.size + 1, 0, none⟩) (by show w.heap.size ≤ w.heap.size + 1; omega) _).setCell (p := ⟨w.heap.size + 1, 1, none⟩) (by show w.heap.size ≤ w.heap.size + 1; omega) _)
  have HWZ := hide hWZ
  have HWD := hide (show wd ts ss = W from by rw [show wd ts ss = ⟨rgs ts, rgs ss⟩ from rfl, HTS.out, HSS.out])
  clear hWZ hb2 hY hss HT3 HX3 HX2 HT2 HT0 HV HF HAP HY HTS HSS
  go_wp2
  rw [HWZ.out]
  clear f0 f1 f3 f4 g0 g1 g3 g4
  obtain ⟨⟨e0, e1⟩, -⟩ := HZ.out.duo
  exact bodyPost_ret (v := wdv (.slice (some ⟨W0.heap.size, 0, none⟩) W.rs.length W.rs.length) (.slice (some ⟨w1s.heap.size, 0, none⟩) W.ln.length W.ln.length)) (by simp [results, Tryz.results31, go_sem, e0, e1]) rfl ⟨⟨_, _, ts, ss, rfl, HZO.out, HWD.out⟩, HZB.out⟩
set_option maxRecDepth 20000 in
theorem eq_world (x y p q : Value) (W : Wd) (w : World) (hv : WdOf false w x y W) (hu : WdOf false w p q W) (hf : FinWS W) :
    Calls Tryz.prog 33 #[wdv x y, wdv p q] w fun e w' => e = .returned (.bool true) ∧ Below w.heap.size w w' := by
  have HF := hide hf
  have hal := low2 w (.cells #[x, y] 59) (.cells #[p, q] 59)
  have HV := hide (hv.below hal)
  have HU := hide (hu.below hal)
  have HC1 := hide (show Blk ((w.alloc (.cells #[x, y] 59)).alloc (.cells #[p, q] 59)) w.heap.size 2 (q2 x y) 59 from (new2 w x y _).alloc _)
  have HC2 := hide (show Blk ((w.alloc (.cells #[x, y] 59)).alloc (.cells #[p, q] 59)) (w.heap.size + 1) 2 (q2 p q) 59 from by
    have := new2 (w.alloc (.cells #[x, y] 59)) p q 59
    rw [World.size_alloc] at this; exact this)
  obtain ⟨a, m, b, n, rfl, rfl⟩ := hv.form
  obtain ⟨a', m', b', n', rfl, rfl⟩ := hu.form
  clear hv hu hf
  go_enter Tryz.func33, Tryz.ntmps33
  go_wp2_with fail
  refine (eq_regions _ _ W.rs _ HV.out.r HU.out.r HF.out.1).mono ?_
  rintro e w1 ⟨rfl, hb1⟩
  have hbw := hal.trans (hb1.mono hal.size)
  have HV1 := hide (HV.out.below hb1)
  have HU1 := hide (HU.out.below hb1)
  obtain ⟨⟨d0, d1⟩, -⟩ := (HC1.out.down hb1).duo
  obtain ⟨⟨e0, e1⟩, -⟩ := (HC2.out.down hb1).duo
  clear hb1 hal HV HU HC1 HC2
  go_wp2_with fail
  refine (eq_saids _ _ W.ln _ HV1.out.l HU1.out.l HF.out.2).mono ?_
  rintro e w2 ⟨rfl, hb2⟩
  have hbw2 := hbw.trans (hb2.mono hbw.size)
  clear hb2 hbw d0 d1 e0 e1
  go_wp2
  go_ret
  exact ⟨rfl, hbw2⟩
set_option maxRecDepth 20000 in
theorem sz_world (x y : Value) (W : Wd) (left : Int) (w : World) (hv : WdOf false w x y W) (hf : FinW W) (hl0 : 0 ≤ left) (hl1 : left ≤ 1048576) :
    Calls Tryz.prog 29 #[wdv x y, .int .i64 left] w fun e w' => e = .returned (.int .i64 (szr left (szW W))) ∧ Below w.heap.size w w' := by
  have HF := hide hf
  have ha := low1 w (.cells #[x, y] 53)
  have HV := hide (hv.below ha)
  have HC := hide (new2 w x y 53)
  obtain ⟨a, m, b, n, rfl, rfl⟩ := hv.form
  clear hv hf
  by_cases h1 : ((W.rs.length + wgR W.rs : Nat) : Int) ≤ left
  · have hz := szr_yes h1
    have hge : ¬ (szr left (W.rs.length + wgR W.rs) < 0) := by rw [hz]; omega
    have HZ := hide hz
    clear hz
    by_cases h2 : ((W.ln.length + wgR W.ln : Nat) : Int) ≤ szr left (W.rs.length + wgR W.rs)
    · have hz2 := szr_yes h2
      have hge2 : ¬ (szr (szr left (W.rs.length + wgR W.rs)) (W.ln.length + wgR W.ln) < 0) := by rw [hz2]; omega
      have HE := hide (show szr (szr left (W.rs.length + wgR W.rs)) (W.ln.length + wgR W.ln) = szr left (szW W) from by
        rw [hz2, HZ.out, szr_yes (by unfold szW; rw [HZ.out] at h2; omega)]; unfold szW; omega)
      clear hz2
      go_enter Tryz.func29, Tryz.ntmps29
      go_wp2_with fail
      refine (sz_regions _ W.rs left _ HV.out.r HF.out.1 hl0 hl1).mono ?_
      rintro e w1 ⟨rfl, hb⟩
      have hb1 := ha.trans (hb.mono ha.size)
      have HV1 := hide (HV.out.below hb)
      obtain ⟨⟨d0, d1⟩, -⟩ := (HC.out.down hb).duo
      clear hb ha HV HC
      go_wp2_with fail
      refine (sz_saids _ W.ln _ _ HV1.out.l HF.out.2 (by omega) (by rw [HZ.out]; omega)).mono ?_
      rintro e w2 ⟨rfl, hb⟩
      have hb2 := hb1.trans (hb.mono hb1.size)
      clear hb d0 d1
      go_wp2
      go_ret
      exact ⟨ret_int (by rw [HE.out]), hb2⟩
    · have hz2 := szr_no (left := szr left (W.rs.length + wgR W.rs)) (n := W.ln.length + wgR W.ln) (by omega)
      have hge2 : szr (szr left (W.rs.length + wgR W.rs)) (W.ln.length + wgR W.ln) < 0 := by rw [hz2]; omega
      have HE := hide (show szr left (szW W) = -1 from szr_no (by unfold szW; rw [HZ.out] at h2; omega))
      clear hz2
      go_enter Tryz.func29, Tryz.ntmps29
      go_wp2_with fail
      refine (sz_regions _ W.rs left _ HV.out.r HF.out.1 hl0 hl1).mono ?_
      rintro e w1 ⟨rfl, hb⟩
      have hb1 := ha.trans (hb.mono ha.size)
      have HV1 := hide (HV.out.below hb)
      obtain ⟨⟨d0, d1⟩, -⟩ := (HC.out.down hb).duo
      clear hb ha HV HC
      go_wp2_with fail
      refine (sz_saids _ W.ln _ _ HV1.out.l HF.out.2 (by omega) (by rw [HZ.out]; omega)).mono ?_
      rintro e w2 ⟨rfl, hb⟩
      have hb2 := hb1.trans (hb.mono hb1.size)
      clear hb d0 d1
      go_wp2
      go_ret
      exact ⟨ret_int (by rw [HE.out]), hb2⟩
  · have hz := szr_no (left := left) (n := W.rs.length + wgR W.rs) (by omega)
    have hge : szr left (W.rs.length + wgR W.rs) < 0 := by rw [hz]; omega
    have HE := hide (show szr left (szW W) = -1 from szr_no (by unfold szW; omega))
    clear hz
    go_enter Tryz.func29, Tryz.ntmps29
    go_wp2_with fail
    refine (sz_regions _ W.rs left _ HV.out.r HF.out.1 hl0 hl1).mono ?_
    rintro e w1 ⟨rfl, hb⟩
    have hb1 := ha.trans (hb.mono ha.size)
    clear hb ha
    go_wp2
    go_ret
    exact ⟨ret_int (by rw [HE.out]), hb1⟩
set_option maxRecDepth 20000 in
theorem mark_world (B k0 lo hi : Nat) (x y : Value) (ts ss : List Tp) (w : World) (h : OwnWd w B x y ts ss) (hlo : lo ≤ B) (hin : ∀ k, BlkW x y ts ss k → k < hi) (hl1 : LenT ts) (hl2 : LenT ss) (h1 : 1 ≤ k0) (hk0 : k0 + evT ts + evT ss ≤ 20000000) :
    Calls Tryz.prog 38 #[wdv x y, .int .i64 (k0 : Int)] w fun e w' => e = .returned (.int .i64 ((k0 + evT ts + evT ss : Nat) : Int)) ∧ OwnWd w' B x y (mkT k0 ts) (mkT (k0 + evT ts) ss) ∧ KeptB lo hi w w' := by
  have hal := low1 w (.cells #[x, y] 59)
  have HI := hide hin
  have HB := hide (fun k hk => (h.blks (k := k) hk).1)
  have HP := hide (h.down hal)
  have HC := hide (new2 w x y 59)
  have HK := hide (M.Below.keptB hal lo hi)
  have HL2 := hide hl2
  have hAL := hide hal
  obtain ⟨a, m, b, n, rfl, rfl⟩ := h.form
  have HF0 := hide (show ∀ k, Blks (.slice a ts.length m) ts k → k ≠ w.heap.size from fun k hk e => by have := (h.blks (.inl hk)).2; omega)
  clear h hin hal
  go_enter Tryz.func38, Tryz.ntmps38
  go_wp2_with fail
  refine (mark_regions B k0 _ ts _ HP.out.r hl1.1 hl1.2 h1 (by omega)).mono ?_
  rintro e w1 ⟨rfl, hO, hk⟩
  have HO1 := hide hO
  have HL := hide (HP.out.l.keptS hk (fun k h1 h2 => HP.out.ap k h2 h1))
  have HK1 := hide (HK.out.trans (hk.toB (fun k hk' => ⟨Nat.le_trans hlo (HB.out k (.inl hk')), HI.out k (.inl hk')⟩)))
  have hbx : Blk w1 w.heap.size 2 (q2 (.slice a ts.length m) (.slice b ss.length n)) 59 := by
    unfold Blk
    rw [hk.block w.heap.size HC.out.lt (fun hh => HF0.out _ hh rfl)]
    exact HC.out
  obtain ⟨⟨d0, d1⟩, -⟩ := hbx.duo
  obtain ⟨z, hz⟩ : ∃ z, k0 + evT ts = z := ⟨_, rfl⟩
  have HZ := hide hz
  rw [hz] at hk0 ⊢
  clear hO hk HK HC hbx hz
  go_wp2_with fail
  refine (mark_saids B z _ ss _ HL.out HL2.out.1 HL2.out.2 (by have := HZ.out; omega) hk0).mono ?_
  rintro e w2 ⟨rfl, hO2, hk2⟩
  have HO2 := hide hO2
  have HR2 := hide (HO1.out.keptS hk2 (fun k hk' hh => HP.out.ap k ((blks_mk _ _ _ _).1 hk') hh))
  have HK2 := hide (HK1.out.trans (hk2.toB (fun k hk' => ⟨Nat.le_trans hlo (HB.out k (.inr hk')), HI.out k (.inr hk')⟩)))
  have HAP := hide (show ∀ k, Blks (.slice a ts.length m) (mkT k0 ts) k → ¬ Blks (.slice b ss.length n) (mkT z ss) k from fun k hk' hh => HP.out.ap k ((blks_mk _ _ _ _).1 hk') ((blks_mk _ _ _ _).1 hh))
  clear hO2 hk2 HO1 HK1 HL HP d0 d1 hAL
  go_wp2
  go_ret
  have hz := HZ.out
  subst hz
  exact ⟨ret_int (by go_num), ⟨HR2.out, HO2.out, HAP.out⟩, HK2.out⟩
set_option maxRecDepth 20000 in
theorem held_world (B k0 : Nat) (x y : Value) (ts ss : List Tp) (w : World) (h : OwnWd w B x y (mkT k0 ts) (mkT (k0 + evT ts) ss)) (hl1 : LenT ts) (hl2 : LenT ss) (h1 : 1 ≤ k0) (hk0 : k0 + evT ts + evT ss ≤ 20000000) :
    Calls Tryz.prog 39 #[wdv x y, .int .i64 (k0 : Int)] w fun e w' => e = .returned (.int .i64 ((k0 + evT ts + evT ss : Nat) : Int)) ∧ Below w.heap.size w w' := by
  have hal := low1 w (.cells #[x, y] 59)
  have HP := hide (h.down hal)
  have HC := hide (new2 w x y 59)
  have HL2 := hide hl2
  obtain ⟨a, m, b, n, hx, hy⟩ := h.form
  rw [mkT_len] at hx hy
  subst hx hy
  obtain ⟨z, hz⟩ : ∃ z, k0 + evT ts = z := ⟨_, rfl⟩
  have HZ := hide hz
  obtain ⟨zz, hzz⟩ : ∃ zz, z + evT ss = zz := ⟨_, rfl⟩
  have HZZ := hide hzz
  rw [hz] at hk0 HP ⊢
  rw [hzz] at hk0 ⊢
  have hge : ¬ (((z : Nat) : Int) < 0) := by omega
  have hge2 : ¬ (((zz : Nat) : Int) < 0) := by omega
  clear h hz hzz
  go_enter Tryz.func39, Tryz.ntmps39
  go_wp2_with fail
  refine (held_regions B k0 _ ts _ HP.out.r hl1.1 hl1.2 h1 (by have := HZ.out; have := HZZ.out; omega)).mono ?_
  rw [HZ.out]
  rintro e w1 ⟨rfl, hb⟩
  have hb1 := hal.trans (hb.mono hal.size)
  have HL := hide (HP.out.l.down hb)
  obtain ⟨⟨d0, d1⟩, -⟩ := (HC.out.down hb).duo
  clear hb hal HP HC
  go_wp2_with fail
  refine (held_saids B z _ ss _ HL.out HL2.out.1 HL2.out.2 (by have := HZ.out; omega) (by have := HZZ.out; omega)).mono ?_
  rw [HZZ.out]
  rintro e w2 ⟨rfl, hb⟩
  have hb2 := hb1.trans (hb.mono hb1.size)
  clear hb d0 d1 HL
  go_wp2
  go_ret
  exact ⟨rfl, hb2⟩
end Go.Proofs.YtjgopjnkkhkcnaaGreatDoor

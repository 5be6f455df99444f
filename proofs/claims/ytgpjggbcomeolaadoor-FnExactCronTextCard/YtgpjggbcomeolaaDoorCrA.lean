/-
  The law's helpers on crons: how much is left, a copy in new memory, two that are told alike.
-/
import Derived.Test.YtgpjggbcomeolaaDoorCrM
namespace Go.Proofs.YtgpjggbcomeolaaDoor
open Go.RowKit M
open Clk (upd upd_same upd_other)
theorem sz_ints (a : Option Addr) (n cap : Nat) (left : Int) (w : World) (hn : n ≤ maxLen) (h0 : 0 ≤ left) (h1 : left ≤ 1048576) :
    Calls Tryd.prog 21 #[.slice a n cap, .int .i64 left] w fun e w' => (∃ r : Int, e = .returned (.int .i64 r) ∧ ((r = -1) ∨ (r = left - n ∧ 0 ≤ r))) ∧ w' = w := by
  unfold maxLen at hn
  by_cases h : left - (n : Int) < 0
  · go_enter Tryd.func21, Tryd.ntmps21
    go_wp2
    go_ret
    exact ⟨⟨_, rfl, .inl rfl⟩, rfl⟩
  · go_enter Tryd.func21, Tryd.ntmps21
    go_wp2
    go_ret
    exact ⟨⟨_, rfl, .inr ⟨rfl, by omega⟩⟩, rfl⟩
set_option maxHeartbeats 1000000 in
theorem sz_cron (v0 v1 v2 : Value) (c : Crn) (w : World) (hv : CronOf w v0 v1 v2 c) (hl : LensC c) :
    Calls Tryd.prog 10 #[.agg #[v0, v1, v2], .int .i64 1048576] w fun e w' => (∃ r : Int, e = .returned (.int .i64 r) ∧ ((r = -1) ∨ (0 ≤ r ∧ ShortC c))) ∧ Below w.heap.size w w' := by
  obtain ⟨a0, c0, rfl⟩ := hv.1.form
  obtain ⟨a1, c1, rfl⟩ := hv.2.1.form
  obtain ⟨a2, c2, rfl⟩ := hv.2.2.form
  have HL := hide hl
  clear hv hl
  have hbw := (Below.refl w.heap.size w).alloc (Nat.le_refl _) (.cells #[.slice a0 c.nm c0, .slice a1 c.nh c1, .slice a2 c.nd c2] 30)
  go_enter Tryd.func10, Tryd.ntmps10
  go_wp2_with fail
  refine (sz_ints _ _ _ _ _ HL.out.1 (by decide) (by decide)).mono ?_
  rintro e w1 ⟨⟨r, rfl, hr⟩, rfl⟩
  rcases hr with hr | ⟨hr, hr0⟩
  · have hrn : r < 0 := by omega
    clear hr
    go_wp2
    go_ret
    exact ⟨⟨_, rfl, .inl rfl⟩, hbw⟩
  · have hrn : ¬ r < 0 := by omega
    have hr1 : r ≤ 1048576 := by omega
    have HR := hide hr
    clear hr
    go_wp2_with fail
    refine (sz_ints _ _ _ _ _ HL.out.2.1 hr0 hr1).mono ?_
    rintro e w2 ⟨⟨r2, rfl, hr2⟩, rfl⟩
    rcases hr2 with hr2 | ⟨hr2, hr20⟩
    · have hrn2 : r2 < 0 := by omega
      clear hr2
      go_wp2
      go_ret
      exact ⟨⟨_, rfl, .inl rfl⟩, hbw⟩
    · have hrn2 : ¬ r2 < 0 := by omega
      have hr21 : r2 ≤ 1048576 := by omega
      have HR2 := hide hr2
      clear hr2
      go_wp2_with fail
      refine (sz_ints _ _ _ _ _ HL.out.2.2 hr20 hr21).mono ?_
      rintro e w3 ⟨⟨r3, rfl, hr3⟩, rfl⟩
      rcases hr3 with hr3 | ⟨hr3, hr30⟩
      · have hrn3 : r3 < 0 := by omega
        clear hr3
        go_wp2
        go_ret
        exact ⟨⟨_, rfl, .inl rfl⟩, hbw⟩
      · have hrn3 : ¬ r3 < 0 := by omega
        have HR3 := hide hr3
        clear hr3
        go_wp2
        go_ret
        refine ⟨⟨_, rfl, .inr ⟨hr30, ?_⟩⟩, hbw⟩
        have h1 := HR.out
        have h2 := HR2.out
        have h3 := HR3.out
        exact ⟨by omega, by omega, by omega⟩
set_option maxHeartbeats 1000000 in
theorem eq_cron (v0 v1 v2 u0 u1 u2 : Value) (c : Crn) (w : World) (hv : CronOf w v0 v1 v2 c) (hu : CronOf w u0 u1 u2 c) (hs : ShortC c) :
    Calls Tryd.prog 7 #[.agg #[v0, v1, v2], .agg #[u0, u1, u2]] w fun e w' => e = .returned (.bool true) ∧ Below w.heap.size w w' := by
  have hb0 := ((Below.refl w.heap.size w).alloc (Nat.le_refl _) (.cells #[v0, v1, v2] 24)).alloc (by simp) (.cells #[u0, u1, u2] 24)
  have HM0 := hide ((new3 w v0 v1 v2 24).alloc (.cells #[u0, u1, u2] 24))
  have HN0 := hide (new3 (w.alloc (.cells #[v0, v1, v2] 24)) u0 u1 u2 24)
  obtain ⟨a0, c0, rfl⟩ := hv.1.form
  obtain ⟨a1, c1, rfl⟩ := hv.2.1.form
  obtain ⟨a2, c2, rfl⟩ := hv.2.2.form
  obtain ⟨a3, c3, rfl⟩ := hu.1.form
  obtain ⟨a4, c4, rfl⟩ := hu.2.1.form
  obtain ⟨a5, c5, rfl⟩ := hu.2.2.form
  have HV := hide hv
  have HU := hide hu
  have HS := hide hs
  clear hv hu hs
  go_enter Tryd.func7, Tryd.ntmps7
  go_wp2_with fail
  refine (eq_ints _ _ _ _ _ (HV.out.1.below hb0) (HU.out.1.below hb0) HS.out.1).mono ?_
  rintro e w1 ⟨rfl, hb⟩
  have hb1 := hb0.trans (hb.mono hb0.size)
  have HM1 := hide (HM0.out.down hb)
  have HN1 := hide (HN0.out.down hb)
  obtain ⟨⟨m0, m1, m2⟩, -⟩ := HM1.out.tri
  obtain ⟨⟨n0, n1, n2⟩, -⟩ := HN1.out.tri
  rw [World.size_alloc] at n0 n1 n2
  clear hb hb0 HM0 HN0
  go_wp2_with fail
  refine (eq_ints _ _ _ _ _ (HV.out.2.1.below hb1) (HU.out.2.1.below hb1) HS.out.2.1).mono ?_
  rintro e w2 ⟨rfl, hb⟩
  have hb2 := hb1.trans (hb.mono hb1.size)
  have HM2 := hide (HM1.out.down hb)
  have HN2 := hide (HN1.out.down hb)
  clear m0 m1 m2 n0 n1 n2
  obtain ⟨⟨m0, m1, m2⟩, -⟩ := HM2.out.tri
  obtain ⟨⟨n0, n1, n2⟩, -⟩ := HN2.out.tri
  rw [World.size_alloc] at n0 n1 n2
  clear hb hb1 HM1 HN1
  go_wp2_with fail
  refine (eq_ints _ _ _ _ _ (HV.out.2.2.below hb2) (HU.out.2.2.below hb2) HS.out.2.2).mono ?_
  rintro e w3 ⟨rfl, hb⟩
  have hb3 := hb2.trans (hb.mono hb2.size)
  clear m0 m1 m2 n0 n1 n2 hb hb2 HM2 HN2
  go_wp2
  go_ret
  exact ⟨rfl, hb3⟩
namespace M
/-- A number list of its own, at block g. -/
theorem blk_ints {w w' : World} {g n : Nat} {f : Nat → Int} (h : Blk w g n (iv f) 3) (hb : Below w.heap.size w w') {g' : Nat} (hne : g ≠ g') (i : Nat) (v : Value) : Blk (w'.setCell ⟨g', i, none⟩ v) g n (iv f) 3 := (h.down hb).set_other hne i v
end M
set_option maxHeartbeats 2000000 in
theorem to_cron (v0 v1 v2 : Value) (c : Crn) (w : World) (hv : CronOf w v0 v1 v2 c) (hs : ShortC c) :
    Calls Tryd.prog 12 #[.agg #[v0, v1, v2]] w fun e w' => (∃ u0 u1 u2, e = .returned (.agg #[u0, u1, u2]) ∧ CronOf w' u0 u1 u2 c) ∧ Below w.heap.size w w' := by
  have HY := hide hv
  have HS := hide hs
  obtain ⟨a0, c0, rfl⟩ := hv.1.form
  obtain ⟨a1, c1, rfl⟩ := hv.2.1.form
  obtain ⟨a2, c2, rfl⟩ := hv.2.2.form
  clear hv hs
  obtain ⟨W, hW⟩ : ∃ W, ((w.alloc (.cells #[.slice a0 c.nm c0, .slice a1 c.nh c1, .slice a2 c.nd c2] 30)).alloc (.cells #[.slice none 0 0, .slice none 0 0, .slice none 0 0] 24)).alloc (.cells #[.slice none 0 0, .slice none 0 0, .slice none 0 0] 24) = W := ⟨_, rfl⟩
  have HD0 := hide (show Blk W w.heap.size 3 (p3 (.slice a0 c.nm c0) (.slice a1 c.nh c1) (.slice a2 c.nd c2)) 30 from by subst hW; exact ((new3 w _ _ _ _).alloc _).alloc _)
  have HE0 := hide (show Blk W (w.heap.size + 1) 3 (p3 (.slice none 0 0) (.slice none 0 0) (.slice none 0 0)) 24 from by subst hW; have := (new3 (w.alloc (.cells #[.slice a0 c.nm c0, .slice a1 c.nh c1, .slice a2 c.nd c2] 30)) (.slice none 0 0) (.slice none 0 0) (.slice none 0 0) 24).alloc (.cells #[.slice none 0 0, .slice none 0 0, .slice none 0 0] 24); rw [World.size_alloc] at this; exact this)
  have HF0 := hide (show Blk W (w.heap.size + 1 + 1) 3 (p3 (.slice none 0 0) (.slice none 0 0) (.slice none 0 0)) 24 from by subst hW; have := new3 ((w.alloc (.cells #[.slice a0 c.nm c0, .slice a1 c.nh c1, .slice a2 c.nd c2] 30)).alloc (.cells #[.slice none 0 0, .slice none 0 0, .slice none 0 0] 24)) (.slice none 0 0) (.slice none 0 0) (.slice none 0 0) 24; rw [World.size_alloc, World.size_alloc] at this; exact this)
  have hb0 : Below w.heap.size w W := by subst hW; exact (((Below.refl _ w).alloc (Nat.le_refl _) _).alloc (by simp) _).alloc (by simp; omega) _
  have hs0 : W.heap.size = w.heap.size + 3 := by subst hW; simp
  have HW0 := hide hs0
  have HWW := hide hW
  clear hs0 hW
  go_enter Tryd.func12, Tryd.ntmps12
  go_wp2_with fail
  rw [HWW.out]
  clear HWW
  refine (to_ints _ _ _ _ (HY.out.1.below hb0) HS.out.1).mono ?_
  rintro e w1 ⟨⟨rfl, hk1⟩, hb⟩
  have hb1 := hb0.trans (hb.mono hb0.size)
  have hsz := hb.size
  have HI1 := hide hk1
  have HD1 := hide (HD0.out.down hb)
  have HE1 := hide (HE0.out.down hb)
  have HF1 := hide (HF0.out.down hb)
  clear hk1 hb hb0 HD0 HE0 HF0
  obtain ⟨⟨d0, d1, d2⟩, -⟩ := HD1.out.tri
  obtain ⟨⟨f0, f1, f2⟩, g0, g1, g2⟩ := HF1.out.tri
  go_wp2_with fail
  obtain ⟨W2, hW2⟩ : ∃ W2, w1.setCell ⟨w.heap.size + 1 + 1, 0, none⟩ (.slice (some ⟨W.heap.size, 0, none⟩) c.nm c.nm) = W2 := ⟨_, rfl⟩
  rw [hW2]
  have hb2 : Below w.heap.size w W2 := by rw [← hW2]; exact hb1.setCell (p := ⟨w.heap.size + 1 + 1, 0, none⟩) (show w.heap.size ≤ w.heap.size + 1 + 1 by omega) _
  have hsz2 : W.heap.size ≤ W2.heap.size := by rw [← hW2, World.size_setCell]; exact hsz
  have HI2 := hide (show Blk W2 W.heap.size c.nm (iv c.fm) 3 from by rw [← hW2]; exact HI1.out.set_other (by have := HW0.out; omega) _ _)
  have HD2 := hide (show Blk W2 w.heap.size 3 (p3 (.slice a0 c.nm c0) (.slice a1 c.nh c1) (.slice a2 c.nd c2)) 30 from by rw [← hW2]; exact HD1.out.set_other (by omega) _ _)
  have HE2 := hide (show Blk W2 (w.heap.size + 1) 3 (p3 (.slice none 0 0) (.slice none 0 0) (.slice none 0 0)) 24 from by rw [← hW2]; exact HE1.out.set_other (by omega) _ _)
  have HF2 := hide (show Blk W2 (w.heap.size + 1 + 1) 3 (p3 (.slice (some ⟨W.heap.size, 0, none⟩) c.nm c.nm) (.slice none 0 0) (.slice none 0 0)) 24 from by rw [← hW2]; exact HF1.out.tri0 _)
  clear hW2 HI1 HD1 HE1 HF1 d0 d1 d2 f0 f1 f2 g0 g1 g2 hb1 hsz
  refine (to_ints _ _ _ _ (HY.out.2.1.below hb2) HS.out.2.1).mono ?_
  rintro e w3 ⟨⟨rfl, hk3⟩, hb⟩
  have hb3 := hb2.trans (hb.mono hb2.size)
  have hsz3 := Nat.le_trans hsz2 hb.size
  have HJ3 := hide hk3
  have HI3 := hide (HI2.out.down hb)
  have HD3 := hide (HD2.out.down hb)
  have HE3 := hide (HE2.out.down hb)
  have HF3 := hide (HF2.out.down hb)
  clear hk3 hb hb2 HI2 HD2 HE2 HF2
  obtain ⟨⟨d0, d1, d2⟩, -⟩ := HD3.out.tri
  obtain ⟨⟨f0, f1, f2⟩, g0, g1, g2⟩ := HF3.out.tri
  go_wp2_with fail
  obtain ⟨W4, hW4⟩ : ∃ W4, w3.setCell ⟨w.heap.size + 1 + 1, 1, none⟩ (.slice (some ⟨W2.heap.size, 0, none⟩) c.nh c.nh) = W4 := ⟨_, rfl⟩
  rw [hW4]
  have hb4 : Below w.heap.size w W4 := by rw [← hW4]; exact hb3.setCell (p := ⟨w.heap.size + 1 + 1, 1, none⟩) (show w.heap.size ≤ w.heap.size + 1 + 1 by omega) _
  have hsz4 : W.heap.size ≤ W4.heap.size := by rw [← hW4, World.size_setCell]; exact hsz3
  have HI4 := hide (show Blk W4 W.heap.size c.nm (iv c.fm) 3 from by rw [← hW4]; exact HI3.out.set_other (by have := HW0.out; omega) _ _)
  have HJ4 := hide (show Blk W4 W2.heap.size c.nh (iv c.fh) 3 from by rw [← hW4]; exact HJ3.out.set_other (by have := HW0.out; omega) _ _)
  have HD4 := hide (show Blk W4 w.heap.size 3 (p3 (.slice a0 c.nm c0) (.slice a1 c.nh c1) (.slice a2 c.nd c2)) 30 from by rw [← hW4]; exact HD3.out.set_other (by omega) _ _)
  have HE4 := hide (show Blk W4 (w.heap.size + 1) 3 (p3 (.slice none 0 0) (.slice none 0 0) (.slice none 0 0)) 24 from by rw [← hW4]; exact HE3.out.set_other (by omega) _ _)
  have HF4 := hide (show Blk W4 (w.heap.size + 1 + 1) 3 (p3 (.slice (some ⟨W.heap.size, 0, none⟩) c.nm c.nm) (.slice (some ⟨W2.heap.size, 0, none⟩) c.nh c.nh) (.slice none 0 0)) 24 from by rw [← hW4]; exact HF3.out.tri1 _)
  clear hW4 HI3 HJ3 HD3 HE3 HF3 d0 d1 d2 f0 f1 f2 g0 g1 g2 hb3 hsz3
  refine (to_ints _ _ _ _ (HY.out.2.2.below hb4) HS.out.2.2).mono ?_
  rintro e w5 ⟨⟨rfl, hk5⟩, hb⟩
  have hb5 := hb4.trans (hb.mono hb4.size)
  have HK5 := hide hk5
  have HI5 := hide (HI4.out.down hb)
  have HJ5 := hide (HJ4.out.down hb)
  have HE5 := hide (HE4.out.down hb)
  have HF5 := hide (HF4.out.down hb)
  clear hk5 hb hb4 HI4 HJ4 HD4 HE4 HF4
  obtain ⟨⟨e0, e1, e2⟩, e3, e4, e5⟩ := HE5.out.tri
  obtain ⟨⟨f0, f1, f2⟩, g0, g1, g2⟩ := HF5.out.tri
  have hbf := (((hb5.setCell (p := ⟨w.heap.size + 1 + 1, 2, none⟩) (show w.heap.size ≤ w.heap.size + 1 + 1 by omega) (.slice (some ⟨W4.heap.size, 0, none⟩) c.nd c.nd)).setCell (p := ⟨w.heap.size + 1, 0, none⟩) (show w.heap.size ≤ w.heap.size + 1 by omega) (.slice (some ⟨W.heap.size, 0, none⟩) c.nm c.nm)).setCell (p := ⟨w.heap.size + 1, 1, none⟩) (show w.heap.size ≤ w.heap.size + 1 by omega) (.slice (some ⟨W2.heap.size, 0, none⟩) c.nh c.nh)).setCell (p := ⟨w.heap.size + 1, 2, none⟩) (show w.heap.size ≤ w.heap.size + 1 by omega) (.slice (some ⟨W4.heap.size, 0, none⟩) c.nd c.nd)
  have HC := hide (show CronOf ((((w5.setCell ⟨w.heap.size + 1 + 1, 2, none⟩ (.slice (some ⟨W4.heap.size, 0, none⟩) c.nd c.nd)).setCell ⟨w.heap.size + 1, 0, none⟩ (.slice (some ⟨W.heap.size, 0, none⟩) c.nm c.nm)).setCell ⟨w.heap.size + 1, 1, none⟩ (.slice (some ⟨W2.heap.size, 0, none⟩) c.nh c.nh)).setCell ⟨w.heap.size + 1, 2, none⟩ (.slice (some ⟨W4.heap.size, 0, none⟩) c.nd c.nd)) (.slice (some ⟨W.heap.size, 0, none⟩) c.nm c.nm) (.slice (some ⟨W2.heap.size, 0, none⟩) c.nh c.nh) (.slice (some ⟨W4.heap.size, 0, none⟩) c.nd c.nd) c from by
    have h0 := HW0.out
    have key : ∀ {g n : Nat} {f : Nat → Int}, W.heap.size ≤ g → Blk w5 g n (iv f) 3 → Blk ((((w5.setCell ⟨w.heap.size + 1 + 1, 2, none⟩ (.slice (some ⟨W4.heap.size, 0, none⟩) c.nd c.nd)).setCell ⟨w.heap.size + 1, 0, none⟩ (.slice (some ⟨W.heap.size, 0, none⟩) c.nm c.nm)).setCell ⟨w.heap.size + 1, 1, none⟩ (.slice (some ⟨W2.heap.size, 0, none⟩) c.nh c.nh)).setCell ⟨w.heap.size + 1, 2, none⟩ (.slice (some ⟨W4.heap.size, 0, none⟩) c.nd c.nd)) g n (iv f) 3 := fun hg h => (((h.set_other (by omega) _ _).set_other (by omega) _ _).set_other (by omega) _ _).set_other (by omega) _ _
    exact ⟨(key (Nat.le_refl _) HI5.out).ints, (key (by omega) HJ5.out).ints, (key (by omega) HK5.out).ints⟩)
  clear HI5 HJ5 HK5 HE5 HF5 hb5 HY HS HW0 hsz2 hsz4
  go_wp2
  exact bodyPost_ret (v := .agg #[.slice (some ⟨W.heap.size, 0, none⟩) c.nm c.nm, .slice (some ⟨W2.heap.size, 0, none⟩) c.nh c.nh, .slice (some ⟨W4.heap.size, 0, none⟩) c.nd c.nd]) (by simp [results, Tryd.results12, go_sem, e0, e1, e2]) rfl ⟨⟨_, _, _, rfl, HC.out⟩, hbf⟩
end Go.Proofs.YtgpjggbcomeolaaDoor

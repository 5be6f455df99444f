/-
  The law FnClocks, walked: whatever the bytes, it returns true and turns nothing that was there.
-/
import Derived.Test.YtlbcmlleoncddaaClA
import Derived.Test.YtlbcmlleoncddaaGoodB
namespace Go.Proofs.Ytlbcmlleoncddaa
open Go.RowKit M
open Go.Sort (grow)
open Clk (upd upd_same upd_other)
namespace M
theorem IntsOf.nil (w : World) (f : Nat → Int) : IntsOf w (.slice none 0 0) 0 f := ⟨none, 0, rfl, fun h => absurd h (Nat.lt_irrefl _)⟩
/-- The acts, their vectors and their numbers, as they were told. -/
structure CS (w W : World) (va : Value) (n : Nat) (l : Nat → Ac) (vv : Value) (k : Nat) (vn : Value) : Prop where
  low : Below w.heap.size w W
  acts : ActsOf W va n l
  vecs : IntssOf W vv n k (Vf l)
  nums : IntsOf W vn n (Nf l)
theorem CS.down {w W W' : World} {va : Value} {n : Nat} {l : Nat → Ac} {vv : Value} {k : Nat} {vn : Value} (h : CS w W va n l vv k vn) (hb : Below W.heap.size W W') : CS w W' va n l vv k vn :=
  ⟨h.low.trans (hb.mono h.low.size), h.acts.below hb, h.vecs.below hb, h.nums.below hb⟩
end M
set_option maxRecDepth 20000 in
set_option maxHeartbeats 8000000 in
theorem law_fnClocks (v : Value) (n0 : Nat) (f0 : Nat → Nat) (w : World) (hv : OctetsOf w v n0 f0) (hm : n0 ≤ maxLen) :
    Calls Try.prog 11 #[v] w fun e w' => e = .returned (.bool true) ∧ Below w.heap.size w w' := by
  unfold maxLen at hm
  have HV := hide hv
  obtain ⟨av, cv, rfl⟩ := hv.form
  clear hv
  by_cases hbig : n0 ≤ 1048576
  case neg =>
    have hg : (n0 : Int) > 1048576 := by omega
    clear HV
    go_enter Try.func11, Try.ntmps11
    go_wp2
    go_ret
    exact ⟨rfl, Below.refl _ _⟩
  have hng : ¬ ((n0 : Int) > 1048576) := by omega
  go_enter Try.func11, Try.ntmps11
  go_wp2_with fail
  refine (draw_vecs _ n0 f0 _ HV.out hbig).mono ?_
  rintro e w1 ⟨⟨p, n, l, r, rfl, hp, hn, hr⟩, hb1⟩
  obtain ⟨ra, rc, rfl⟩ := hr.form
  have HR1 := hide hr
  clear HV hr hm hng
  by_cases hg : GoodL (p : Int) n l
  case neg =>
    have HG := hide hg
    clear hg
    go_wp2_with fail
    refine (impl_vecs_no _ _ n l _ HR1.out (by omega) HG.out).mono ?_
    rintro e w2 ⟨rfl, hb⟩
    have HR2 := hide (HR1.out.below hb)
    have hb2 := hb1.trans (hb.mono hb1.size)
    clear HR1 hb hb1
    go_wp2_with fail
    refine (spec_vecs_no _ _ n l _ HR2.out (by omega) HG.out (by omega) (by omega)).mono ?_
    rintro e w3 ⟨rfl, hb⟩
    have HR3 := hide (HR2.out.below hb)
    have hb3 := hb2.trans (hb.mono hb2.size)
    clear HR2 hb hb2
    go_wp2_with fail
    refine (impl_lam_no _ _ n l _ HR3.out (by omega) HG.out).mono ?_
    rintro e w4 ⟨rfl, hb⟩
    have HR4 := hide (HR3.out.below hb)
    have hb4 := hb3.trans (hb.mono hb3.size)
    clear HR3 hb hb3
    go_wp2_with fail
    refine (spec_lam_no _ _ n l _ HR4.out (by omega) HG.out (by omega) (by omega)).mono ?_
    rintro e w5 ⟨rfl, hb⟩
    have HR5 := hide (HR4.out.below hb)
    have hb5 := hb4.trans (hb.mono hb4.size)
    clear HR4 hb hb4
    go_wp2_with fail
    refine (same_lists _ _ 0 0 (fun _ _ => 0) _ (.none _ _ _) (.none _ _ _) (by omega) (by omega)).mono ?_
    rintro e w6 ⟨rfl, hb⟩
    have HR6 := hide (HR5.out.below hb)
    have hb6 := hb5.trans (hb.mono hb5.size)
    clear HR5 hb hb5
    go_wp2_with fail
    refine (same_ints _ _ 0 (fun _ => 0) _ (.nil _ _) (.nil _ _) (by omega)).mono ?_
    rintro e w7 ⟨rfl, hb⟩
    have HR7 := hide (HR6.out.below hb)
    have hb7 := hb6.trans (hb.mono hb6.size)
    clear HR6 hb hb6
    go_wp2_with fail
    refine (impl_good_no _ _ n l _ HR7.out (by omega) HG.out).mono ?_
    rintro e w8 ⟨rfl, hb⟩
    have hb8 := hb7.trans (hb.mono hb7.size)
    clear HR7 hb hb7 HG
    go_wp2
    go_ret
    exact ⟨rfl, hb8⟩
  have HG := hide hg
  have hp6 : p ≤ 6 := by have := hg.1.2; omega
  clear hg
  go_wp2_with fail
  refine (impl_vecs p _ n l _ HR1.out HG.out).mono ?_
  rintro e w2 ⟨⟨rv, rfl, hans⟩, hb⟩
  have HA2 := hide hans.reads
  obtain ⟨va, vc, rfl⟩ := hans.form
  have HR2 := hide (HR1.out.below hb)
  have hb2 := hb1.trans (hb.mono hb1.size)
  clear HR1 hb hb1 hans
  go_wp2_with fail
  refine (spec_vecs p _ n l _ HR2.out HG.out).mono ?_
  rintro e w3 ⟨⟨rw3, rfl, hw3⟩, hb⟩
  obtain ⟨wa, wc, rfl⟩ := hw3.form
  have HW3 := hide hw3
  have HA3 := hide (HA2.out.below hb)
  have HR3 := hide (HR2.out.below hb)
  have hb3 := hb2.trans (hb.mono hb2.size)
  clear HR2 hb hb2 HA2 hw3
  go_wp2_with fail
  refine (impl_lam _ _ n l _ HR3.out HG.out).mono ?_
  rintro e w4 ⟨⟨bn, rfl, -, hbn⟩, hb⟩
  have HP4 := hide (show CS w w4 (.slice ra n rc) n l (.slice va n vc) p (.slice (some ⟨bn, 0, none⟩) n n) from ⟨hb3.trans (hb.mono hb3.size), HR3.out.below hb, HA3.out.below hb, hbn.ints⟩)
  have HW4 := hide (HW3.out.below hb)
  clear HR3 hb hb3 HA3 HW3 hbn
  go_wp2_with fail
  refine (spec_lam _ _ n l _ HP4.out.acts HG.out).mono ?_
  rintro e w5 ⟨⟨rn, rfl, hrn⟩, hb⟩
  obtain ⟨na, nc, rfl⟩ := hrn.form
  have HN5 := hide hrn
  have HP5 := hide (HP4.out.down hb)
  have HW5 := hide (HW4.out.below hb)
  clear HP4 hb HW4 hrn
  go_wp2_with fail
  refine (same_lists _ _ n p (Vf l) _ HP5.out.vecs HW5.out (by omega) (by omega)).mono ?_
  rintro e w6 ⟨rfl, hb⟩
  have HN6 := hide (HN5.out.below hb)
  have HP6 := hide (HP5.out.down hb)
  clear HP5 hb HW5 HN5
  go_wp2_with fail
  refine (same_ints _ _ n (Nf l) _ HP6.out.nums HN6.out (by omega)).mono ?_
  rintro e w7 ⟨rfl, hb⟩
  have HP7 := hide (HP6.out.down hb)
  clear HP6 hb HN6
  go_wp2_with fail
  refine (impl_good_yes _ _ n l _ HP7.out.acts HG.out).mono ?_
  rintro e w8 ⟨rfl, hb⟩
  have HP8 := hide (HP7.out.down hb)
  clear HP7 hb
  go_wp2
  go_loopw [13] (fun y wr => ∃ b : Nat, b ≤ n ∧ b ≤ 20 ∧ y = .int .i64 (b : Int) ∧ Hid (CS w wr (.slice ra n rc) n l (.slice va n vc) p (.slice (some ⟨bn, 0, none⟩) n n))) (fun y _ => 20 - (intOf y).toNat)
  case atStart => exact ⟨0, Nat.zero_le _, Nat.zero_le _, rfl, HP8⟩
  case round =>
    rename World => wo
    obtain ⟨b, hbn, hb20, rfl, HPo⟩ := hrel
    clear HP8
    by_cases hlt : b < n
    case neg =>
      have hbz := HPo.out.low
      have hd : decide ((b : Int) < (n : Int)) = false := decide_eq_false (by omega)
      clear HPo
      go_wp2
      go_ret
      exact ⟨rfl, hbz⟩
    have hd : decide ((b : Int) < (n : Int)) = true := decide_eq_true (by omega)
    by_cases hlt2 : b < 20
    case neg =>
      have hbz := HPo.out.low
      have hd2 : decide ((b : Int) < 20) = false := decide_eq_false (by omega)
      clear HPo
      go_wp2
      go_ret
      exact ⟨rfl, hbz⟩
    have hd2 : decide ((b : Int) < 20) = true := decide_eq_true (by omega)
    go_wp2
    go_loopw [14] (fun y wr => ∃ a : Nat, a ≤ n ∧ a ≤ 20 ∧ y = .int .i64 (a : Int) ∧ Hid (CS w wr (.slice ra n rc) n l (.slice va n vc) p (.slice (some ⟨bn, 0, none⟩) n n))) (fun y _ => 20 - (intOf y).toNat)
    case atStart => exact ⟨0, Nat.zero_le _, Nat.zero_le _, rfl, HPo⟩
    case round =>
      rename World => wi
      obtain ⟨a, han, ha20, rfl, HPi⟩ := hrel
      clear HPo
      by_cases hla : a < n
      case neg =>
        have hda : decide ((a : Int) < (n : Int)) = false := decide_eq_false (by omega)
        go_wp2
        go_roundw
        case rel => exact ⟨b + 1, by omega, by omega, by go_num, HPi⟩
        case measure => simp [intOf]; omega
      have hda : decide ((a : Int) < (n : Int)) = true := decide_eq_true (by omega)
      by_cases hla2 : a < 20
      case neg =>
        have hda2 : decide ((a : Int) < 20) = false := decide_eq_false (by omega)
        go_wp2
        go_roundw
        case rel => exact ⟨b + 1, by omega, by omega, by go_num, HPi⟩
        case measure => simp [intOf]; omega
      have hda2 : decide ((a : Int) < 20) = true := decide_eq_true (by omega)
      go_wp2_with fail
      refine (impl_ahead _ _ n l a b _ HPi.out.acts HG.out hla hlt).mono ?_
      rintro e w9 ⟨rfl, hb⟩
      have HP9 := hide (HPi.out.down hb)
      clear HPi hb
      have HT := hide (told HG.out hla hlt)
      obtain ⟨c, hc⟩ : ∃ c, cmpB (anyLt (Vf l a) (Vf l b) p) (anyLt (Vf l b) (Vf l a) p) = c := ⟨_, rfl⟩
      rw [hc] at HT
      obtain ⟨x, hx⟩ : ∃ x : Bool, Ab l b a = x := ⟨_, rfl⟩
      obtain ⟨_, _, ev, hrw⟩ := HP9.out.vecs
      obtain ⟨vb, off, hb0, hvl, hrow⟩ := hrw (by omega)
      obtain ⟨rfl, -⟩ : va = some ⟨vb, off, none⟩ ∧ True := by refine ⟨?_, trivial⟩; rw [← hb0]; simp only [Value.slice.injEq] at ev; exact ev.1
      obtain ⟨r1, hc1, hI1⟩ := hrow a hla
      obtain ⟨r2, hc2, hI2⟩ := hrow b hlt
      obtain ⟨x1, x2, rfl⟩ := hI1.form
      obtain ⟨y1, y2, rfl⟩ := hI2.form
      have k0 := cell_regrown hc1
      have k1 := cell_regrown hc2
      have hi0 : (0 : Int) ≤ (a : Int) := by omega
      have hi1 : (a : Int) < (n : Int) := by omega
      have hj0 : (0 : Int) ≤ (b : Int) := by omega
      have hj1 : (b : Int) < (n : Int) := by omega
      have HE := hide (show ∀ d os, Calls Try.prog 31 #[.slice x1 p x2, .slice y1 p y2] (grow (redrawn w9 d) os) fun e w'' => e = .returned (.tuple #[.int .i64 c, .bool true]) ∧ ∃ p : Regrown, w'' = grow (redrawn w9 p.d) p.os from fun d os => Calls.regrown_of (by rw [← hc]; exact impl_cmp _ _ p (Vf l a) (Vf l b) _ (hI1.below (below_regrown w9 d os)) (hI2.below (below_regrown w9 d os)) hp6))
      clear hrow hrw hI1 hI2 hc1 hc2 ev hb0 hc
      rw [hx]
      go_wp2
      refine wp_region_quiet_below (by kernel_rfl) (by kernel_rfl) ?_
      repeat (go_big_quiet_step (exact HE.out _ _))
      refine wpQuiet_nil ?_
      intro _ hw'
      obtain ⟨⟨dq, osq⟩, hw''⟩ := hw'
      generalize hWW : grow (redrawn w9 dq) osq = w10 at hw''
      subst hw''
      have HP10 := hide (HP9.out.down (hWW ▸ below_regrown w9 dq osq))
      clear HP9 HE k0 k1 hWW
      obtain ⟨_, _, en, hnm⟩ := HP10.out.nums
      obtain ⟨nb, noff, hn0, hnl, hnrow⟩ := hnm (by omega)
      obtain ⟨rfl, rfl⟩ : nb = bn ∧ noff = 0 := by
        simp only [Value.slice.injEq] at en
        rw [hn0] at en
        have := en.1
        simp at this
        exact ⟨this.1.symm, this.2.symm⟩
      have q0 := hnrow a hla
      have q1 := hnrow b hlt
      rw [Nat.zero_add] at q0 q1
      clear hnrow hnm en hn0
      have HT2 := HT.out
      unfold TldC at HT2
      rw [hx] at HT2
      generalize Nf l a = xa at *
      generalize Nf l b = xb at *
      clear HT hx
      rcases HT2 with ⟨rfl, rfl, hlt3, hab⟩ | ⟨rfl, rfl, rfl⟩ | ⟨hc12, rfl, hab⟩
      · have g1 : decide (xa ≥ xb) = false := decide_eq_false (by omega)
        have g2 : ((a : Int) == (b : Int)) = false := by simp; omega
        go_wp2
        go_big_quiet (fail)
        go_wp2
        go_roundw
        case rel => exact ⟨a + 1, by omega, by omega, by go_num, hide (HP10.out.down (by first | exact below_drewN (Below.refl _ _) _ | exact Below.refl _ _))⟩
        case measure => simp [intOf]; omega
      · go_wp2
        go_big_quiet (fail)
        go_wp2
        go_roundw
        case rel => exact ⟨a + 1, by omega, by omega, by go_num, hide (HP10.out.down (by first | exact below_drewN (Below.refl _ _) _ | exact Below.refl _ _))⟩
        case measure => simp [intOf]; omega
      · have g2 : ((a : Int) == (b : Int)) = false := by simp; omega
        have g3 : (c == (-1 : Int)) = false := by simp; omega
        have g4 : (c == (0 : Int)) = false := by simp; omega
        go_wp2
        go_big_quiet (fail)
        go_wp2
        go_roundw
        case rel => exact ⟨a + 1, by omega, by omega, by go_num, hide (HP10.out.down (by first | exact below_drewN (Below.refl _ _) _ | exact Below.refl _ _))⟩
        case measure => simp [intOf]; omega
end Go.Proofs.Ytlbcmlleoncddaa

/-
  CountYes of both texts and its law.
-/
import Derived.Test.YtfiooclkefmijaaDoorBddCO
import Derived.Test.YtfiooclkefmijaaDoorBddLD
namespace Go.Proofs.YtfiooclkefmijaaDoor
open Go.RowKit M
open Clk (upd upd_same upd_other)
set_option maxRecDepth 20000 in
set_option maxHeartbeats 400000 in
theorem impl_count (v : Value) (r : Int) (l : List Bdd.Ch) (b : Bool) (hb : b = true ↔ Bdd.Good l r) (w : World) (hv : ChsOf w v l) (hn : l.length ≤ 1048576) (ho : OV w) :
    Calls Tryd.prog 28 #[dgV v r] w fun e w' => e = .returned (.tuple #[.int .i64 (if b then (pc (Bdd.dec l r) : Int) else 0), .bool b]) ∧ Below w.heap.size w w' := by
  have HV := hide hv
  obtain ⟨a, cap, rfl⟩ := hv.form
  have hd1 := (Below.refl w.heap.size w).alloc (Nat.le_refl _) (.cells #[.slice a l.length cap, .int .i64 r] 27)
  have hbx := Blk.fresh w #[.slice a l.length cap, .int .i64 r] 2 (q2 (.slice a l.length cap) (.int .i64 r)) 27 rfl
  have HD := hide hd1
  have HX := hide hbx
  have HG := hide (impl_good_b (.slice a l.length cap) r l b hb _ (hv.below hd1) hn (ho.below hd1))
  clear hv hd1 hbx ho
  cases b with
  | false =>
    clear hb
    go_enter Tryd.func28, Tryd.ntmps28
    go_wp2_with fail
    refine HG.out.mono ?_
    rintro e w2 ⟨rfl, hb2⟩
    have HB := hide (HD.out.trans (hb2.mono (by simp)))
    clear hb2 HD HX HV HG
    go_wp2
    go_ret2
    exact ⟨rfl, HB.out⟩
  | true =>
    have HE := hide (hb.1 rfl).1
    clear hb
    go_enter Tryd.func28, Tryd.ntmps28
    go_wp2_with fail
    refine HG.out.mono ?_
    rintro e w2 ⟨rfl, hb2⟩
    have HB := hide (HD.out.trans (hb2.mono (by simp)))
    obtain ⟨x0, x1, -, -⟩ := (HX.out.down hb2).two
    simp [q2] at x0 x1
    have HV2 := hide (HV.out.below HB.out)
    clear hb2 HD HX HV HG
    go_wp2_with fail
    refine (decisions_in _ r l _ HV2.out HE.out).mono ?_
    rintro e w3 ⟨rfl, hb3⟩
    have HB3 := hide (HB.out.trans (hb3.mono HB.out.size))
    clear hb3 HB x0 x1 HV2
    go_wp2_with fail
    refine (ones_count (Bdd.dec l r) _).mono ?_
    rintro e w4 ⟨rfl, rfl⟩
    go_wp2
    go_ret2
    exact ⟨rfl, HB3.out⟩
set_option maxRecDepth 20000 in
set_option maxHeartbeats 400000 in
theorem spec_count (v : Value) (r : Int) (l : List Bdd.Ch) (b : Bool) (hb : b = true ↔ Bdd.Good l r) (w : World) (hv : ChsOf w v l) (hn : l.length ≤ 1048576) :
    Calls Tryd.prog 27 #[dgV v r] w fun e w' => e = .returned (.tuple #[.int .i64 (if b then (pc (Bdd.dec l r) : Int) else 0), .bool b]) ∧ Below w.heap.size w w' := by
  have HV := hide hv
  obtain ⟨a, cap, rfl⟩ := hv.form
  have hd1 := (Below.refl w.heap.size w).alloc (Nat.le_refl _) (.cells #[.slice a l.length cap, .int .i64 r] 27)
  have HD := hide hd1
  have HG := hide (l7_good_b (.slice a l.length cap) r l b hb _ (hv.below hd1) hn)
  clear hv hd1 hb
  cases b with
  | false =>
    go_enter Tryd.func27, Tryd.ntmps27
    go_wp2_with fail
    refine HG.out.mono ?_
    rintro e w2 ⟨⟨t, rfl, ht⟩, hb2⟩
    have HB := hide (HD.out.trans (hb2.mono (by simp)))
    clear hb2 HD HV HG ht
    go_wp2
    go_ret2
    exact ⟨rfl, HB.out⟩
  | true =>
    go_enter Tryd.func27, Tryd.ntmps27
    go_wp2_with fail
    refine HG.out.mono ?_
    rintro e w2 ⟨⟨t, rfl, ht⟩, hb2⟩
    have HB := hide (HD.out.trans (hb2.mono (by simp)))
    have HT := hide (ht (by trivial))
    clear hb2 HD HV HG ht
    go_wp2_with fail
    go_loopw [4, 6] (fun x i wr => ∃ (s : Bdd.T) (n : Nat), x = uv s ∧ i = .int .i64 n ∧ Hid (n + pc s = pc t ∧ wr = w2)) (fun x _ _ => (intOf x).toNat)
    case atStart => exact ⟨t, 0, rfl, rfl, hide ⟨by omega, rfl⟩⟩
    case round =>
      obtain ⟨s, n, rfl, rfl, HI⟩ := hrel
      obtain ⟨hp, rfl⟩ := HI.out
      by_cases h0 : s = 0
      · have HF := hide (pc_end h0 hp HT.out)
        have hz : ¬ (0 < tn s) := by rw [tn_of0 h0]; omega
        clear HI hp h0
        go_wp2
        go_ret2
        exact ⟨by rw [HF.out]; rfl, HB.out⟩
      · have hz : 0 < tn s := tn_pos h0
        have hsub := tn_sub s h0
        have HN := hide (round_facts h0 hp).1
        have hn64 := (round_facts h0 hp).2
        have HM := hide (tn_less h0)
        clear HI hp h0
        go_wp2
        refine ⟨⟨s &&& (s - 1), n + 1, congrArg (Value.int .u64) (u_and s (s - 1)), by go_num, hide ⟨HN.out, trivial⟩⟩, ?_⟩
        have h3 := congrArg (fun z => Int.toNat z) (u_and s (s - 1))
        exact Nat.lt_of_le_of_lt (Nat.le_of_eq h3) HM.out
theorem law_count (v : Value) (l : List Bdd.Ch) (r : Int) (w : World) (ho : OV w) (hv : ChsOf w v l) (hm : l.length ≤ maxLen) :
    Calls Tryd.prog 8 #[dgV v r] w fun e w' => e = .returned (.bool true) ∧ Below w.heap.size w w' := by
  obtain ⟨b, hb⟩ := good_bool l r
  exact law_CountYes_run v l r w ho hv hm fun hn => ⟨_, b, fun u W h => spec_count u r l b hb W h hn, fun u W ho h => impl_count u r l b hb W h hn ho⟩
end Go.Proofs.YtfiooclkefmijaaDoor

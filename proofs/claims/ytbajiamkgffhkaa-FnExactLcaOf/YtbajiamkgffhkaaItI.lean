/-
  The law of LcaOf, walked, at every two lists of items.
-/
import Derived.Test.YtbajiamkgffhkaaItD
namespace Go.Proofs.Ytbajiamkgffhkaa
open Go.RowKit M
open Clk (upd upd_same upd_other)
set_option maxRecDepth 20000 in
set_option maxHeartbeats 4000000 in
theorem law_lcaOf (v0 : Value) (n0 : Nat) (l0 : Nat → Im) (v1 : Value) (n1 : Nat) (l1 : Nat → Im) (w : World) (hv0 : ItemsOf w v0 n0 l0) (hl0 : n0 ≤ maxLen) (hv1 : ItemsOf w v1 n1 l1) (hl1 : n1 ≤ maxLen) :
    Calls Try.prog 7 #[v0, v1] w fun e w' => e = .returned (.bool true) ∧ Below w.heap.size w w' := by
  obtain ⟨c, ok, hR⟩ := rl_ex n0 l0 n1 l1
  have HR := hide hR
  have HV0 := hide hv0
  have HL0 := hide hl0
  obtain ⟨a0, cap0, rfl⟩ := hv0.form
  have HV1 := hide hv1
  have HL1 := hide hl1
  obtain ⟨a1, cap1, rfl⟩ := hv1.form
  have hr1 : (ok != ok) = false := by simp
  clear hv0 hl0 hv1 hl1 hR
  go_enter Try.func7, Try.ntmps7
  go_wp2_with fail
  refine (sz_items _ n0 _ 1048576 _ HL0.out (by omega) (by omega)).mono ?_
  rintro e w1 ⟨⟨q0, rfl, hq0⟩, rfl⟩
  by_cases hn0 : q0 < 0
  · clear hq0
    go_wp2
    go_ret
    exact ⟨rfl, Below.refl _ _⟩
  have hc0 : n0 ≤ 1048576 := by omega
  have HC0 := hide hc0
  have hy0 : 0 ≤ q0 := by omega
  have hx0 : q0 ≤ 1048576 := by omega
  clear hq0 hc0
  go_wp2_with fail
  refine (sz_items _ n1 _ q0 _ HL1.out (by omega) (by omega)).mono ?_
  rintro e w1 ⟨⟨q1, rfl, hq1⟩, rfl⟩
  by_cases hn1 : q1 < 0
  · clear hq1
    go_wp2
    go_ret
    exact ⟨rfl, Below.refl _ _⟩
  have hc1 : n1 ≤ 1048576 := by omega
  have HC1 := hide hc1
  clear hq1 hc1 hy0 hx0
  go_wp2_with fail
  refine (to_items _ n0 l0 _ HV0.out HC0.out).mono ?_
  rintro e w3 ⟨⟨rfl, hO⟩, hB⟩
  have HO0 := hide hO
  clear hO
  go_wp2_with fail
  refine (to_items _ n1 l1 _ (HV1.out.below hB) HC1.out).mono ?_
  rintro e w4 ⟨⟨rfl, hO⟩, hb⟩
  have HO1 := hide hO
  have HO0n := hide (HO0.out.down hb)
  have hB4 := hB.trans (hb.mono hB.size)
  clear hO HO0 hb hB
  go_wp2_with fail
  refine (spec_lcaOf _ _ n0 n1 l0 l1 c ok _ HO0n.out.items HO1.out.items HC0.out HC1.out HR.out).mono ?_
  rintro e w5 ⟨rfl, hb⟩
  have hB5 := hB4.trans (hb.mono hB4.size)
  have HX := hide (Bx.new w5 c)
  have hB6 := hB5.alloc hB5.size (.cells #[.int .i64 c.u, .int .i64 c.v] 39)
  clear hb hB4 hB5 HO0n HO1
  go_wp2_with fail
  refine (to_items _ n0 l0 _ (HV0.out.below hB6) HC0.out).mono ?_
  rintro e w7 ⟨⟨rfl, hO⟩, hb⟩
  rw [show (w5.alloc (.cells #[.int .i64 c.u, .int .i64 c.v] 39)).heap.size = w5.heap.size + 1 by simp] at hO
  have HO0 := hide hO
  have HX7 := hide (HX.out.down hb)
  have hB7 := hB6.trans (hb.mono hB6.size)
  clear hb hO HX hB6
  go_wp2_with fail
  refine (to_items _ n1 l1 _ (HV1.out.below hB7) HC1.out).mono ?_
  rintro e w8 ⟨⟨rfl, hO⟩, hb⟩
  have HO1 := hide hO
  have HO0n := hide (HO0.out.down hb)
  have HX8 := hide (HX7.out.down hb)
  have hB8 := hB7.trans (hb.mono hB7.size)
  clear hb hO HX7 hB7 HO0
  go_wp2_with fail
  refine (impl_lcaOf _ _ n0 n1 l0 l1 c ok _ HO0n.out.items HO1.out.items HC0.out HC1.out HR.out).mono ?_
  rintro e w9 ⟨rfl, hb⟩
  have hd := (Below.refl w9.heap.size w9).alloc (Nat.le_refl _) (.cells #[.int .i64 c.u, .int .i64 c.v] 39)
  have HP0 := hide ((HO0n.out.down hb).down hd)
  have HP1 := hide ((HO1.out.down hb).down hd)
  have hX9 := HX8.out.down hb
  have x0 := hX9.u
  have x1 := hX9.v
  have hlt := hX9.lt
  have hB9 := hB8.trans (hb.mono hB8.size)
  have hB10 := hB9.alloc hB9.size (.cells #[.int .i64 c.u, .int .i64 c.v] 39)
  clear hb HX8 hB8 HO0n HO1 hB9 hd hX9
  go_wp2_with fail
  refine (eq_item c _).mono ?_
  rintro e w11 ⟨rfl, hb⟩
  have hB11 := hB10.trans (hb.mono hB10.size)
  have HQ0 := hide (HP0.out.down hb)
  have HQ1 := hide (HP1.out.down hb)
  clear hb hB10 HP0 HP1 x0 x1 hlt
  go_wp2_with fail
  refine (to_items _ n0 l0 _ (HV0.out.below hB11) HC0.out).mono ?_
  rintro e w12 ⟨⟨rfl, hO⟩, hb⟩
  have HO := hide hO
  have HQ0n := hide (HQ0.out.down hb)
  have HQ1n := hide (HQ1.out.down hb)
  have hB12 := hB11.trans (hb.mono hB11.size)
  clear hb hO HQ0 HQ1 hB11
  go_wp2_with fail
  refine (eq_items _ _ n0 l0 _ HQ0n.out.items HO.out.items HC0.out).mono ?_
  rintro e w13 ⟨rfl, hb⟩
  have hB13 := hB12.trans (hb.mono hB12.size)
  have HQ1 := hide (HQ1n.out.down hb)
  clear hb HQ0n HQ1n HO hB12
  go_wp2_with fail
  refine (to_items _ n1 l1 _ (HV1.out.below hB13) HC1.out).mono ?_
  rintro e w14 ⟨⟨rfl, hO⟩, hb⟩
  have HO := hide hO
  have HQ1n := hide (HQ1.out.down hb)
  have hB14 := hB13.trans (hb.mono hB13.size)
  clear hb hO HQ1 hB13
  go_wp2_with fail
  refine (eq_items _ _ n1 l1 _ HQ1n.out.items HO.out.items HC1.out).mono ?_
  rintro e w15 ⟨rfl, hb⟩
  have hB15 := hB14.trans (hb.mono hB14.size)
  clear hb HQ1n HO hB14 HV0 HV1
  go_wp2
  go_ret
  exact ⟨rfl, hB15⟩
end Go.Proofs.Ytbajiamkgffhkaa

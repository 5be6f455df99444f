/-
  The law FnPart, walked: whatever the bytes, it returns true and turns nothing that was there.
-/
import Derived.Test.YtbajiamkgffhkaaIcB
import Derived.Test.YtbajiamkgffhkaaIcC
import Derived.Test.YtbajiamkgffhkaaItH
namespace Go.Proofs.Ytbajiamkgffhkaa
open Go.RowKit M
open Clk (upd upd_same upd_other)
namespace M
/-- What is held while the law goes on: both lists as they were drawn, and what was there ahead. -/
structure PS (w W : World) (va : Value) (n : Nat) (a : Nat → Im) (vb : Value) (m : Nat) (b : Nat → Im) : Prop where
  low : Below w.heap.size w W
  x : ItemsOf W va n a
  y : ItemsOf W vb m b
theorem PS.down {w W W' : World} {va : Value} {n : Nat} {a : Nat → Im} {vb : Value} {m : Nat} {b : Nat → Im} (h : PS w W va n a vb m b) (hb : Below W.heap.size W W') : PS w W' va n a vb m b :=
  ⟨h.low.trans (hb.mono h.low.size), h.x.below hb, h.y.below hb⟩
theorem PS.alloc {w W : World} {va : Value} {n : Nat} {a : Nat → Im} {vb : Value} {m : Nat} {b : Nat → Im} (h : PS w W va n a vb m b) (o : Obj) : PS w (W.alloc o) va n a vb m b :=
  h.down ((Below.refl _ _).alloc (Nat.le_refl _) o)
theorem atR_yes {n : Nat} {l : Nat → Im} {x : Int} (h : GoodI n l) (h1 : 1 ≤ x) (h2 : x ≤ ah l n) : atR n l x = .tuple #[.int .i64 (vA n l x), .bool true] := if_pos ⟨h, h1, h2⟩
theorem atR_no {n : Nat} {l : Nat → Im} {x : Int} (h : ¬ x ≤ ah l n) : atR n l x = .tuple #[.int .i64 0, .bool false] := if_neg (fun q => h q.2.2)
end M
set_option maxRecDepth 20000 in
set_option maxHeartbeats 8000000 in
theorem law_fnPart (v : Value) (n0 : Nat) (f0 : Nat → Nat) (w : World) (hv : OctetsOf w v n0 f0) (hm : n0 ≤ maxLen) :
    Calls Try.prog 11 #[v] w fun e w' => e = .returned (.bool true) ∧ Below w.heap.size w w' := by
  unfold maxLen at hm
  have HV := hide hv
  obtain ⟨av, cv, rfl⟩ := hv.form
  clear hv
  by_cases hbig : n0 ≤ 1048576
  case neg =>
    have hg : (n0 : Int) > 1048576 := by omega
    clear HV
    go_enter Try.func11, Try.ntmps11
    go_wp2
    go_ret
    exact ⟨rfl, Below.refl _ _⟩
  have hng : ¬ ((n0 : Int) > 1048576) := by omega
  go_enter Try.func11, Try.ntmps11
  go_wp2_with fail
  refine (draw_lca _ n0 f0 _ HV.out hbig).mono ?_
  rintro e w1 ⟨⟨⟨a1, c1, n, a, a2, c2, m, b, rfl, hn, hnc, hm2, hmc, hx, hy⟩⟩, hb1⟩
  have HP1 := hide (show PS w w1 (.slice a1 n c1) n a (.slice a2 m c2) m b from ⟨hb1, hx, hy⟩)
  obtain ⟨c, ok, hRL⟩ := rl_ex n a m b
  have HRL := hide hRL
  have HN1 := hide (show n ≤ 1048576 by omega)
  have HM1 := hide (show m ≤ 1048576 by omega)
  have hok1 : (ok != ok) = false := by simp
  have hE := item_eq c.u c.v
  clear HV hx hy hb1 hRL hm
  go_wp2_with fail
  refine (impl_lcaOf _ _ n m a b c ok _ HP1.out.x HP1.out.y HN1.out HM1.out HRL.out).mono ?_
  rintro e w2 ⟨rfl, hb⟩
  have HP2 := hide ((HP1.out.down hb).alloc (.cells #[.int .i64 c.u, .int .i64 c.v] 39))
  have HX := hide (Bx.new w2 c)
  clear HP1 hb
  go_wp2_with fail
  refine (spec_lcaOf _ _ n m a b c ok _ HP2.out.x HP2.out.y HN1.out HM1.out HRL.out).mono ?_
  rintro e w3 ⟨rfl, hb⟩
  have hal := (Below.refl w3.heap.size w3).alloc (Nat.le_refl _) (.cells #[.int .i64 c.u, .int .i64 c.v] 39)
  have HP3 := hide ((HP2.out.down hb).down hal)
  have HX3 := hide ((HX.out.down hb).down hal)
  have HW3 := hide (Bx.new w3 c)
  clear HP2 hb HX hal
  go_wp2_with fail
  refine (impl_lcaOf _ _ m n b a c ok _ HP3.out.y HP3.out.x HM1.out HN1.out HRL.out.symm).mono ?_
  rintro e w4 ⟨rfl, hb⟩
  have hal := (Below.refl w4.heap.size w4).alloc (Nat.le_refl _) (.cells #[.int .i64 c.u, .int .i64 c.v] 39)
  have HP4 := hide ((HP3.out.down hb).down hal)
  have HX4 := hide ((HX3.out.down hb).down hal)
  have HW4 := hide ((HW3.out.down hb).down hal)
  have HY4 := hide (Bx.new w4 c)
  clear HP3 hb HX3 HW3 hal
  obtain ⟨rn, okn, hRN⟩ : ∃ rn okn, RN n a m b rn okn := ⟨_, _, rfl, rfl⟩
  have HRN := hide hRN
  have hok2 : (okn != okn) = false := by simp
  have hrn2 : (rn != rn) = false := by simp
  clear hRN
  go_wp2_with fail
  refine (impl_newer _ _ n m a b rn okn _ HP4.out.x HP4.out.y HN1.out HM1.out HRN.out).mono ?_
  rintro e w5 ⟨rfl, hb⟩
  have HP5 := hide (HP4.out.down hb)
  have HX5 := hide (HX4.out.down hb)
  have HW5 := hide (HW4.out.down hb)
  have HY5 := hide (HY4.out.down hb)
  clear HP4 hb HX4 HW4 HY4
  go_wp2_with fail
  refine (spec_newer _ _ n m a b rn okn _ HP5.out.x HP5.out.y HN1.out HM1.out HRN.out).mono ?_
  rintro e w6 ⟨rfl, hb⟩
  have HP6 := hide (HP5.out.down hb)
  have HX6 := hide (HX5.out.down hb)
  have HW6 := hide (HW5.out.down hb)
  have HY6 := hide (HY5.out.down hb)
  clear HP5 hb HX5 HW5 HY5
  have x0 := HX6.out.u
  have x1 := HX6.out.v
  have y0 := HW6.out.u
  have y1 := HW6.out.v
  have z0 := HY6.out.u
  have z1 := HY6.out.v
  clear HW6 HY6
  go_wp2_with fail
  refine (impl_goodI _ n a _ HP6.out.x HN1.out).mono ?_
  rintro e w7 ⟨rfl, hb⟩
  have HP7 := hide (HP6.out.down hb)
  have HX7 := hide (HX6.out.down hb)
  clear HP6 hb HX6 x0 x1 y0 y1 z0 z1
  go_wp2_with fail
  refine (spec_goodI _ n a _ HP7.out.x HN1.out).mono ?_
  rintro e w8 ⟨rfl, hb⟩
  have HP8 := hide (HP7.out.down hb)
  have HX8 := hide (HX7.out.down hb)
  clear HP7 hb HX7
  obtain ⟨gd, hgd⟩ : ∃ gd : Bool, decide (GoodI n a) = gd := ⟨_, rfl⟩
  have hgd2 : (gd != gd) = false := by simp
  rw [hgd]
  clear hgd
  have x0 := HX8.out.u
  have x1 := HX8.out.v
  cases ok with
  | false =>
    obtain rfl : c = im0 := by
      rcases HRL.out with ⟨_, _, hc, hk⟩ | ⟨_, h, _⟩
      · have h1 := hc.1.1
        have h2 : ¬ c.u > 0 := of_decide_eq_false hk.symm
        have h3 : c.u = 0 := by omega
        exact Im.ext2 h3 (hc.2.1 h3)
      · exact h
    have hbz := HP8.out.low
    have hE0 : ∀ w : World, (Op.equalIn 10000 39 (.agg #[.int .i64 0, .int .i64 0]) (.agg #[.int .i64 0, .int .i64 0])).run Try.prog w = .ok true w := item_eq 0 0
    change w8.cell? _ = some (.int .i64 0) at x0
    change w8.cell? _ = some (.int .i64 0) at x1
    clear HP8 HX8 HRL HRN hE
    go_wp2
    go_ret
    exact ⟨rfl, hbz⟩
  | true =>
    obtain ⟨g1, g2, hc, hcp⟩ : GoodI n a ∧ GoodI m b ∧ Com n a m b c ∧ 0 < c.u := by
      rcases HRL.out with ⟨h1, h2, h3, h4⟩ | ⟨_, _, h⟩
      · exact ⟨h1, h2, h3, of_decide_eq_true h4.symm⟩
      · cases h
    obtain ⟨k, hk1, hk2, hk3⟩ := cut_same g1.2 g2.2 hc
    have HG := hide (And.intro g1 g2)
    have HCM := hide hc
    have HK1 := hide hk1
    have HK2 := hide hk2
    have HK3 := hide hk3
    have HCA := hide (show CutOk n a c.u from ⟨g1, hc.1.1, hc.1.2.1⟩)
    have HCB := hide (show CutOk m b c.u from ⟨g2, hc.1.1, hc.1.2.2.1⟩)
    have hc1000 : c.u ≤ 1000 := by have := hc.1.2.1; have := (g1.2.ah_le (Nat.le_refl n)).2; omega
    have hkn : k ≤ 1048576 := by have := hk1.1; omega
    have HVA := hide (atR_yes g1 (show 1 ≤ c.u by omega) hc.1.2.1)
    have HVE := hide (hc.2.2 hcp)
    have hcv : (c.v != c.v) = false := by simp
    clear hk1 hk2 hk3 hc g1 g2 HRN HRL
    go_wp2_with fail
    refine (impl_cut _ n c1 a c.u _ HP8.out.x hnc HN1.out).mono ?_
    rintro e w9 ⟨hCP, hb⟩
    rcases hCP with ⟨-, r9, k9, rfl, hk9, hA9⟩ | ⟨h, -⟩
    case inr => exact absurd HCA.out h
    obtain rfl : k9 = k := hk9.uniq HK1.out
    obtain ⟨ar9, cr9, rfl⟩ := hA9.form
    have HP9 := hide (HP8.out.down hb)
    have HX9 := hide (HX8.out.down hb)
    have HR9 := hide hA9.items
    clear HP8 HX8 hb hA9 hk9 x0 x1
    have x0 := HX9.out.u
    go_wp2_with fail
    refine (impl_cut _ m c2 b c.u _ HP9.out.y hmc HM1.out).mono ?_
    rintro e w10 ⟨hCP, hb⟩
    rcases hCP with ⟨-, r10, k10, rfl, hk10, hA10⟩ | ⟨h, -⟩
    case inr => exact absurd HCB.out h
    obtain rfl : k9 = k10 := HK2.out.uniq hk10
    obtain ⟨ar10, cr10, rfl⟩ := hA10.form
    have HP10 := hide (HP9.out.down hb)
    have HX10 := hide (HX9.out.down hb)
    have HR10 := hide (HR9.out.below hb)
    have HS10 := hide (hA10.items.ext (fun i hi => (HK3.out i hi).symm))
    clear HP9 HX9 hb hA10 hk10 x0 HR9
    have x0 := HX10.out.u
    go_wp2_with fail
    refine (impl_versionAt _ n a c.u _ HP10.out.x HN1.out).mono ?_
    rintro e w11 ⟨rfl, hb⟩
    rw [HVA.out, ← HVE.out]
    have HP11 := hide (HP10.out.down hb)
    have HX11 := hide (HX10.out.down hb)
    have HR11 := hide (HR10.out.below hb)
    have HS11 := hide (HS10.out.below hb)
    clear HP10 HX10 hb x0 HR10 HS10 HVA HVE
    go_wp2_with fail
    refine (same_items _ _ k9 _ _ HR11.out HS11.out hkn).mono ?_
    rintro e w12 ⟨rfl, hb⟩
    have HP12 := hide (HP11.out.down hb)
    have HX12 := hide (HX11.out.down hb)
    clear HP11 HX11 hb HR11 HS11
    have x0 := HX12.out.u
    have x1 := HX12.out.v
    have hcw : IntKind.i64.wrap (c.u + 1) = c.u + 1 := by rw [IntKind.wrap_i64]; omega
    go_wp2_with fail
    refine (impl_versionAt _ n a (c.u + 1) _ HP12.out.x HN1.out).mono ?_
    rintro e w13 ⟨rfl, hb⟩
    have HP13 := hide (HP12.out.down hb)
    have HX13 := hide (HX12.out.down hb)
    clear HP12 HX12 hb x0 x1
    have x0 := HX13.out.u
    by_cases q1 : c.u + 1 ≤ ah a n
    · by_cases q2 : c.u + 1 ≤ ah b m
      · rw [atR_yes HG.out.1 (show 1 ≤ c.u + 1 by omega) q1]
        have hah : (c.u == ah a n) = false := by simp; omega
        go_wp2_with fail
        refine (impl_versionAt _ m b (c.u + 1) _ HP13.out.y HM1.out).mono ?_
        rintro e w14 ⟨rfl, hb⟩
        have HP14 := hide (HP13.out.down hb)
        clear HP13 HX13 hb x0
        rw [atR_yes HG.out.2 (show 1 ≤ c.u + 1 by omega) q2]
        have hdd : (vA n a (c.u + 1) != vA m b (c.u + 1)) = true := by rw [bne_iff_ne]; exact HCM.out.1.2.2.2.2 (by omega) (by omega)
        have HRA := hide (show RA n a m b false true from .inl ⟨HG.out.1, HG.out.2, ⟨c, HCM.out, hah.symm⟩, rfl⟩)
        clear hah
        generalize vA n a (c.u + 1) = va at *
        generalize vA m b (c.u + 1) = vb at *
        go_wp2_with fail
        refine (impl_isAhead _ _ n m a b false true _ HP14.out.x HP14.out.y HN1.out HM1.out HRA.out).mono ?_
        rintro e w15 ⟨rfl, hb⟩
        have hbz := (HP14.out.down hb).low
        clear HP14 hb HRA HCM HG
        go_wp2
        go_ret
        exact ⟨rfl, hbz⟩
      · rw [atR_yes HG.out.1 (show 1 ≤ c.u + 1 by omega) q1]
        have hah : (c.u == ah a n) = false := by simp; omega
        go_wp2_with fail
        refine (impl_versionAt _ m b (c.u + 1) _ HP13.out.y HM1.out).mono ?_
        rintro e w14 ⟨rfl, hb⟩
        have HP14 := hide (HP13.out.down hb)
        clear HP13 HX13 hb x0
        rw [atR_no (show ¬ (c.u + 1 ≤ ah b m) by omega)]
        have HRA := hide (show RA n a m b false true from .inl ⟨HG.out.1, HG.out.2, ⟨c, HCM.out, hah.symm⟩, rfl⟩)
        clear hah
        generalize vA n a (c.u + 1) = va at *
        go_wp2_with fail
        refine (impl_isAhead _ _ n m a b false true _ HP14.out.x HP14.out.y HN1.out HM1.out HRA.out).mono ?_
        rintro e w15 ⟨rfl, hb⟩
        have hbz := (HP14.out.down hb).low
        clear HP14 hb HRA HCM HG
        go_wp2
        go_ret
        exact ⟨rfl, hbz⟩
    · by_cases q2 : c.u + 1 ≤ ah b m
      · rw [atR_no q1]
        have hah : (c.u == ah a n) = true := by have := HCM.out.1.2.1; simp; omega
        go_wp2_with fail
        refine (impl_versionAt _ m b (c.u + 1) _ HP13.out.y HM1.out).mono ?_
        rintro e w14 ⟨rfl, hb⟩
        have HP14 := hide (HP13.out.down hb)
        clear HP13 HX13 hb x0
        rw [atR_yes HG.out.2 (show 1 ≤ c.u + 1 by omega) q2]
        have HRA := hide (show RA n a m b true true from .inl ⟨HG.out.1, HG.out.2, ⟨c, HCM.out, hah.symm⟩, rfl⟩)
        clear hah
        generalize vA m b (c.u + 1) = vb at *
        go_wp2_with fail
        refine (impl_isAhead _ _ n m a b true true _ HP14.out.x HP14.out.y HN1.out HM1.out HRA.out).mono ?_
        rintro e w15 ⟨rfl, hb⟩
        have hbz := (HP14.out.down hb).low
        clear HP14 hb HRA HCM HG
        go_wp2
        go_ret
        exact ⟨rfl, hbz⟩
      · rw [atR_no q1]
        have hah : (c.u == ah a n) = true := by have := HCM.out.1.2.1; simp; omega
        go_wp2_with fail
        refine (impl_versionAt _ m b (c.u + 1) _ HP13.out.y HM1.out).mono ?_
        rintro e w14 ⟨rfl, hb⟩
        have HP14 := hide (HP13.out.down hb)
        clear HP13 HX13 hb x0
        rw [atR_no (show ¬ (c.u + 1 ≤ ah b m) by omega)]
        have HRA := hide (show RA n a m b true true from .inl ⟨HG.out.1, HG.out.2, ⟨c, HCM.out, hah.symm⟩, rfl⟩)
        clear hah
        go_wp2_with fail
        refine (impl_isAhead _ _ n m a b true true _ HP14.out.x HP14.out.y HN1.out HM1.out HRA.out).mono ?_
        rintro e w15 ⟨rfl, hb⟩
        have hbz := (HP14.out.down hb).low
        clear HP14 hb HRA HCM HG
        go_wp2
        go_ret
        exact ⟨rfl, hbz⟩
end Go.Proofs.Ytbajiamkgffhkaa

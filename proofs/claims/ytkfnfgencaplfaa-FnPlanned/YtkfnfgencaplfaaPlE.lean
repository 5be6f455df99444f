/-
  Each task stands behind all that it needs, by way of others too: FnOrdered, walked.
-/
import Derived.Test.YtkfnfgencaplfaaPlD
import Derived.Deep.CutRange
namespace Go.Proofs.Ytkfnfgencaplfaa
open Go.RowKit M
open Clk (upd upd_same upd_other)
open Go.Sort (grow)
theorem both_order (k : Nat) (ts : Nat → Tk) (hs : Short k ts) (hk : k ≤ 31) : ∃ (n : Nat) (f : Nat → Int) (ok : Bool), n ≤ 31 ∧ (ok = true → GoodP k ts ∧ n = k ∧ f = lv (ord ts k k)) ∧
    (∀ (v : Value) (W : World), TasksOf W v k ts → Calls Try.prog 20 #[v] W fun e w' => (∃ R, e = .returned (.tuple #[R, .bool ok]) ∧ IntsOf w' R n f) ∧ Below W.heap.size W w') ∧
    (∀ (v : Value) (W : World), TasksOf W v k ts → Calls Try.prog 21 #[v] W fun e w' => (∃ R, e = .returned (.tuple #[R, .bool ok]) ∧ IntsOf w' R n f) ∧ Below W.heap.size W w') := by
  have hnil : ∀ W, IntsOf W (.slice none 0 0) 0 (fun _ => 0) := fun W => ⟨none, 0, rfl, fun h => absurd h (Nat.lt_irrefl _)⟩
  by_cases hg : GoodP k ts
  · refine ⟨k, lv (ord ts k k), true, hk, fun _ => ⟨hg, rfl, rfl⟩, fun v W hW => spec_order v k ts W hW hs hg, fun v W hW => (impl_order v k ts W hW hs hg).mono ?_⟩
    rintro e w' ⟨⟨R, he, hR⟩, hb⟩
    exact ⟨⟨R, he, hR.ints⟩, hb⟩
  · refine ⟨0, fun _ => 0, false, by omega, fun h => (by cases h), fun v W hW => (spec_order_no v k ts W hW hs hg).mono ?_, fun v W hW => (impl_order_no v k ts W hW hs hg).mono ?_⟩
    · rintro e w' ⟨he, hb⟩
      exact ⟨⟨_, he, hnil _⟩, hb⟩
    · rintro e w' ⟨he, hb⟩
      exact ⟨⟨_, he, hnil _⟩, hb⟩
theorem both_needs (k : Nat) (ts : Nat → Tk) (x : Int) (hs : Short k ts) (hk : k ≤ 31) : ∃ (n : Nat) (f : Nat → Int) (ok : Bool), n ≤ 31 ∧
    (∀ (v : Value) (W : World), TasksOf W v k ts → Calls Try.prog 43 #[v, .int .i64 x] W fun e w' => (∃ R, e = .returned (.tuple #[R, .bool ok]) ∧ IntsOf w' R n f) ∧ Below W.heap.size W w') ∧
    (∀ (v : Value) (W : World), TasksOf W v k ts → Calls Try.prog 44 #[v, .int .i64 x] W fun e w' => (∃ R, e = .returned (.tuple #[R, .bool ok]) ∧ IntsOf w' R n f) ∧ Below W.heap.size W w') := by
  have hnil : ∀ W, IntsOf W (.slice none 0 0) 0 (fun _ => 0) := fun W => ⟨none, 0, rfl, fun h => absurd h (Nat.lt_irrefl _)⟩
  by_cases hg : GoodP k ts ∧ 0 ≤ x ∧ x < k
  · obtain ⟨t, rfl⟩ := Int.eq_ofNat_of_zero_le hg.2.1
    have ht : t < k := by have := hg.2.2; omega
    refine ⟨(sel (nds ts t (ord ts k k).reverse) k).length, lv (sel (nds ts t (ord ts k k).reverse) k), true, by have := sel_len (nds ts t (ord ts k k).reverse) k; omega, fun v W hW => spec_needs v k ts t W hW hs hg.1 ht, fun v W hW => (impl_needs v k ts t W hW hs hg.1 ht).mono ?_⟩
    rintro e w' ⟨⟨R, he, hR⟩, hb⟩
    exact ⟨⟨R, he, hR.ints⟩, hb⟩
  · refine ⟨0, fun _ => 0, false, by omega, fun v W hW => (spec_needs_no v k ts x W hW hs hg).mono ?_, fun v W hW => (impl_needs_no v k ts x W hW hs hg).mono ?_⟩
    · rintro e w' ⟨he, hb⟩
      exact ⟨⟨_, he, hnil _⟩, hb⟩
    · rintro e w' ⟨he, hb⟩
      exact ⟨⟨_, he, hnil _⟩, hb⟩
set_option maxRecDepth 20000 in
set_option maxHeartbeats 4000000 in
theorem law_fnOrdered (v0 : Value) (n0 : Nat) (f0 : Nat → Nat) (v1 : Value) (n1 : Nat) (f1 : Nat → Nat) (w : World) (hv0 : OctetsOf w v0 n0 f0) (_hz0 : n0 < 2 ^ 47) (hv1 : OctetsOf w v1 n1 f1) (_hz1 : n1 < 2 ^ 47) :
    Calls Try.prog 12 #[v0, v1] w fun e w' => e = .returned (.bool true) ∧ Below w.heap.size w w' := by
  obtain ⟨a0, cap0, rfl⟩ := hv0.form
  obtain ⟨a1, cap1, rfl⟩ := hv1.form
  have HV0 := hide hv0
  have HV1 := hide hv1
  clear hv0 hv1
  by_cases hn : 1048576 < n0 + n1
  · have hn' : (1048576 : Int) < (n0 : Int) + (n1 : Int) := by omega
    go_enter Try.func12, Try.ntmps12
    go_wp2
    go_ret
    exact ⟨rfl, Below.refl _ _⟩
  have hn' : ¬ (1048576 : Int) < (n0 : Int) + (n1 : Int) := by omega
  go_enter Try.func12, Try.ntmps12
  go_wp2_with fail
  refine (draw_order _ n0 f0 _ HV0.out (by omega)).mono ?_
  rintro e w1 ⟨⟨r, k, ts, rfl, hD⟩, hb1⟩
  obtain ⟨ar, cr, rfl, -⟩ := hD.2.2
  obtain ⟨n, f, ok, hn31, hok, hS, hI⟩ := both_order k ts hD.short hD.1
  have hk31 := hD.1
  have HSH := hide hD.short
  have HS := hide hS
  have HI := hide hI
  have HOK := hide hok
  have HT := hide hD.2.2
  have HB := hide hb1
  have hoo : (ok != ok) = false := by simp
  clear hS hI hok hD hb1 HV0
  go_wp2_with fail
  refine (HI.out _ _ HT.out).mono ?_
  rintro e w2 ⟨⟨R0, rfl, hR⟩, hb⟩
  obtain ⟨aR, cR, rfl⟩ := hR.form
  have HT2 := hide (HT.out.below hb)
  have HR2 := hide hR
  have HB2 := hide (HB.out.trans (hb.mono HB.out.size))
  clear hR hb HT HB
  go_wp2_with fail
  refine (HS.out _ _ HT2.out).mono ?_
  rintro e w3 ⟨⟨R1, rfl, hR⟩, hb⟩
  obtain ⟨aQ, cQ, rfl⟩ := hR.form
  have HT3 := hide (HT2.out.below hb)
  have HR3 := hide (HR2.out.below hb)
  have HQ3 := hide hR
  have HB3 := hide (HB2.out.trans (hb.mono HB2.out.size))
  clear hR hb HT2 HB2 HR2
  go_wp2_with fail
  refine (same_ints _ _ n f _ HR3.out HQ3.out (by omega)).mono ?_
  rintro e w4 ⟨rfl, hb⟩
  have HT4 := hide (HT3.out.below hb)
  have HR4 := hide (HR3.out.below hb)
  have HB4 := hide (HB3.out.trans (hb.mono HB3.out.size))
  clear hb HT3 HB3 HR3 HQ3 HS HI
  go_upto_region 8 with fail
  go_upto_if 51 with fail
  go_cut [10, 11, 12, 13, 14, 15, 16, 17] from 52 (fun _ _ _ _ _ _ _ _ wx => Hid (Below w.heap.size w wx))
  case first =>
    cases ok with
    | false =>
      go_wp2_with fail
      go_meet
      exact HB4
    | true =>
      obtain ⟨hg, hnk, hf⟩ := HOK.out rfl
      subst hnk
      subst hf
      obtain ⟨o, ho⟩ : ∃ o, ord ts n n = o := ⟨_, rfl⟩
      have HG := hide hg
      have HO := hide (show o.length = n ∧ o.Nodup ∧ ∀ x, x ∈ o → x < n from by rw [← ho]; exact ⟨hg.2, ord_nodup ts n n, fun x hx => ord_lt ts n n x hx⟩)
      have HOE := hide ho
      rw [ho] at HR4
      have hmk := make_ints n (by omega)
      clear hg ho HOK HV1 hoo
      have hal := (Below.refl w4.heap.size w4).alloc (Nat.le_refl _) (.cells (cf n (iv fun _ => 0)) 3)
      have H0 := hide (show Blk (w4.alloc (.cells (cf n (iv fun _ => 0)) 3)) w4.heap.size n (iv (pf o 0)) 3 from Blk.new w4 n (iv fun _ => 0) 3)
      have HAL := hide hal
      clear hal
      go_wp2_with fail
      clear hmk
      go_loopw [57] (fun q wr => ∃ i : Nat, i ≤ n ∧ q = .int .i64 (i : Int) ∧ Hid (Blk wr w4.heap.size n (iv (pf o i)) 3) ∧ Hid (Below w4.heap.size w4 wr)) (fun q _ => n - (intOf q).toNat)
      case atStart => exact ⟨0, Nat.zero_le _, rfl, H0, HAL⟩
      case round =>
        obtain ⟨i, hin, rfl, HA, hbw⟩ := hrel
        by_cases hil : i < n
        · obtain ⟨y, hy⟩ : ∃ y, o[i]? = some y := ⟨o[i]'(by have := HO.out.1; omega), List.getElem?_eq_getElem _⟩
          have hyn : y < n := HO.out.2.2 y (List.mem_of_getElem? hy)
          have hlv : lv o i = (y : Int) := by unfold lv; rw [List.getD_eq_getElem?_getD, hy]; rfl
          obtain ⟨a', c', he, hr⟩ := HR4.out
          simp only [Value.slice.injEq, true_and] at he
          obtain ⟨rfl, rfl⟩ := he
          obtain ⟨b, off, rfl, hb, hrow⟩ := hr (by omega)
          have c0 := (hbw.out.cell (p := ⟨b, off + i, none⟩) hb).trans (hrow i hil)
          rw [hlv] at c0
          have hi0 : (0 : Int) ≤ (i : Int) := by omega
          have hi1 : (i : Int) < (n : Int) := by omega
          have hy0 : (0 : Int) ≤ (y : Int) := by omega
          have hy1 : (y : Int) < (n : Int) := by omega
          have q0 := HA.out.cell hyn
          have t0 := HA.out.thaw y
          simp only [iv] at q0
          have HA2 := hide (show Blk (wr.setCell ⟨w4.heap.size, y, none⟩ (.int .i64 (i : Int))) w4.heap.size n (iv (pf o (i + 1))) 3 from by
            have := HA.out.set_int y (i : Int)
            rw [show pf o (i + 1) = upd (pf o i) y (i : Int) from by show upd (pf o i) (o.getD i 0) (i : Int) = _; rw [List.getD_eq_getElem?_getD, hy]; rfl]
            exact this)
          have HB2 := hide (hbw.out.setCell (p := ⟨w4.heap.size, y, none⟩) (Nat.le_refl _) (.int .i64 (i : Int)))
          clear hrow hr hlv HA hbw hy
          go_wp2
          go_roundw
          case rel => exact ⟨i + 1, by omega, by go_num, HA2, HB2⟩
          case measure => simp [intOf]; omega
        · obtain rfl : i = n := by omega
          have HTr := hide (HT4.out.below hbw.out)
          have HBr := hide (HB4.out.trans (hbw.out.mono HB4.out.size))
          obtain ⟨g, hg⟩ : ∃ g, w4.heap.size = g := ⟨_, rfl⟩
          rw [hg] at HA ⊢
          clear hbw HT4 HB4 HR4 H0 HAL hg
          go_wp2_with fail
          go_loopw [69] (fun q ws => ∃ t : Nat, t ≤ i ∧ q = .int .i64 (t : Int) ∧ Hid (Below wr.heap.size wr ws)) (fun q _ => i - (intOf q).toNat)
          case atStart => exact ⟨0, Nat.zero_le _, rfl, hide (Below.refl _ _)⟩
          case round =>
            rename World => ws
            obtain ⟨t, hti, rfl, hbs⟩ := hrel
            by_cases htl : t < i
            · go_wp2_with fail
              refine (impl_needs _ i ts t _ (HTr.out.below hbs.out) HSH.out HG.out htl).mono ?_
              rintro e wu ⟨⟨R2, rfl, hR⟩, hb⟩
              obtain ⟨s, hs⟩ : ∃ s, sel (nds ts t (ord ts i i).reverse) i = s := ⟨_, rfl⟩
              rw [hs] at hR
              have HSEL := hide (show s.length ≤ i ∧ ∀ y, y ∈ s → y < i ∧ ∃ a b : Nat, o[a]? = some y ∧ o[b]? = some t ∧ a < b from by
                refine ⟨by rw [← hs]; exact sel_len _ _, fun y hy => ?_⟩
                rw [← hs] at hy
                unfold sel at hy
                rw [List.mem_filter, List.mem_range] at hy
                refine ⟨hy.1, ?_⟩
                have := Nd.ahead HG.out htl ((nds_iff HG.out htl y).1 hy.2)
                rw [HOE.out] at this
                exact this)
              obtain ⟨a2, c2, rfl⟩ := hR.form
              have HR2 := hide hR.ints
              have HBu := hide (hbs.out.trans (hb.mono hbs.out.size))
              have hsl := HSEL.out.1
              clear hs hR hb hbs
              go_wp2_with fail
              go_loopw [82] (fun q wx => ∃ j : Nat, j ≤ s.length ∧ q = .int .i64 (j : Int) ∧ Hid (Below wu.heap.size wu wx)) (fun q _ => s.length - (intOf q).toNat)
              case atStart => exact ⟨0, Nat.zero_le _, rfl, hide (Below.refl _ _)⟩
              case round =>
                rename World => wx
                obtain ⟨j, hjs, rfl, hbx⟩ := hrel
                by_cases hjl : j < s.length
                · obtain ⟨y, hy⟩ : ∃ y, s[j]? = some y := ⟨s[j], List.getElem?_eq_getElem hjl⟩
                  obtain ⟨hyi, a, b, ha, hb, hab⟩ := HSEL.out.2 y (List.mem_of_getElem? hy)
                  have hlv : lv s j = (y : Int) := by unfold lv; rw [List.getD_eq_getElem?_getD, hy]; rfl
                  obtain ⟨a', c', he, hr⟩ := HR2.out
                  simp only [Value.slice.injEq, true_and] at he
                  obtain ⟨rfl, rfl⟩ := he
                  obtain ⟨p, off, rfl, hp, hrow⟩ := hr (by omega)
                  have c0 := (hbx.out.cell (p := ⟨p, off + j, none⟩) hp).trans (hrow j hjl)
                  rw [hlv] at c0
                  have hAx := HA.out.down (HBu.out.trans (hbx.out.mono HBu.out.size))
                  have ha1 : a < i := by
                    rcases Nat.lt_or_ge a o.length with h' | h'
                    · have := HO.out.1; omega
                    · rw [List.getElem?_eq_none h'] at ha; cases ha
                  have hb1 : b < i := by
                    rcases Nat.lt_or_ge b o.length with h' | h'
                    · have := HO.out.1; omega
                    · rw [List.getElem?_eq_none h'] at hb; cases hb
                  have q0 := hAx.cell hyi
                  have q1 := hAx.cell htl
                  simp only [iv] at q0 q1
                  rw [pf_at HO.out.2.1 i (by have := HO.out.1; omega) a y ha1 ha] at q0
                  rw [pf_at HO.out.2.1 i (by have := HO.out.1; omega) b t hb1 hb] at q1
                  have q0 := cell_regrown q0
                  have q1 := cell_regrown q1
                  have hi0 : (0 : Int) ≤ (j : Int) := by omega
                  have hi1 : (j : Int) < (s.length : Int) := by omega
                  have hy0 : (0 : Int) ≤ (y : Int) := by omega
                  have hy1 : (y : Int) < (i : Int) := by omega
                  have ht0 : (0 : Int) ≤ (t : Int) := by omega
                  have ht1 : (t : Int) < (i : Int) := by omega
                  have hdc : decide (b ≤ a) = false := decide_eq_false (by omega)
                  clear hrow hr hlv hAx ha hb hy ha1 hb1
                  go_upto_region 24 with fail
                  clear c0
                  refine wp_region_quiet_below (by kernel_rfl) (by kernel_rfl) ?_
                  repeat (go_big_quiet_step (fail))
                  refine wpQuiet_nil ?_
                  intro _ hw'
                  obtain ⟨⟨dq, osq⟩, hw''⟩ := hw'
                  subst hw''
                  have HBz := hide (hbx.out.trans ((below_regrown wx dq osq).mono hbx.out.size))
                  clear hbx q0 q1
                  go_wp2
                  go_roundw
                  case rel => exact ⟨j + 1, by omega, by go_num, HBz⟩
                  case measure => simp [intOf]; omega
                · have HBz := hide (HBu.out.trans (hbx.out.mono HBu.out.size))
                  clear hbx HBu HR2 HSEL
                  go_wp2
                  go_roundw
                  case rel => exact ⟨t + 1, by omega, by go_num, HBz⟩
                  case measure => simp [intOf]; omega
            · have HZ := hide (HBr.out.trans (hbs.out.mono HBr.out.size))
              clear hbs HBr HTr HA
              go_wp2_with fail
              go_meet
              exact HZ
  case rest =>
  rename World => w5
  have HL := hcut
  clear hcut HB4 HT4 HR4 HOK HSH
  go_wp2_with fail
  refine (draw_needs _ n1 f1 _ (HV1.out.below HL.out) (by omega)).mono ?_
  rintro e wa ⟨⟨r, k2, ts2, x, rfl, hD⟩, hb⟩
  obtain ⟨ar2, cr2, rfl, -⟩ := hD.2.2
  obtain ⟨m, h, is, hm, hS, hI⟩ := both_needs k2 ts2 x hD.short hD.1
  have hk2 := hD.1
  have HS := hide hS
  have HI := hide hI
  have HT := hide hD.2.2
  have HB := hide (HL.out.trans (hb.mono HL.out.size))
  have hii : (is == is) = true := by simp
  clear hS hI hD hb HL HV1
  go_wp2_with fail
  refine (HI.out _ _ HT.out).mono ?_
  rintro e w6 ⟨⟨R0, rfl, hR⟩, hb⟩
  obtain ⟨aX, cX, rfl⟩ := hR.form
  have HT2 := hide (HT.out.below hb)
  have HR2 := hide hR
  have HB2 := hide (HB.out.trans (hb.mono HB.out.size))
  clear hR hb HT HB
  go_wp2_with fail
  refine (HS.out _ _ HT2.out).mono ?_
  rintro e w7 ⟨⟨R1, rfl, hR⟩, hb⟩
  obtain ⟨aY, cY, rfl⟩ := hR.form
  have HR3 := hide (HR2.out.below hb)
  have HQ3 := hide hR
  have HB3 := hide (HB2.out.trans (hb.mono HB2.out.size))
  clear hR hb HT2 HB2 HR2
  go_wp2_with fail
  refine (same_ints _ _ m h _ HR3.out HQ3.out (by omega)).mono ?_
  rintro e w8 ⟨rfl, hb⟩
  have HZ := hide (HB3.out.trans (hb.mono HB3.out.size))
  clear hb HB3 HR3 HQ3 HS HI
  go_wp2
  go_ret
  exact ⟨rfl, HZ.out⟩
end Go.Proofs.Ytkfnfgencaplfaa

/-
  The domain of a name, and LeaderOf in both texts with its law.
-/
import Derived.Test.YtgccoognklolbaaDmB
import Derived.Test.YtgccoognklolbaaDmL
import Derived.Test.YtgccoognklolbaaDmX
namespace Go.Proofs.Ytgccoognklolbaa
open Go.RowKit M
open Go.Sort (grow)
namespace M
noncomputable def dvb (l : Dms) (x : ByteArray) : Bool := gdB l && fd l x
noncomputable def dvv (l : Dms) (x : ByteArray) : Dm := if dvb l x = true then (l[pl l x]?).getD d0 else d0
noncomputable def lda (l : Dms) (x : ByteArray) : Int := if dvb l x = true then (dvv l x).ver % 10 else 0
theorem dvb_iff {l : Dms} {x : ByteArray} : dvb l x = true ↔ GoodDm l ∧ ∃ d, l[pl l x]? = some d ∧ d.nm = x := by
  unfold dvb; rw [Bool.and_eq_true, gdB_iff, fd_iff]
theorem dvb_at {l : Dms} {x : ByteArray} (h : dvb l x = true) : GoodDm l ∧ l[pl l x]? = some (dvv l x) ∧ (dvv l x).nm = x := by
  obtain ⟨hg, d, hd, hx⟩ := dvb_iff.1 h
  have e : dvv l x = d := by unfold dvv; rw [if_pos h, hd]; rfl
  rw [e]; exact ⟨hg, hd, hx⟩
theorem dvv_no {l : Dms} {x : ByteArray} (h : dvb l x = false) : dvv l x = d0 := by unfold dvv; rw [if_neg (by rw [h]; simp)]
theorem lda_no {l : Dms} {x : ByteArray} (h : dvb l x = false) : lda l x = 0 := by unfold lda; rw [if_neg (by rw [h]; simp)]
theorem lda_yes {l : Dms} {x : ByteArray} (h : dvb l x = true) : lda l x = (dvv l x).ver % 10 := by unfold lda; rw [if_pos h]
theorem dvv_ver {l : Dms} {x : ByteArray} (h : dvb l x = true) : inB (dvv l x).ver 0 1000000 = true := by
  obtain ⟨hg, hd, _⟩ := dvb_at h
  exact (hg.good _ (List.mem_of_getElem? hd)).2.2.1
theorem dvv_found {l : Dms} (hg : GoodDm l) {i : Nat} {d : Dm} (hd : l[i]? = some d) : dvb l d.nm = true ∧ dvv l d.nm = d ∧ pl l d.nm = i := by
  obtain ⟨h1, h2⟩ := at_place hg.rise hd
  have h3 : dvb l d.nm = true := by unfold dvb; rw [gdB_yes hg, h2]; rfl
  refine ⟨h3, ?_, h1⟩
  unfold dvv
  rw [if_pos h3, h1, hd]; rfl
theorem dvb_none {l : Dms} {x : ByteArray} (h : ∀ d ∈ l, d.nm ≠ x) : dvb l x = false := by
  rw [← Bool.not_eq_true, dvb_iff]
  rintro ⟨_, d, hd, hx⟩
  exact h d (List.mem_of_getElem? hd) hx
end M
set_option maxRecDepth 20000 in
set_option maxHeartbeats 2000000 in
theorem dom_of (v : Value) (l : Dms) (x : ByteArray) (w : World) (hv : DomsOf w v l) (hn : l.length ≤ 1048576) (hl : LenD l) :
    Calls Try.prog 49 #[v, .string x] w fun e w' => e = .returned (.tuple #[(dvv l x).v, .bool (dvb l x)]) ∧ Below w.heap.size w w' := by
  have HV := hide hv
  have HL := hide hl
  obtain ⟨a, cap, rfl⟩ := hv.form
  obtain ⟨W0, hW0⟩ : ∃ W0, w.alloc (.cells #[.string ⟨#[]⟩, .int .i64 0, .string ⟨#[]⟩] 58) = W0 := ⟨_, rfl⟩
  obtain ⟨p, hp⟩ : ∃ p, w.heap.size = p := ⟨_, rfl⟩
  have HX0 := hide (show BX w W0 p d0 from by rw [← hW0, ← hp]; exact BX.new w d0)
  have HW := hide hW0
  have HPP := hide hp
  clear hv hl hW0 hp
  cases hd : dvb l x
  · rw [dvv_no hd]
    by_cases hg : GoodDm l
    · have hf : fd l x = false := by unfold dvb at hd; rw [gdB_yes hg] at hd; simpa using hd
      have HG := hide (gdB_yes hg)
      have HGR := hide hg.rise
      clear hg hd
      go_enter Try.func49, Try.ntmps49
      go_wp2_with fail
      rw [HW.out, HPP.out]
      refine (impl_gdoms _ l _ (HV.out.below HX0.out.low) hn HL.out).mono ?_
      rintro e w1 ⟨rfl, hb1⟩
      have HX1 := hide (HX0.out.down hb1)
      rw [HG.out]
      clear hb1 HX0
      go_wp2_with fail
      refine (place_of _ l x _ (HV.out.below HX1.out.low) HGR.out hn).mono ?_
      rintro e w2 ⟨rfl, hb2⟩
      rw [hf]
      have hX := HX1.out.down hb2
      obtain ⟨c0, c1, c2⟩ := hX.cells
      obtain ⟨f0, f1, f2⟩ := hX.thaw
      obtain ⟨WZ, hWZ⟩ : ∃ WZ, ((w2.setCell ⟨p, 0, none⟩ (.string d0.nm)).setCell ⟨p, 1, none⟩ (.int .i64 d0.ver)).setCell ⟨p, 2, none⟩ (.string d0.nt) = WZ := ⟨_, rfl⟩
      have HZ := hide (show BX w WZ p d0 from by rw [← hWZ]; exact hX.put d0)
      have HWZ := hide hWZ
      clear hX hWZ
      clear hb2 HX1 hf
      go_wp2
      obtain ⟨e0, e1, e2⟩ := HZ.out.cells
      try rw [show ((w2.setCell ⟨p, 0, none⟩ (.string ⟨#[]⟩)).setCell ⟨p, 1, none⟩ (.int .i64 0)).setCell ⟨p, 2, none⟩ (.string ⟨#[]⟩) = WZ from HWZ.out]
      exact bodyPost_ret (v := .tuple #[d0.v, .bool false]) (by simp [results, Try.results49, go_sem, e0, e1, e2]) rfl ⟨rfl, HZ.out.low⟩
    · have HG := hide (gdB_no hg)
      clear hg hd
      go_enter Try.func49, Try.ntmps49
      go_wp2_with fail
      rw [HW.out, HPP.out]
      refine (impl_gdoms _ l _ (HV.out.below HX0.out.low) hn HL.out).mono ?_
      rintro e w2 ⟨rfl, hb1⟩
      rw [HG.out]
      have hX := HX0.out.down hb1
      obtain ⟨c0, c1, c2⟩ := hX.cells
      obtain ⟨f0, f1, f2⟩ := hX.thaw
      obtain ⟨WZ, hWZ⟩ : ∃ WZ, ((w2.setCell ⟨p, 0, none⟩ (.string d0.nm)).setCell ⟨p, 1, none⟩ (.int .i64 d0.ver)).setCell ⟨p, 2, none⟩ (.string d0.nt) = WZ := ⟨_, rfl⟩
      have HZ := hide (show BX w WZ p d0 from by rw [← hWZ]; exact hX.put d0)
      have HWZ := hide hWZ
      clear hX hWZ
      clear hb1 HX0
      go_wp2
      obtain ⟨e0, e1, e2⟩ := HZ.out.cells
      try rw [show ((w2.setCell ⟨p, 0, none⟩ (.string ⟨#[]⟩)).setCell ⟨p, 1, none⟩ (.int .i64 0)).setCell ⟨p, 2, none⟩ (.string ⟨#[]⟩) = WZ from HWZ.out]
      exact bodyPost_ret (v := .tuple #[d0.v, .bool false]) (by simp [results, Try.results49, go_sem, e0, e1, e2]) rfl ⟨rfl, HZ.out.low⟩
  · obtain ⟨hg, hat, hnm⟩ := dvb_at hd
    have hf : fd l x = true := by unfold dvb at hd; rw [gdB_yes hg] at hd; simpa using hd
    have HG := hide (gdB_yes hg)
    have HGR := hide hg.rise
    have hlt := ltD hat
    have HAT := hide hat
    clear hg hd hnm hat
    generalize dvv l x = d at *
    obtain ⟨b, off, ha, hb, hrow⟩ : ∃ b off, a = some ⟨b, off, none⟩ ∧ b < w.heap.size ∧ ∀ i d, l[i]? = some d → D3 w b (off + i * 3) d := by
      obtain ⟨a', cap', hv', hr'⟩ := HV.out
      simp only [Value.slice.injEq, true_and] at hv'
      obtain ⟨rfl, -⟩ := hv'
      exact hr' (by omega)
    subst ha
    have HD := hide (hrow _ d HAT.out)
    obtain ⟨k, hk⟩ : ∃ k, pl l x = k := ⟨_, rfl⟩
    have HK := hide hk
    rw [hk] at HD hlt
    have hi0 : (0 : Int) ≤ (k : Int) := by omega
    have hi1 : (k : Int) < (l.length : Int) := by omega
    clear hrow HAT hk
    go_enter Try.func49, Try.ntmps49
    go_wp2_with fail
    rw [HW.out, HPP.out]
    refine (impl_gdoms _ l _ (HV.out.below HX0.out.low) hn HL.out).mono ?_
    rintro e w1 ⟨rfl, hb1⟩
    have HX1 := hide (HX0.out.down hb1)
    rw [HG.out]
    clear hb1 HX0
    go_wp2_with fail
    refine (place_of _ l x _ (HV.out.below HX1.out.low) HGR.out hn).mono ?_
    rintro e w2 ⟨rfl, hb2⟩
    rw [hf, HK.out]
    have hX := HX1.out.down hb2
    obtain ⟨c0, c1, c2⟩ := hX.cells
    obtain ⟨f0, f1, f2⟩ := hX.thaw
    obtain ⟨WZ, hWZ⟩ : ∃ WZ, ((w2.setCell ⟨p, 0, none⟩ (.string d.nm)).setCell ⟨p, 1, none⟩ (.int .i64 d.ver)).setCell ⟨p, 2, none⟩ (.string d.nt) = WZ := ⟨_, rfl⟩
    have HZ := hide (show BX w WZ p d from by rw [← hWZ]; exact hX.put d)
    have HWZ := hide hWZ
    clear hX hWZ
    obtain ⟨k0, k1, k2⟩ := HD.out.below (HX1.out.low.trans (hb2.mono HX1.out.low.size)) hb
    clear hb2 HX1 hf
    go_wp2
    obtain ⟨e0, e1, e2⟩ := HZ.out.cells
    rw [HWZ.out]
    exact bodyPost_ret (v := .tuple #[d.v, .bool true]) (by simp [results, Try.results49, go_sem, e0, e1, e2]) rfl ⟨rfl, HZ.out.low⟩
set_option maxRecDepth 20000 in
set_option maxHeartbeats 2000000 in
theorem impl_leader (v : Value) (l : Dms) (x : ByteArray) (w : World) (hv : DomsOf w v l) (hn : l.length ≤ 1048576) (hl : LenD l) :
    Calls Try.prog 31 #[v, .string x] w fun e w' => e = .returned (.tuple #[.int .i64 (lda l x), .bool (dvb l x)]) ∧ Below w.heap.size w w' := by
  have HV := hide (dom_of v l x w hv hn hl)
  obtain ⟨a, cap, rfl⟩ := hv.form
  clear hv hl
  cases hd : dvb l x
  · rw [lda_no hd]
    rw [hd] at HV
    clear hd
    generalize dvv l x = d at *
    go_enter Try.func31, Try.ntmps31
    go_wp2_with fail
    refine HV.out.mono ?_
    rintro e w2 ⟨rfl, hb2⟩
    have hbz := hb2.alloc hb2.size (.cells #[.string d.nm, .int .i64 d.ver, .string d.nt] 58)
    go_wp2
    go_ret2
    exact ⟨rfl, hbz⟩
  · have hi := dvv_ver hd
    have hr := rgv_yes hi
    rw [lda_yes hd]
    rw [hd] at HV
    clear hd
    generalize dvv l x = d at *
    go_enter Try.func31, Try.ntmps31
    go_wp2_with fail
    refine HV.out.mono ?_
    rintro e w2 ⟨rfl, hb2⟩
    have hbz := hb2.alloc hb2.size (.cells #[.string d.nm, .int .i64 d.ver, .string d.nt] 58)
    go_wp2_with (go_at_call 14; refine (impl_region _ _).mono ?_; rintro e w' ⟨rfl, rfl⟩; rw [hi, hr])
    go_ret2
    exact ⟨rfl, hbz⟩
set_option maxRecDepth 20000 in
set_option maxHeartbeats 2000000 in
theorem spec_leader (v : Value) (l : Dms) (x : ByteArray) (w : World) (hv : DomsOf w v l) (hn : l.length ≤ 1048576) (hl : LenD l) :
    Calls Try.prog 30 #[v, .string x] w fun e w' => e = .returned (.tuple #[.int .i64 (lda l x), .bool (dvb l x)]) ∧ Below w.heap.size w w' := by
  have HV := hide hv
  have HL := hide hl
  obtain ⟨a, cap, rfl, hr⟩ := hv
  have HR := hide hr
  clear hr hl
  by_cases hg : GoodDm l
  case neg =>
    have HG := hide (gdB_no hg)
    have hd : dvb l x = false := by unfold dvb; rw [HG.out]; rfl
    rw [lda_no hd, hd]
    clear hg hd
    go_enter Try.func30, Try.ntmps30
    go_wp2_with fail
    refine (spec_gdoms _ l _ HV.out hn HL.out).mono ?_
    rintro e w2 ⟨rfl, hb2⟩
    rw [HG.out]
    go_wp2
    go_ret2
    exact ⟨rfl, hb2⟩
  have HG := hide (gdB_yes hg)
  have HGD := hide hg
  obtain ⟨z, hz⟩ : ∃ z, lda l x = z := ⟨_, rfl⟩
  obtain ⟨bb, hbb⟩ : ∃ bb, dvb l x = bb := ⟨_, rfl⟩
  have HZ := hide (And.intro hz hbb)
  rw [hz, hbb]
  clear hg hz hbb
  go_enter Try.func30, Try.ntmps30
  go_wp2_with fail
  refine (spec_gdoms _ l _ HV.out hn HL.out).mono ?_
  rintro e w2 ⟨rfl, hb2⟩
  rw [HG.out]
  clear HG HL HV
  go_wp2
  go_loopw [13] (fun i wr => ∃ k : Nat, k ≤ l.length ∧ i = .int .i64 k ∧ Hid (∀ q d, q < k → l[q]? = some d → d.nm ≠ x) ∧ Below w.heap.size w wr) (fun i _ => l.length - (intOf i).toNat)
  case atStart => exact ⟨0, Nat.zero_le _, rfl, hide (fun q d hq => by omega), hb2⟩
  case round =>
    obtain ⟨k, hk, rfl, HU, hbw⟩ := hrel
    clear hb2
    by_cases hlt : k < l.length
    · obtain ⟨b, off, rfl, hb, hrow⟩ := HR.out (by omega)
      obtain ⟨y, hy⟩ : ∃ y, l[k]? = some y := ⟨l[k], List.getElem?_eq_getElem hlt⟩
      obtain ⟨c0, c1, c2⟩ := (hrow k y hy).below hbw hb
      have hbw1 := hbw.alloc hbw.size (.cells #[.string y.nm, .int .i64 y.ver, .string y.nt] 58)
      have HY := hide hy
      clear hrow hy HR
      by_cases hyx : y.nm = x
      · have hd : (y.nm.toList == x.toList) = true := by rw [eqS]; exact decide_eq_true hyx
        have HF := hide (show z = y.ver % 10 ∧ bb = true ∧ 0 ≤ y.ver ∧ y.ver ≤ 1000000 from by
          subst hyx
          obtain ⟨h1, h2, _⟩ := dvv_found HGD.out HY.out
          have h3 := (HGD.out.good y (List.mem_of_getElem? HY.out)).2.2.1
          rw [← HZ.out.1, ← HZ.out.2, lda_yes h1, h1, h2]
          exact ⟨rfl, rfl, (inB_iff.1 h3).1, (inB_iff.1 h3).2⟩)
        have hv0 := HF.out.2.2.1
        have hv1 := HF.out.2.2.2
        clear hyx HU HGD HZ
        go_wp2
        go_ret2
        exact ⟨by rw [HF.out.1, HF.out.2.1]; rfl, hbw1⟩
      · have hd : (y.nm.toList == x.toList) = false := by rw [eqS]; exact decide_eq_false hyx
        have HU2 := hide (show ∀ q d, q < k + 1 → l[q]? = some d → d.nm ≠ x from fun q d hq hd => by
          by_cases e : q = k
          · subst e
            rw [HY.out] at hd
            simp only [Option.some.injEq] at hd
            subst hd; exact hyx
          · exact HU.out q d (by omega) hd)
        clear hyx HU
        go_wp2
        go_roundw
        case rel => exact ⟨k + 1, by omega, by go_num, HU2, hbw1⟩
        case measure => simp [intOf]; omega
    · have HF := hide (show z = 0 ∧ bb = false from by
        have h1 : dvb l x = false := dvb_none (fun d hd => by
          obtain ⟨i, hi⟩ := List.mem_iff_getElem?.1 hd
          have := ltD hi
          exact HU.out i d (by omega) hi)
        rw [← HZ.out.1, ← HZ.out.2, lda_no h1, h1]
        exact ⟨rfl, rfl⟩)
      clear HR HU HGD HZ
      go_wp2
      go_ret2
      exact ⟨by rw [HF.out.1, HF.out.2]; rfl, hbw⟩
theorem law_leader (v : Value) (l : Dms) (x : ByteArray) (w : World) (hv : DomsOf w v l) (hl : LenD l) (hx : x.size ≤ maxLen) :
    Calls Try.prog 9 #[v, .string x] w fun e w' => e = .returned (.bool true) ∧ Below w.heap.size w w' :=
  law_leader_run v l x (lda l x) (dvb l x) w hv hl hx (fun u W hn hu => spec_leader u l x W hu hn hl) (fun u W hn hu => impl_leader u l x W hu hn hl)
end Go.Proofs.Ytgccoognklolbaa

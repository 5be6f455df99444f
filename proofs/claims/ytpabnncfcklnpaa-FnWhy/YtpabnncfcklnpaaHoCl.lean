/-
  The law FnWhy, walked: it returns true and turns nothing that was there, whatever the bytes.
-/
import Derived.Test.YtpabnncfcklnpaaHoCn
namespace Go.Proofs.Ytpabnncfcklnpaa
open Go.RowKit M
open Clk (upd upd_same upd_other)
open Ho
set_option maxRecDepth 20000 in
set_option maxHeartbeats 4000000 in
theorem law_fnWhy (v : Value) (n : Nat) (f : Nat → Nat) (w : World) (hv : OctetsOf w v n f) (hnm : n ≤ maxLen) :
    Calls Try.prog 10 #[v] w fun e w' => e = .returned (.bool true) ∧ Below w.heap.size w w' := by
  have HV := hide hv
  obtain ⟨a, cap, rfl⟩ := hv.form
  clear hv
  unfold maxLen at hnm
  by_cases hbig : 1048576 < n
  · have hgt : (n : Int) > 1048576 := by omega
    go_enter Try.func10, Try.ntmps10
    go_wp2
    go_ret
    exact ⟨rfl, Below.refl _ _⟩
  · have hle : ¬ ((n : Int) > 1048576) := by omega
    go_enter Try.func10, Try.ntmps10
    go_wp2_with fail
    refine (draw_why _ n f _ HV.out (by omega)).mono ?_
    rintro e w1 ⟨⟨r, u, x, k, m, ts, c, rfl, hx, hk, hnn, hT, hm, hU⟩, hb1⟩
    have HSh := hide (show Short k ts from ⟨by omega, fun i _ => by have := hnn i; omega⟩)
    have HT := hide hT
    have HU := hide hU
    have HNn := hide hnn
    have HB1 := hide hb1
    have hs1 := hb1.size
    obtain ⟨ar, cr, rfl⟩ := hT.form
    obtain ⟨au, cu, rfl⟩ := hU.form
    clear hT hU hb1 hnn HV hx
    by_cases hOk : ∃ y : Nat, x = (y : Int) ∧ y < 40 ∧ Okay k m ts c ∧ (fin (rls ts) k (nf c) m).inn y = true
    · obtain ⟨y, rfl, hy, hO, hin⟩ := hOk
      have HO := hide hO
      have HFi := hide (show (fi k m ts c).inn y = true by unfold fi; exact hin)
      have HIn := hide hin
      clear hO hin
      go_wp2_with fail
      refine (impl_why _ _ k m ts c y _ HT.out HSh.out HU.out (by omega) HO.out hy HIn.out).mono ?_
      rintro e w2 ⟨⟨rW, rfl, hA⟩, hb2⟩
      have hq40 := whyL_len HO.out y
      obtain ⟨q, hq⟩ : ∃ q, (whyL k m ts c y).length = q := ⟨_, rfl⟩
      rw [hq] at hA hq40
      have HQ := hide hq
      have HA2 := hide hA.ints
      obtain ⟨aW, cW, rfl⟩ := hA.form
      have HT2 := hide (HT.out.below hb2)
      have HU2 := hide (HU.out.below hb2)
      have HB2 := hide (HB1.out.trans (hb2.mono hs1))
      have hs2 := hb2.size
      clear hA hq HT HU HB1 hb2
      go_wp2_with fail
      refine (spec_why _ _ k m ts c y _ HT2.out HSh.out HU2.out (by omega) HO.out hy HIn.out).mono ?_
      rintro e w3 ⟨⟨rS, rfl, hoS⟩, hb3⟩
      rw [HQ.out] at hoS
      have HS3 := hide (show IntsOf w3 rS q (at' (whyL k m ts c y)) from by
        have := HQ.out; subst this; exact own_list hoS)
      obtain ⟨aS, cS, rfl⟩ := own_form hoS
      have HA3 := hide (HA2.out.below hb3)
      have HT3 := hide (HT2.out.below hb3)
      have HU3 := hide (HU2.out.below hb3)
      have HB3 := hide (HB2.out.trans (hb3.mono (by omega)))
      have hs3 := hb3.size
      clear HA2 HT2 HU2 HB2 hb3 hoS
      go_wp2_with fail
      refine (impl_follows _ _ k m ts c y _ HT3.out HSh.out HU3.out (by omega) HO.out hy).mono ?_
      rintro e w4 ⟨he4, hb4⟩
      rw [HFi.out] at he4
      subst he4
      have HA4 := hide (HA3.out.below hb4)
      have HS4 := hide (HS3.out.below hb4)
      have HT4 := hide (HT3.out.below hb4)
      have HU4 := hide (HU3.out.below hb4)
      have HB4 := hide (HB3.out.trans (hb4.mono (by omega)))
      have hs4 := hb4.size
      clear HA3 HS3 HT3 HU3 HB3 hb4
      go_wp2_with fail
      refine (spec_follows _ _ k m ts c y _ HT4.out HSh.out HU4.out (by omega) HO.out hy).mono ?_
      rintro e w5 ⟨he5, hb5⟩
      rw [HFi.out] at he5
      subst he5
      have HA5 := hide (HA4.out.below hb5)
      have HS5 := hide (HS4.out.below hb5)
      have HT5 := hide (HT4.out.below hb5)
      have HU5 := hide (HU4.out.below hb5)
      have HB5 := hide (HB4.out.trans (hb5.mono (by omega)))
      have hs5 := hb5.size
      clear HA4 HS4 HT4 HU4 HB4 hb5
      go_wp2_with fail
      refine (same_ints _ _ q _ _ HA5.out HS5.out (by omega)).mono ?_
      rintro e w6 ⟨rfl, hb6⟩
      have HA := hide (HA5.out.below hb6)
      have HT := hide (HT5.out.below hb6)
      have HU := hide (HU5.out.below hb6)
      have HB := hide (HB5.out.trans (hb6.mono (by omega)))
      have hs6 := hb6.size
      clear HA5 HS5 HT5 HU5 HB5 hb6
      have hs0 : w.heap.size ≤ w6.heap.size := by omega
      clear hs1 hs2 hs3 hs4 hs5 hs6
      obtain ⟨Y, hYi, hYc⟩ := HT.out.bodies
      have HYi := hide hYi
      have HYc := hide hYc
      have HWF := hide (wf_of HO.out HIn.out)
      clear hYi hYc HIn HFi HT
      clear HO HSh
      generalize whyL k m ts c y = WL at HWF HA HQ
      obtain ⟨i0, hi, hz0, hz1, hz2⟩ := info_parts info_int
      obtain ⟨t0, hti, htz0, htz1, htz2⟩ := info_parts info_task
      have HUR := hide (show 0 < m → ∃ b off, au = some ⟨b, off, none⟩ ∧ b < w6.heap.size ∧ ∀ i, i < m → w6.cell? ⟨b, off + i, none⟩ = some (.int .i64 (c i)) from by
        obtain ⟨a', c', e, h⟩ := HU.out
        simp only [Value.slice.injEq, true_and] at e
        obtain ⟨rfl, rfl⟩ := e
        exact h)
      have hbA := (Below.refl w6.heap.size w6).alloc (Nat.le_refl _) (.cells #[] 3)
      have hown : (w6.alloc (.cells #[] 3)).ownsRow w6.heap.size 3 1 (.slice (some ⟨w6.heap.size, 0, none⟩) 0 0) 0 [] :=
        ⟨rfl, .inr ⟨w6.heap.size, 0, #[], rfl, Nat.le_refl _, heap_alloc_new _ _, by omega, by unfold maxLen; omega, rfl, rfl⟩⟩
      have HLF := hide (show ∀ j u, ((List.range m).map (iv c))[j]? = some u → ∀ ad, au = some ad → (w6.alloc (.cells #[] 3)).cell? (ad.add j) = some u from fun j u hj ad had => by
        have hjn : j < m := by have := (List.getElem?_eq_some_iff.1 hj).1; simpa using this
        obtain ⟨b, off, hb, hlt, hrow⟩ := HUR.out (by omega)
        rw [hb] at had; cases had
        rw [List.getElem?_map, List.getElem?_range hjn] at hj
        simp only [Option.map_some, Option.some.injEq] at hj
        rw [Addr.add_lit, ← hj]
        exact (hbA.cell (p := ⟨b, off + j, none⟩) hlt).trans (hrow j hjn))
      have HIL0 := hide (show (IL m c ts []).map vi = (List.range m).map (iv c) by unfold IL; rw [List.map_nil, List.append_nil, List.map_map]; rfl)
      go_upto_region 12 with fail
      go_cut [14] from 95 (fun x wx => ∃ ar cr, x = .slice ar m cr ∧ Hid (wx.ownsRow w6.heap.size 3 1 (.slice ar m cr) m ((IL m c ts []).map vi) ∧ Below w6.heap.size w6 wx))
      case first =>
        rcases au with _ | ad
        · have hn0 : m = 0 := by
            rcases Nat.eq_zero_or_pos m with h | h
            · exact h
            · obtain ⟨b, off, hb, _⟩ := HUR.out h; cases hb
          subst hn0
          have HX := hide (show (w6.alloc (.cells #[] 3)).ownsRow w6.heap.size 3 1 (.slice (some ⟨w6.heap.size, 0, none⟩) 0 0) 0 ((IL 0 c ts []).map vi) ∧ Below w6.heap.size w6 (w6.alloc (.cells #[] 3)) from ⟨by rw [HIL0.out]; exact hown, hbA⟩)
          clear HLF HUR hown hbA
          go_wp2
          go_meet
          exact ⟨_, _, rfl, HX⟩
        · have hnews := fun j u hj => HLF.out j u hj ad rfl
          clear HLF HUR
          go_wp2_with (at_builtin; refine wpList_append_own _ rfl _ _ 29 rfl w6.heap.size 3 i0 _ 1 8 Try.underlying29 hi hz0 hz1 hz2 rfl (by decide) _ 0 [] rfl hown ad m cu ((List.range m).map (iv c)) rfl ?c0 ?c1 ?c2 ?c3 ?c4 ?c5 ?_)
          try (case c0 => simp)
          try (case c1 => exact hnews)
          case c2 => intro u hu; obtain ⟨j, _, rfl⟩ := List.mem_map.1 hu; rfl
          case c3 => unfold maxLen; omega
          case c4 => omega
          case c5 => simp
          intro v' w7 hown7 hgrow _
          have hbw7 : Below w6.heap.size w6 w7 := hbA.grown hgrow (by simp) (fun j hj => (hown.lt j hj).1)
          obtain ⟨a7, c7, rfl⟩ := own_form hown7
          have HI := hide (show w7.ownsRow w6.heap.size 3 1 (.slice a7 m c7) m ((IL m c ts []).map vi) ∧ Below w6.heap.size w6 w7 from ⟨by rw [HIL0.out]; exact hown7, hbw7⟩)
          clear hown7 hgrow hown hnews hbw7 hbA
          go_wp2
          go_meet
          exact ⟨_, _, rfl, HI⟩
      case rest =>
        obtain ⟨ax0, cx0, rfl, HC⟩ := hcut
        clear hown HLF HUR hbA HIL0
        go_wp2
        go_loopw [14, 97] (fun p r wr => ∃ (t nn : Nat) (ax : Option Addr) (cx : Nat), t ≤ q ∧ Hid (nn = m + t) ∧ nn ≤ 44 ∧ p = .slice ax nn cx ∧ r = .int .i64 (t : Int) ∧ Hid (wr.ownsRow w6.heap.size 3 1 (.slice ax nn cx) nn ((IL m c ts (WL.take t)).map vi) ∧ Below w6.heap.size w6 wr)) (fun _ r _ => q - (intOf r).toNat)
        case atStart => exact ⟨0, m, ax0, cx0, Nat.zero_le _, hide rfl, by omega, rfl, rfl, hide (by rw [List.take_zero]; exact HC.out)⟩
        case round =>
          rename World => wr
          obtain ⟨t, nn, ax, cx, ht, hnn, hn44, rfl, rfl, HP⟩ := hrel
          have hlenIL : (IL m c ts (WL.take t)).length = nn := by rw [IL_len, List.length_take, HQ.out, hnn.out]; omega
          by_cases hlt : t < q
          · obtain ⟨i, hWi⟩ : ∃ i, WL[t]? = some i := ⟨WL[t]'(by rw [HQ.out]; exact hlt), List.getElem?_eq_getElem _⟩
            have hik : i < k := HWF.out.lt i (List.mem_of_getElem? hWi)
            obtain ⟨aa, ca, ea, hAr⟩ := HA.out
            simp only [Value.slice.injEq, true_and] at ea
            obtain ⟨rfl, rfl⟩ := ea
            obtain ⟨bA, oA, rfl, hbA, hAc⟩ := hAr (by omega)
            obtain ⟨bY, oY, rfl, hbY, hYc⟩ := HYc.out (by omega)
            have hbw := HP.out.2
            have hat : at' WL t = (i : Int) := by unfold at'; rw [List.getD_eq_getElem?_getD, hWi]; rfl
            have cA := (hbw.cell (p := ⟨bA, oA + t, none⟩) hbA).trans (hAc t hlt)
            rw [hat] at cA
            have cL := (hbw.cell (p := ⟨bY, oY + i * 2, none⟩) hbY).trans (hYc i hik).1
            have cY := (hbw.cell (p := ⟨bY, oY + i * 2 + 1, none⟩) hbY).trans (hYc i hik).2
            obtain ⟨ya, yc, hYf⟩ := (HYi.out i hik).form
            have HYI := hide ((HYi.out i hik).below hbw)
            have hy4 := HNn.out i
            rw [hYf] at HYI cY
            have hsp := split_at hWi
            have HIN := hide (show ∀ b, b < (ts i).nn → ∃ j, j < nn ∧ atI (IL m c ts (WL.take t)) j = (ts i).fn b from fun b hb => by
              rw [← hlenIL]; exact mem_atI (HWF.out.body i _ _ hsp b hb))
            have HOI := hide (own_vi hlenIL.symm HP.out.1)
            have HTk := hide (take_snoc hWi)
            generalize hlo : (ts i).long = lo at *
            have h0t : (0 : Int) ≤ (t : Int) := by omega
            have h1t : (t : Int) < (q : Int) := by omega
            have h0i : (0 : Int) ≤ (i : Int) := by omega
            have h1i : (i : Int) < (k : Int) := by omega
            clear hAr hAc hYc hat hsp hYf hbw hlenIL hWi
            have hn43 : nn + 1 ≤ 44 := by have := hnn.out; omega
            go_wp2_with fail
            refine (within_true _ _ (ts i).nn nn (ts i).fn _ _ HYI.out HOI.out (by omega) (by omega) HIN.out).mono ?_
            rintro e w8 ⟨rfl, hb8⟩
            have hbw8 := HP.out.2.trans (hb8.mono HP.out.2.size)
            have hown8 := owns_below HP.out.1 hb8
            have cL8 := (hb8.cell (p := ⟨bY, oY + i * 2, none⟩) (by have := HP.out.2.size; show bY < wr.heap.size; omega)).trans cL
            have hs8 := hbw8.size
            clear HYI HOI HIN cL cY cA hb8 HP
            go_wp2_with (at_builtin; refine wpList_append_own _ rfl _ _ 29 rfl w6.heap.size 3 i0 _ 1 8 Try.underlying29 hi hz0 hz1 hz2 rfl (by decide) _ nn _ rfl (hown8.alloc _) ⟨w8.heap.size, 0, none⟩ 1 1 [.int .i64 lo] rfl rfl ?c1 ?c2 ?c3 ?c4 ?c5 ?_)
            try (case c1 => exact news1 w8 _ _)
            case c2 => first | rfl | (intro u hu; simp at hu; subst hu; rfl)
            case c3 => unfold maxLen; omega
            case c4 => omega
            case c5 => simp; omega
            intro v' w9 hown9 hgrow _
            have hb9 : Below w6.heap.size w6 w9 := (hbw8.alloc hs8 _).grown hgrow (by simp; omega) (fun j hj => (hown8.lt j hj).1)
            obtain ⟨a9, c9, rfl⟩ := own_form hown9
            have HX := hide (show w9.ownsRow w6.heap.size 3 1 (.slice a9 (nn + 1) c9) (nn + 1) ((IL m c ts (WL.take (t + 1))).map vi) ∧ Below w6.heap.size w6 w9 from ⟨by rw [HTk.out, IL_snoc, List.map_append, hlo]; exact hown9, hb9⟩)
            clear hown9 hgrow hown8 hb9 hbw8 cL8
            go_wp2
            exact ⟨⟨t + 1, nn + 1, a9, c9, by omega, hide (by have := hnn.out; omega), hn43, rfl, by go_num, HX⟩, by simp [intOf]; omega⟩
          · obtain rfl : t = q := by omega
            have HOI := hide (own_vi hlenIL.symm HP.out.1)
            obtain ⟨j, hj, hjy⟩ : ∃ j, j < nn ∧ atI (IL m c ts (WL.take t)) j = (y : Int) := by
              rw [← hlenIL]; refine mem_atI ?_
              rw [List.take_of_length_le (by rw [HQ.out]; exact Nat.le_refl _)]; exact HWF.out.goal
            clear hlenIL
            go_wp2_with fail
            refine (has_true _ nn j _ (y : Int) _ HOI.out (by omega) hj hjy).mono ?_
            rintro e w8 ⟨rfl, hb8⟩
            have HB8 := hide (HP.out.2.trans (hb8.mono HP.out.2.size))
            clear HOI HP hb8 hj hjy
            go_wp2
            go_loopw [124] (fun r wr => ∃ (s : Nat), s ≤ t ∧ r = .int .i64 (s : Int) ∧ Hid (Below w6.heap.size w6 wr)) (fun r _ => t - (intOf r).toNat)
            case atStart => exact ⟨0, Nat.zero_le _, rfl, HB8⟩
            case round =>
              rename World => wo
              obtain ⟨s, hs, rfl, HBo⟩ := hrel
              by_cases hst : s < t
              · have hst1 : (s : Int) < (t : Int) := by omega
                go_wp2
                go_loopw [18, 129] (fun p r wr => ∃ (j mm : Nat) (ao : Option Addr) (co : Nat), j ≤ t ∧ mm ≤ j ∧ Hid (mm = (rst WL s j).length) ∧ p = .slice ao mm co ∧ r = .int .i64 (j : Int) ∧ Hid (wr.ownsRow w6.heap.size 48 2 (.slice ao mm co) mm (cellsR (rw' ts Y (rst WL s j))) ∧ Below w6.heap.size w6 wr)) (fun _ r _ => t - (intOf r).toNat)
                case atStart => exact ⟨0, 0, none, 0, Nat.zero_le _, Nat.le_refl _, hide (by rw [rst_zero]; rfl), rfl, rfl, hide ⟨by rw [rst_zero]; exact World.ownsRow_nil _ _ _ _, HBo.out⟩⟩
                case round =>
                  rename World => wq
                  obtain ⟨j, mm, ao, co, hj, hmm, HM, rfl, rfl, HP⟩ := hrel
                  by_cases hjt : j < t
                  · obtain ⟨i, hWi⟩ : ∃ i, WL[j]? = some i := ⟨WL[j]'(by rw [HQ.out]; exact hjt), List.getElem?_eq_getElem _⟩
                    have hik : i < k := HWF.out.lt i (List.mem_of_getElem? hWi)
                    obtain ⟨aa, ca, ea, hAr⟩ := HA.out
                    simp only [Value.slice.injEq, true_and] at ea
                    obtain ⟨rfl, rfl⟩ := ea
                    obtain ⟨bA, oA, rfl, hbA, hAc⟩ := hAr (by omega)
                    obtain ⟨bY, oY, rfl, hbY, hYc⟩ := HYc.out (by omega)
                    have hbw := HP.out.2
                    have hown := HP.out.1
                    have hsz := hbw.size
                    have hat : at' WL j = (i : Int) := by unfold at'; rw [List.getD_eq_getElem?_getD, hWi]; rfl
                    have cA := (hbw.cell (p := ⟨bA, oA + j, none⟩) hbA).trans (hAc j hjt)
                    rw [hat] at cA
                    have cL := (hbw.cell (p := ⟨bY, oY + i * 2, none⟩) hbY).trans (hYc i hik).1
                    have cY := (hbw.cell (p := ⟨bY, oY + i * 2 + 1, none⟩) hbY).trans (hYc i hik).2
                    obtain ⟨ya, yc, hYf⟩ := (HYi.out i hik).form
                    rw [hYf] at cY
                    have h0t : (0 : Int) ≤ (j : Int) := by omega
                    have h1t : (j : Int) < (t : Int) := by omega
                    have h0i : (0 : Int) ≤ (i : Int) := by omega
                    have h1i : (i : Int) < (k : Int) := by omega
                    by_cases hjs : j = s
                    · subst hjs
                      have HX := hide (show mm = (rst WL j (j + 1)).length ∧ wq.ownsRow w6.heap.size 48 2 (.slice ao mm co) mm (cellsR (rw' ts Y (rst WL j (j + 1)))) from by
                        rw [rst_at (by rw [HQ.out]; exact hjt)]; exact ⟨HM.out, hown⟩)
                      have HBq := hide hbw
                      clear hAr hAc hYc hat hYf HP HM hown hbw cL cY
                      go_wp2
                      exact ⟨⟨j + 1, mm, ao, co, by omega, by omega, hide HX.out.1, rfl, by go_num, hide ⟨HX.out.2, HBq.out⟩⟩, by simp [intOf]; omega⟩
                    · have hne : ((j : Int) != (s : Int)) = true := by simp; omega
                      have HRn := hide (rst_next (t := s) hWi hjs)
                      have HYf := hide hYf
                      generalize hlo : (ts i).long = lo at *
                      clear hAr hAc hYc hat hYf HP
                      go_wp2_with (at_builtin; refine wpList_append_own _ rfl _ _ 25 rfl w6.heap.size 48 t0 _ 2 32 Try.underlying25 hti htz0 htz1 htz2 rfl (by decide) _ mm _ rfl (hown.alloc _) ⟨wq.heap.size, 0, none⟩ 1 1 [.int .i64 lo, .slice ya (ts i).nn yc] rfl rfl ?c1 ?c2 ?c3 ?c4 ?c5 ?_)
                      try (case c1 => exact news2 wq _ _ _)
                      case c2 => first | (intro u hu; simp at hu; rcases hu with rfl | rfl <;> rfl) | exact ⟨rfl, rfl⟩
                      case c3 => unfold maxLen; omega
                      case c4 => omega
                      case c5 => first | omega | (simp; omega)
                      intro v' w9 hown9 hgrow _
                      have hb9 : Below w6.heap.size w6 w9 := (hbw.alloc hsz _).grown hgrow (by simp; omega) (fun j hj => (hown.lt j hj).1)
                      obtain ⟨a9, c9, rfl⟩ := own_form hown9
                      have HX := hide (show mm + 1 = (rst WL s (j + 1)).length ∧ w9.ownsRow w6.heap.size 48 2 (.slice a9 (mm + 1) c9) (mm + 1) (cellsR (rw' ts Y (rst WL s (j + 1)))) from by
                        rw [HRn.out, rw'_snoc, hlo, HYf.out, List.length_append, ← HM.out]; exact ⟨rfl, hown9⟩)
                      have HB9 := hide hb9
                      clear hown9 hgrow hown hb9 hbw cL cY cA
                      go_wp2
                      exact ⟨⟨j + 1, mm + 1, a9, c9, by omega, by omega, hide HX.out.1, rfl, by go_num, hide ⟨HX.out.2, HB9.out⟩⟩, by simp [intOf]; omega⟩
                  · obtain rfl : j = t := by omega
                    have hsW : s < WL.length := by rw [HQ.out]; exact hst
                    obtain ⟨i, hWi⟩ : ∃ i, WL[s]? = some i := ⟨WL[s], List.getElem?_eq_getElem hsW⟩
                    have hsp := split_at hWi
                    have hre : rst WL s j = WL.take s ++ WL.drop (s + 1) := by rw [← HQ.out]; exact rst_end hsW
                    have hrr := And.intro (HWF.out.okay i _ _ hsp) (HWF.out.rest i _ _ hsp)
                    have hTr := rows_list HM.out HP.out.1 (fun i hi => ((HYi.out i (HWF.out.lt i (by
                      rw [hre] at hi; rw [hsp]; simp only [List.mem_append, List.mem_cons] at hi ⊢
                      rcases hi with h | h
                      · exact .inl h
                      · exact .inr (.inr h)))).below HP.out.2))
                    rw [← hre, ← HM.out] at hrr
                    have HRR := hide hrr
                    have HTr := hide hTr
                    have HSr := hide (show Short mm (tsL ts (rst WL s j)) from ⟨by omega, fun i _ => by have := HNn.out ((rst WL s j).getD i 0); unfold tsL; omega⟩)
                    have HUq := hide (HU.out.below HP.out.2)
                    clear hsp hre hrr hTr hWi
                    go_wp2_with fail
                    refine (impl_follows _ _ mm m _ c y _ HTr.out HSr.out HUq.out (by omega) HRR.out.1 hy).mono ?_
                    rintro e w9 ⟨he9, hb9⟩
                    rw [HRR.out.2] at he9
                    subst he9
                    have HB9 := hide (HP.out.2.trans (hb9.mono HP.out.2.size))
                    clear HRR HTr HSr HUq hb9 HP
                    go_wp2
                    exact ⟨⟨s + 1, by omega, by go_num, HB9⟩, by simp [intOf]; omega⟩
              · go_wp2
                go_ret
                exact ⟨rfl, HB.out.trans (HBo.out.mono hs0)⟩
    · have HN := hide (not_why k m ts c x HSh.out (by omega) hOk)
      obtain ⟨b, hN⟩ := HN.out
      have HNN := hide hN
      clear HN hN hOk
      cases b
      all_goals
        go_wp2_with fail
        refine (HNN.out _ _ _ HT.out HU.out).1.mono ?_
        rintro e w2 ⟨rfl, hb2⟩
        have HT2 := hide (HT.out.below hb2)
        have HU2 := hide (HU.out.below hb2)
        have HB2 := hide (HB1.out.trans (hb2.mono hs1))
        have hs2 := hb2.size
        clear HT HU HB1 hb2
        go_wp2_with fail
        refine (HNN.out _ _ _ HT2.out HU2.out).2.1.mono ?_
        rintro e w3 ⟨rfl, hb3⟩
        have HT3 := hide (HT2.out.below hb3)
        have HU3 := hide (HU2.out.below hb3)
        have HB3 := hide (HB2.out.trans (hb3.mono (by omega)))
        have hs3 := hb3.size
        clear HT2 HU2 HB2 hb3
        go_wp2_with fail
        refine (HNN.out _ _ _ HT3.out HU3.out).2.2.1.mono ?_
        rintro e w4 ⟨rfl, hb4⟩
        have HT4 := hide (HT3.out.below hb4)
        have HU4 := hide (HU3.out.below hb4)
        have HB4 := hide (HB3.out.trans (hb4.mono (by omega)))
        have hs4 := hb4.size
        clear HT3 HU3 HB3 hb4
        go_wp2_with fail
        refine (HNN.out _ _ _ HT4.out HU4.out).2.2.2.mono ?_
        rintro e w5 ⟨rfl, hb5⟩
        have HB5 := hide (HB4.out.trans (hb5.mono (by omega)))
        have hs5 := hb5.size
        clear HT4 HU4 HB4 hb5 HNN
        go_wp2_with fail
        refine (same_ints _ _ 0 (fun _ => 0) _ (none_ints _) (none_ints _) (by omega)).mono ?_
        rintro e w6 ⟨rfl, hb6⟩
        have hb6' := HB5.out.trans (hb6.mono (by omega))
        clear HB5 hb6
        go_wp2
        go_ret
        exact ⟨rfl, hb6'⟩
end Go.Proofs.Ytpabnncfcklnpaa

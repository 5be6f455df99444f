/-
  Texts that follow one another, joined: BrV, BrL4.
-/
import Derived.Test.YtcbkeabfnldmhaaDoorJoin37
/-
  EventsIn in both texts. Condition of the program's: the table knownKinds reads as its text lays it.
-/
namespace Go.Proofs.YtcbkeabfnldmhaaDoor
open Go.RowKit M
open Go.Sort (grow)
namespace M
def prv (bs : Brs) (k : Nat) : Evs := if k = 0 then [] else bs.getD (k - 1) []
theorem prv_mst (bs : Brs) (k : Nat) : com (prv bs k) (bs.getD k []) = mst bs k := by
  unfold prv mst; split
  · exact com_nil_l _
  · rfl
theorem prv_succ {bs : Brs} {k : Nat} {b : Evs} (h : bs[k]? = some b) : prv bs (k + 1) = b := by
  unfold prv; rw [if_neg (by omega), Nat.add_sub_cancel, getD_at h]
def evn0 (b : Bool) (bs : Brs) : Nat := if b = true then cnt bs bs.length else 0
theorem prv_len {bs : Brs} (h : ∀ b ∈ bs, b.length ≤ 60) {k : Nat} (hk : k ≤ bs.length) : (prv bs k).length ≤ 60 := by
  unfold prv; split
  · simp
  · rename_i h0
    have he : bs[k - 1]? = some (bs[k - 1]'(by omega)) := List.getElem?_eq_getElem _
    rw [getD_at he]; exact h _ (List.getElem_mem _)
theorem prv_pl {bs : Brs} (h : ∀ b ∈ bs, Pl b) {k : Nat} (hk : k ≤ bs.length) : Pl (prv bs k) := by
  unfold prv; split
  · exact fun i e he => by simp at he
  · rename_i h0
    have he : bs[k - 1]? = some (bs[k - 1]'(by omega)) := List.getElem?_eq_getElem _
    rw [getD_at he]; exact h _ (List.getElem_mem _)
end M
set_option maxRecDepth 20000 in
set_option maxHeartbeats 4000000 in
theorem impl_events (v : Value) (bs : Brs) (b : Bool) (w : World) (hv : BrsOf w v bs) (hf : FineS bs) (hkk : KK w) (hb : BP b (GdT bs)) :
    Calls Tryd.prog 26 #[.agg #[v]] w fun e w' => e = .returned (.tuple #[.int .i64 ((evn0 b bs : Nat) : Int), .bool b]) ∧ Below w.heap.size w w' := by
  have hal := (Below.refl w.heap.size w).alloc (Nat.le_refl _) (.cells #[v] 29)
  have HV := hide hv
  have HC := hide (show M.One (w.alloc (.cells #[v] 29)) w.heap.size v 29 from heap_alloc_new w _)
  have HF := hide hf
  have HB := hide hb
  have HK := hide (hkk.below hal)
  have hn := hf.1
  obtain ⟨a1, c1, rfl⟩ := hv.form
  have d0 := HC.out.cell
  clear hv hf hkk hb
  cases b
  · go_enter Tryd.func26, Tryd.ntmps26
    go_wp2_with fail
    refine (impl_gt _ bs false _ (HV.out.below hal) HF.out HK.out HB.out).mono ?_
    rintro e w2 ⟨rfl, hb2⟩
    have hbw := hal.trans (hb2.mono hal.size)
    go_wp2
    go_ret2
    exact ⟨rfl, hbw⟩
  · have HG := hide (HB.out.1 rfl)
    have h12 := HG.out.1
    have HE0 := hide (show evn0 true bs = cnt bs bs.length from if_pos rfl)
    go_enter Tryd.func26, Tryd.ntmps26
    go_wp2_with fail
    refine (impl_gt _ bs true _ (HV.out.below hal) HF.out HK.out HB.out).mono ?_
    rintro e w2 ⟨rfl, hb2⟩
    have hbw := hal.trans (hb2.mono hal.size)
    clear d0
    have d0 := (HC.out.down hb2).cell
    clear hb2 hal HC
    go_wp2
    go_loopw [4, 5, 14] (fun x y i wr => ∃ (k q : Nat) (aa : Option Addr) (ca : Nat), k ≤ bs.length ∧ i = .int .i64 k ∧ x = .int .i64 q ∧ y = .slice aa (prv bs k).length ca ∧ Hid (q = cnt bs k) ∧ Hid (SliceOf w (.slice aa (prv bs k).length ca) (prv bs k)) ∧ Below w.heap.size w wr) (fun _ _ i _ => bs.length - (intOf i).toNat)
    case atStart => exact ⟨0, 0, none, 0, Nat.zero_le _, rfl, rfl, rfl, hide rfl, hide ⟨_, _, rfl, fun h => absurd rfl h⟩, hbw⟩
    case round =>
      obtain ⟨k, q, aa, ca, hk, rfl, rfl, rfl, HQ, HP, hbr⟩ := hrel
      clear hbw
      by_cases hlt : k < bs.length
      · obtain ⟨es, he⟩ : ∃ e, bs[k]? = some e := ⟨bs[k], List.getElem?_eq_getElem hlt⟩
        obtain ⟨g, off, rfl, hlg, a2, c2, hc, hs⟩ := HV.out.at he
        have hcw := (hbr.cell (p := ⟨g, off + k, none⟩) hlg).trans hc
        obtain ⟨wq, hwq⟩ : ∃ wq, wr.alloc (.cells #[.slice a2 es.length c2] 51) = wq := ⟨_, rfl⟩
        have hrq : Below wr.heap.size wr wq := by rw [← hwq]; exact (Below.refl _ _).alloc (Nat.le_refl _) _
        have hbq : Below w.heap.size w wq := hbr.trans (hrq.mono hbr.size)
        have q0 : wq.cell? ⟨wr.heap.size, 0, none⟩ = some (.slice a2 es.length c2) := by rw [← hwq]; exact one_new wr _ _
        have k4 := cell_regrown q0
        have hel := HG.out.fine es (List.mem_of_getElem? he)
        obtain ⟨pl, hpl⟩ : ∃ pl, (prv bs k).length = pl := ⟨_, rfl⟩
        obtain ⟨cc, hcc⟩ : ∃ cc, com (prv bs k) es = cc := ⟨_, rfl⟩
        have hcl : cc ≤ es.length := by rw [← hcc]; exact com_le2 _ _
        obtain ⟨m, hm⟩ : ∃ m, es.length - cc = m := ⟨_, rfl⟩
        have HCL := hide (show cnt bs (k + 1) = q + m by
          rw [cnt, ← prv_mst, getD_at he, hcc, hm, HQ.out])
        have hql : q + m ≤ 720 := by
          rw [← HCL.out]
          have := cnt_le HG.out.fine (k + 1) hlt
          omega
        have hs1 : (es.length : Int) - (cc : Int) = (m : Int) := by omega
        obtain ⟨y, hy⟩ : ∃ y, q + m = y := ⟨_, rfl⟩
        have hs2 : (q : Int) + (m : Int) = (y : Int) := by omega
        have hw1 : IntKind.i64.wrap (m : Int) = (m : Int) := by rw [IntKind.wrap_i64]; omega
        have hw2 : IntKind.i64.wrap (y : Int) = (y : Int) := by rw [IntKind.wrap_i64]; omega
        have HY := hide (show y = cnt bs (k + 1) by rw [← hy]; exact HCL.out.symm)
        have HE := hide (show ∀ dd os, Calls Tryd.prog 48 #[.slice aa (prv bs k).length ca, .slice a2 es.length c2] (grow (redrawn wq dd) os) fun e' w'' => e' = .returned (.int .i64 (cc : Int)) ∧ ∃ p : Regrown, w'' = grow (redrawn wq p.d) p.os from fun dd os => by
          rw [← hcc]
          exact Calls.regrown_of (impl_com _ _ (prv bs k) es _ (HP.out.below (hbq.trans ((below_regrown wq dd os).mono hbq.size))) (hs.below (hbq.trans ((below_regrown wq dd os).mono hbq.size))) (by have := prv_len HG.out.fine hk; omega) (by omega) (prv_pl HG.out.pl hk) (HG.out.pl es (List.mem_of_getElem? he))))
        rw [hpl] at HE
        have HPS := hide (prv_succ he)
        have HSL := hide (show SliceOf w (.slice a2 (prv bs (k + 1)).length c2) (prv bs (k + 1)) by rw [HPS.out]; exact hs)
        have HWQ := hide hwq
        have HSM := hide hs1
        clear hc hs he hwq hrq hm hcc HQ HP hy HCL hql
        rw [hpl]
        clear hpl
        go_upto_region 8 with fail
        rw [HWQ.out]
        refine wp_region_quiet_below (by kernel_rfl) (by kernel_rfl) ?_
        repeat (go_big_quiet_step (with_reducible exact HE.out _ _))
        refine wpQuiet_nil ?_
        intro _ hw'
        obtain ⟨⟨dq, osq⟩, hw''⟩ := hw'
        subst hw''
        have hbz := hbq.trans ((below_regrown wq dq osq).mono hbq.size)
        have p4 := k4 dq osq
        clear HE k4 q0 hs1 hs2 hw1 hw2 hcw
        go_wp2
        go_roundw
        case rel => exact ⟨k + 1, y, a2, c2, by omega, by go_num, rfl, by rw [HPS.out], HY, HSL, hbz⟩
        case measure => simp [intOf]; omega
      · obtain rfl : k = bs.length := by omega
        have HQ2 := hide HQ.out
        clear HV HP HQ
        go_wp2
        go_ret2
        exact ⟨by rw [HE0.out, ← HQ2.out]; rfl, hbr⟩
set_option maxRecDepth 20000 in
set_option maxHeartbeats 4000000 in
theorem spec_events (v : Value) (bs : Brs) (b : Bool) (w : World) (hv : BrsOf w v bs) (hf : FineS bs) (hco : CapOk v) (hb : BP b (GdT bs)) :
    Calls Tryd.prog 25 #[.agg #[v]] w fun e w' => e = .returned (.tuple #[.int .i64 ((evn0 b bs : Nat) : Int), .bool b]) ∧ Below w.heap.size w w' := by
  have hal := (Below.refl w.heap.size w).alloc (Nat.le_refl _) (.cells #[v] 29)
  have HV := hide hv
  have HC := hide (show M.One (w.alloc (.cells #[v] 29)) w.heap.size v 29 from heap_alloc_new w _)
  have HF := hide hf
  have HB := hide hb
  have HCO := hide hco
  have hn := hf.1
  obtain ⟨a1, c1, rfl⟩ := hv.form
  have hcap : bs.length ≤ c1 := hco
  have d0 := HC.out.cell
  clear hv hf hco hb
  cases b
  · go_enter Tryd.func25, Tryd.ntmps25
    go_wp2_with fail
    refine (spec_gt _ bs false _ (HV.out.below hal) HF.out HCO.out HB.out).mono ?_
    rintro e w2 ⟨rfl, hb2⟩
    have hbw := hal.trans (hb2.mono hal.size)
    go_wp2
    go_ret2
    exact ⟨rfl, hbw⟩
  · have HG := hide (HB.out.1 rfl)
    have h12 := HG.out.1
    have HE0 := hide (show evn0 true bs = cnt bs bs.length from if_pos rfl)
    go_enter Tryd.func25, Tryd.ntmps25
    go_wp2_with fail
    refine (spec_gt _ bs true _ (HV.out.below hal) HF.out HCO.out HB.out).mono ?_
    rintro e w2 ⟨rfl, hb2⟩
    have hbw := hal.trans (hb2.mono hal.size)
    clear d0
    have HD0 := hide (HC.out.down hb2).cell
    have d0 := HD0.out
    clear hb2 hal HC
    go_wp2
    go_loopw [4, 18] (fun x i wr => ∃ k q : Nat, k ≤ bs.length ∧ i = .int .i64 k ∧ x = .int .i64 q ∧ Hid (q = cnt bs k) ∧ q ≤ 720 ∧ Hid (wr.cell? ⟨w.heap.size, 0, none⟩ = some (.slice a1 bs.length c1)) ∧ Below w.heap.size w wr) (fun _ i _ => bs.length - (intOf i).toNat)
    case atStart => exact ⟨0, 0, Nat.zero_le _, rfl, rfl, hide rfl, by omega, HD0, hbw⟩
    case round =>
      rename World => wo
      obtain ⟨k, q, hk, rfl, rfl, HQ, hq, HX, hbr⟩ := hrel
      clear hbw d0 HD0
      have hxl : w.heap.size < wo.heap.size := World.block_lt_of_cell? wo _ HX.out
      by_cases hlt : k < bs.length
      · obtain ⟨es, he⟩ : ∃ e, bs[k]? = some e := ⟨bs[k], List.getElem?_eq_getElem hlt⟩
        obtain ⟨g, off, rfl, hlg, a2, c2, hc, hs⟩ := HV.out.at he
        have hcw := (hbr.cell (p := ⟨g, off + k, none⟩) hlg).trans hc
        have hrq : Below wo.heap.size wo (wo.alloc (.cells #[.slice a2 es.length c2] 51)) := (Below.refl _ _).alloc (Nat.le_refl _) _
        have hbq := hbr.trans (hrq.mono hbr.size)
        have hX2 := (hrq.cell (p := ⟨w.heap.size, 0, none⟩) hxl).trans HX.out
        have HX2 := hide hX2
        have HY2 := hide (one_new wo (.slice a2 es.length c2) 51)
        have hel := HG.out.fine es (List.mem_of_getElem? he)
        have HS := hide hs
        have hk0 : (0 : Int) ≤ (k : Int) := by omega
        have hkc : (k : Int) ≤ (c1 : Int) := by omega
        have hkc2 : k ≤ c1 := by omega
        have HGD := hide (getD_at he)
        clear hc hs he hrq
        go_wp2
        go_loopw [7, 28] (fun x i wr => ∃ m p : Nat, m ≤ k ∧ i = .int .i64 m ∧ x = .int .i64 p ∧ Hid (p = mx bs k m) ∧ Hid (wr.cell? ⟨w.heap.size, 0, none⟩ = some (.slice (some ⟨g, off, none⟩) bs.length c1)) ∧ Hid (wr.cell? ⟨wo.heap.size, 0, none⟩ = some (.slice a2 es.length c2)) ∧ Below w.heap.size w wr) (fun _ i _ => k - (intOf i).toNat)
        case atStart => exact ⟨0, 0, Nat.zero_le _, rfl, rfl, hide rfl, HX2, HY2, hbq⟩
        case round =>
          obtain ⟨m, p, hm, rfl, rfl, HP, HXr, HYr, hbx⟩ := hrel
          clear hX2 HX2 HY2 hbq hcw
          have hxr : w.heap.size < wr.heap.size := World.block_lt_of_cell? wr _ HXr.out
          have hyr : wo.heap.size < wr.heap.size := World.block_lt_of_cell? wr _ HYr.out
          by_cases hlm : m < k
          · obtain ⟨d, hd⟩ : ∃ d, bs[m]? = some d := ⟨bs[m], List.getElem?_eq_getElem (by omega)⟩
            obtain ⟨g', off', hgg, -, a3, c3, hc3, hs3⟩ := HV.out.at hd
            simp only [Option.some.injEq, Addr.mk.injEq, and_true] at hgg
            obtain ⟨rfl, rfl⟩ := hgg
            have hcw := (hbx.cell (p := ⟨g, off + m, none⟩) hlg).trans hc3
            obtain ⟨wq, hwq⟩ : ∃ wq, wr.alloc (.cells #[.slice a3 d.length c3] 51) = wq := ⟨_, rfl⟩
            have hrq : Below wr.heap.size wr wq := by rw [← hwq]; exact (Below.refl _ _).alloc (Nat.le_refl _) _
            have hbq : Below w.heap.size w wq := hbx.trans (hrq.mono hbx.size)
            have q1 := (hrq.cell (p := ⟨w.heap.size, 0, none⟩) hxr).trans HXr.out
            have q2 := (hrq.cell (p := ⟨wo.heap.size, 0, none⟩) hyr).trans HYr.out
            have HQ2 := hide (And.intro q1 q2)
            have q3 : (wr.alloc (.cells #[.slice a3 d.length c3] 51)).cell? ⟨wo.heap.size, 0, none⟩ = some (.slice a2 es.length c2) := by rw [hwq]; exact q2
            have HWQ := hide hwq
            have hdl := HG.out.fine d (List.mem_of_getElem? hd)
            have HS3 := hide hs3
            obtain ⟨cc, hcc⟩ : ∃ cc, com d es = cc := ⟨_, rfl⟩
            have HMX := hide (show mx bs k (m + 1) = if p < cc then cc else p by
              rw [mx, getD_at hd, HGD.out, hcc, ← HP.out])
            have HCC := hide hcc
            clear hc3 hs3 hd hwq hrq q1 q2 hcc
            go_wp2_with fail
            rw [HWQ.out]
            refine (spec_cmp _ _ d es _ (HS3.out.below hbq) (HS.out.below hbq) (by omega) (by omega)).mono ?_
            rw [HCC.out]
            rintro e w3 ⟨rfl, hb3⟩
            have hbw3 := hbq.trans (hb3.mono hbq.size)
            have HX3 := hide ((hb3.cell (p := ⟨w.heap.size, 0, none⟩) (World.block_lt_of_cell? wq _ HQ2.out.1)).trans HQ2.out.1)
            have HY3 := hide ((hb3.cell (p := ⟨wo.heap.size, 0, none⟩) (World.block_lt_of_cell? wq _ HQ2.out.2)).trans HQ2.out.2)
            clear hb3 q3 hcw HQ2 HWQ hbq HXr HYr
            by_cases hz : p < cc
            · have hzI : (cc : Int) > (p : Int) := by omega
              have HM2 := hide (show cc = mx bs k (m + 1) by rw [HMX.out, if_pos hz])
              go_wp2
              exact ⟨⟨m + 1, cc, by omega, by go_num, rfl, HM2, HX3, HY3, hbw3⟩, by simp [intOf]; omega⟩
            · have hzI : ¬ (cc : Int) > (p : Int) := by omega
              have HM2 := hide (show p = mx bs k (m + 1) by rw [HMX.out, if_neg hz])
              go_wp2
              exact ⟨⟨m + 1, p, by omega, by go_num, rfl, HM2, HX3, HY3, hbw3⟩, by simp [intOf]; omega⟩
          · obtain rfl : m = k := by omega
            have hpl : p ≤ es.length := by
              have := mx_le bs m m
              rw [HGD.out] at this
              rw [HP.out]; exact this
            obtain ⟨y, hy⟩ : ∃ y, q + (es.length - p) = y := ⟨_, rfl⟩
            have HYC := hide (show y = cnt bs (m + 1) by
              rw [cnt, HGD.out, ← mx_mst HG.out.2.2 hlt, ← HP.out, ← HQ.out, hy])
            have hy2 : y ≤ 720 := by
              rw [HYC.out]
              have := cnt_le HG.out.fine (m + 1) hlt
              omega
            have hyI : (q : Int) + ((es.length : Int) - (p : Int)) = (y : Int) := by omega
            have hcy := HYr.out
            clear HP HQ hy
            go_wp2
            go_roundw
            case rel => exact ⟨m + 1, y, by omega, by go_num, by first | rfl | go_num | (congr 1; omega), HYC, hy2, HXr, hbx⟩
            case measure => simp [intOf]; omega
      · obtain rfl : k = bs.length := by omega
        have HQ2 := hide HQ.out
        clear HV HQ
        go_wp2
        go_ret2
        exact ⟨by rw [HE0.out, ← HQ2.out]; rfl, hbr⟩
end Go.Proofs.YtcbkeabfnldmhaaDoor

/-
  The law of EventsIn, walked. Condition: the table knownKinds reads as the program's text lays it.
-/
namespace Go.Proofs.YtcbkeabfnldmhaaDoor
open Go.RowKit M
open Go.Sort (grow)
set_option maxRecDepth 20000 in
set_option maxHeartbeats 4000000 in
theorem law_EventsIn_run (v : Value) (bs : Brs) (w : World) (hv : BrsOf w v bs) (hf : Fine bs) (hkk : KK w)
    (hC : FineS bs → ∃ (r0 : Int) (r1 : Bool), (∀ (v : Value) (w : World), BrsOf w v bs → CapOk v → Calls Tryd.prog 25 #[.agg #[v]] w fun e w' => e = .returned (.tuple #[.int .i64 r0, .bool r1]) ∧ Below w.heap.size w w') ∧
      (∀ (v : Value) (w : World), BrsOf w v bs → KK w → Calls Tryd.prog 26 #[.agg #[v]] w fun e w' => e = .returned (.tuple #[.int .i64 r0, .bool r1]) ∧ Below w.heap.size w w')) :
    Calls Tryd.prog 7 #[.agg #[v]] w fun e w' => e = .returned (.bool true) ∧ Below w.heap.size w w' := by
  obtain ⟨a, c, rfl⟩ := hv.form
  have hb0 := (Below.refl w.heap.size w).alloc (Nat.le_refl _) (.cells #[.slice a bs.length c] 24)
  have HN0 := hide (show M.One (w.alloc (.cells #[.slice a bs.length c] 24)) w.heap.size (.slice a bs.length c) 24 from heap_alloc_new w _)
  have HV := hide hv
  have HF := hide hf
  have HK := hide hkk
  have HC := hide hC
  clear hv hf hkk hC
  by_cases hfit : bs.length + wb bs ≤ 1048576
  case neg =>
    have hz := szr_no (left := 1048576) (n := bs.length + wb bs) (by omega)
    have hge : szr 1048576 (bs.length + wb bs) < 0 := by rw [hz]; omega
    clear hz HC HN0
    go_enter Tryd.func7, Tryd.ntmps7
    go_wp2_with fail
    refine (sz_tell _ bs 1048576 _ (HV.out.below hb0) HF.out (by decide) (by decide)).mono ?_
    rintro e w1 ⟨rfl, hb⟩
    have hb1 := hb0.trans (hb.mono hb0.size)
    clear hb
    go_wp2
    go_ret
    exact ⟨rfl, hb1⟩
  have hz := szr_yes (left := 1048576) (n := bs.length + wb bs) (by omega)
  have hge : ¬ (szr 1048576 (bs.length + wb bs) < 0) := by rw [hz]; omega
  have HS := hide (fine_small HF.out hfit)
  obtain ⟨r0, r1, hS, hI⟩ := HC.out HS.out
  have CS := hide hS
  have CI := hide hI
  have er0 : (r0 != r0) = false := by simp
  have er1 : (r1 != r1) = false := by simp
  clear hz HC hS hI hfit
  go_enter Tryd.func7, Tryd.ntmps7
  go_wp2_with fail
  refine (sz_tell _ bs 1048576 _ (HV.out.below hb0) HF.out (by decide) (by decide)).mono ?_
  rintro e w1 ⟨rfl, hb⟩
  have hb1 := hb0.trans (hb.mono hb0.size)
  have HN1 := hide (HN0.out.down hb)
  clear hb hb0 HN0
  have d0 := HN1.out.cell
  go_wp2_with fail
  refine (to_tell _ bs _ (HV.out.below hb1) HS.out).mono ?_
  rintro e w2 ⟨⟨g2, ps2, rfl, hO, hps⟩, hb⟩
  have hx := hO.brs
  rw [hps] at hx
  have HX2 := hide hx
  have hb2 := hb1.trans (hb.mono hb1.size)
  have HN2 := hide (HN1.out.down hb)
  clear hb hb1 hO hps hx HN1 d0
  go_wp2_with fail
  refine (CS.out _ _ HX2.out (Nat.le_refl _)).mono ?_
  rintro e w3 ⟨rfl, hb⟩
  have hb3 := hb2.trans (hb.mono hb2.size)
  have HN3 := hide (HN2.out.down hb)
  clear hb hb2 HN2 HX2
  have d0 := HN3.out.cell
  go_wp2_with fail
  refine (to_tell _ bs _ (HV.out.below hb3) HS.out).mono ?_
  rintro e w4 ⟨⟨g4, ps4, rfl, hO, hps⟩, hb⟩
  have hx := hO.brs
  rw [hps] at hx
  have hb4 := hb3.trans (hb.mono hb3.size)
  have hdn := (Below.refl w4.heap.size w4).alloc (Nat.le_refl _) (.cells #[.slice (some ⟨g4, 0, none⟩) bs.length bs.length] 29)
  have HY5 := hide (show M.One (w4.alloc (.cells #[.slice (some ⟨g4, 0, none⟩) bs.length bs.length] 29)) w4.heap.size (.slice (some ⟨g4, 0, none⟩) bs.length bs.length) 29 from heap_alloc_new _ _)
  have HX5 := hide (hx.below hdn)
  have HN5 := hide ((HN3.out.down hb).down hdn)
  have hb5 := hb4.trans (hdn.mono hb4.size)
  clear hb hb3 hb4 hO hps hx hdn HN3 d0
  have e0 := HY5.out.cell
  go_wp2_with fail
  refine (CI.out _ _ HX5.out (HK.out.below hb5)).mono ?_
  rintro e w6 ⟨rfl, hb⟩
  have hb6 := hb5.trans (hb.mono hb5.size)
  have HX6 := hide (HX5.out.below hb)
  have HY6 := hide (HY5.out.down hb)
  have HN6 := hide (HN5.out.down hb)
  clear hb hb5 HX5 HY5 HN5 e0 CS CI
  have d0 := HN6.out.cell
  have e0 := HY6.out.cell
  have HM := hide (show ∀ wx wy : World, wx.heap = w6.heap → Below wx.heap.size wx wy → wy.cell? ⟨w4.heap.size, 0, none⟩ = some (.slice (some ⟨g4, 0, none⟩) bs.length bs.length) from fun wx wy hh hb => by
    have h : M.One wx w4.heap.size (.slice (some ⟨g4, 0, none⟩) bs.length bs.length) 29 := by unfold M.One; rw [hh]; exact HY6.out
    exact (h.down hb).cell)
  go_wp2_with fail
  go_region_with (first | (go_at_call 10; refine (to_tell _ bs _ (HV.out.below (hb6.drew)) HS.out).mono ?_; rintro e w7 ⟨⟨g7, ps7, rfl, hO7, hps7⟩, hb7⟩; have hx7 := hO7.brs; rw [hps7] at hx7; have HX7 := hide hx7; clear hx7 hO7 hps7; have m0 := HM.out w6.drew w7 rfl hb7) | (go_at_call 12; refine (eq_tell _ _ bs _ ((HX6.out.below ((Below.refl w6.heap.size w6).drew)).below hb7) HX7.out HS.out).mono ?_; rintro e w8 ⟨rfl, hb8⟩))
  all_goals
    have hbz : Below w.heap.size w w8 := (hb6.drew.trans (hb7.mono hb6.size)).trans (hb8.mono (Nat.le_trans hb6.size hb7.size))
    clear hb7 hb8 HX7 m0 d0 e0 HM HX6 HY6 HN6 HV HS
    go_wp2
    go_ret
    exact ⟨rfl, hbz⟩
theorem law_eventsIn (v : Value) (bs : Brs) (w : World) (hv : BrsOf w v bs) (hf : Fine bs) (hkk : KK w) :
    Calls Tryd.prog 7 #[.agg #[v]] w fun e w' => e = .returned (.bool true) ∧ Below w.heap.size w w' :=
  law_EventsIn_run v bs w hv hf hkk (fun hs => by
    obtain ⟨b, hb⟩ := bp_ex (GdT bs)
    exact ⟨_, _, fun v w h hc => spec_events v bs b w h hs hc hb, fun v w h hk => impl_events v bs b w h hs hk hb⟩)
end Go.Proofs.YtcbkeabfnldmhaaDoor

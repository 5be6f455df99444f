/-
  Texts that follow one another, joined: BrHs, BrL, OpenEvs.
-/
import Derived.Test.YtcbkeabfnldmhaaDoorJoin34
import Derived.Deep.RegionWith
import Derived.Test.YtcbkeabfnldmhaaDoorJoin3
import Derived.Deep.Slices
import Derived.Lib.SmallJoins
import Derived.ProofKit
/-
  GoodTellings of the specification: each history against all ahead of it.
-/
namespace Go.Proofs.YtcbkeabfnldmhaaDoor
open Go.RowKit M
open Go.Sort (grow)
set_option maxRecDepth 20000 in
set_option maxHeartbeats 4000000 in
theorem spec_gt (v : Value) (bs : Brs) (b : Bool) (w : World) (hv : BrsOf w v bs) (hf : FineS bs) (hco : CapOk v) (hb : BP b (GdT bs)) :
    Calls Tryd.prog 9 #[.agg #[v]] w fun e w' => e = .returned (.bool b) ∧ Below w.heap.size w w' := by
  have HV := hide hv
  have HF := hide hf
  have HB := hide hb
  have hn := hf.1
  obtain ⟨a, cap, rfl⟩ := hv.form
  have hcap : bs.length ≤ cap := hco
  have hal := (Below.refl w.heap.size w).alloc (Nat.le_refl _) (.cells #[.slice a bs.length cap] 29)
  have HX0 := hide (one_new w (.slice a bs.length cap) 29)
  clear hv hf hb hco
  go_enter Tryd.func9, Tryd.ntmps9
  go_wp2
  go_loopw [12] (fun i wr => ∃ k : Nat, k ≤ bs.length ∧ i = .int .i64 k ∧ Hid (UpK bs k) ∧ Hid (wr.cell? ⟨w.heap.size, 0, none⟩ = some (.slice a bs.length cap)) ∧ Below w.heap.size w wr) (fun i _ => bs.length - (intOf i).toNat)
  case atStart => exact ⟨0, Nat.zero_le _, rfl, hide (UpK.zero bs), HX0, hal⟩
  case round =>
    rename World => wo
    obtain ⟨k, hk, rfl, HI, HX, hbw⟩ := hrel
    clear HX0 hal
    have hxl : w.heap.size < wo.heap.size := World.block_lt_of_cell? wo _ HX.out
    by_cases hlt : k < bs.length
    · obtain ⟨es, he⟩ : ∃ e, bs[k]? = some e := ⟨bs[k], List.getElem?_eq_getElem hlt⟩
      obtain ⟨g, off, rfl, hlg, a2, c2, hc, hs⟩ := HV.out.at he
      have hcw := (hbw.cell (p := ⟨g, off + k, none⟩) hlg).trans hc
      have hE0 := hide (HF.out.at he)
      have hrq : Below wo.heap.size wo (wo.alloc (.cells #[.slice a2 es.length c2] 51)) := (Below.refl _ _).alloc (Nat.le_refl _) _
      have hbq := hbw.trans (hrq.mono hbw.size)
      have HX2 := hide ((hrq.cell (p := ⟨w.heap.size, 0, none⟩) hxl).trans HX.out)
      have HY2 := hide (one_new wo (.slice a2 es.length c2) 51)
      obtain ⟨tb, htb⟩ := bp_ex (Tl es)
      have HTB := hide htb
      have HE := hide he
      have HS := hide hs
      clear hc hs he htb hrq
      go_wp2_with fail
      refine (spec_tl _ es tb _ (HS.out.below hbq) hE0.out.1 hE0.out.2 HTB.out).mono ?_
      rintro e w2 ⟨rfl, hb2⟩
      have hbw2 := hbq.trans (hb2.mono hbq.size)
      have hcx := (hb2.cell (p := ⟨w.heap.size, 0, none⟩) (by simp; omega)).trans HX2.out
      have hcy := (hb2.cell (p := ⟨wo.heap.size, 0, none⟩) (by simp)).trans HY2.out
      have HXX := hide hcx
      have HYY := hide hcy
      clear hb2 hbq HX2 HY2 hcw
      cases tb
      · have HN := hide (HB.out.no (gd_tl HE.out (fun h => by have := HTB.out.yes h; cases this)))
        clear HI HF
        go_wp2
        go_ret
        exact ⟨ret_bool HN.out.symm, hbw2⟩
      · have HTL := hide (HTB.out.1 rfl)
        have hk0 : (0 : Int) ≤ (k : Int) := by omega
        have hkc : (k : Int) ≤ (cap : Int) := by omega
        have hkc2 : k ≤ cap := by omega
        go_wp2
        go_loopw [26] (fun i wr => ∃ m : Nat, m ≤ k ∧ i = .int .i64 m ∧ Hid (InK bs es m) ∧ Hid (wr.cell? ⟨w.heap.size, 0, none⟩ = some (.slice (some ⟨g, off, none⟩) bs.length cap)) ∧ Hid (wr.cell? ⟨wo.heap.size, 0, none⟩ = some (.slice a2 es.length c2)) ∧ Below w.heap.size w wr) (fun i _ => k - (intOf i).toNat)
        case atStart => exact ⟨0, Nat.zero_le _, rfl, hide (InK.zero bs es), HXX, HYY, hbw2⟩
        case round =>
          obtain ⟨m, hm, rfl, HIn, HXr, HYr, hbr⟩ := hrel
          clear hcx hcy HXX HYY hbw2
          have hxr : w.heap.size < wr.heap.size := World.block_lt_of_cell? wr _ HXr.out
          have hyr : wo.heap.size < wr.heap.size := World.block_lt_of_cell? wr _ HYr.out
          by_cases hlm : m < k
          · obtain ⟨d, hd⟩ : ∃ d, bs[m]? = some d := ⟨bs[m], List.getElem?_eq_getElem (by omega)⟩
            obtain ⟨g', off', hgg, -, a3, c3, hc3, hs3⟩ := HV.out.at hd
            simp only [Option.some.injEq, Addr.mk.injEq, and_true] at hgg
            obtain ⟨rfl, rfl⟩ := hgg
            have hcw := (hbr.cell (p := ⟨g, off + m, none⟩) hlg).trans hc3
            have HD0 := hide (HF.out.at hd)
            obtain ⟨wq, hwq⟩ : ∃ wq, wr.alloc (.cells #[.slice a3 d.length c3] 51) = wq := ⟨_, rfl⟩
            have hrq : Below wr.heap.size wr wq := by rw [← hwq]; exact (Below.refl _ _).alloc (Nat.le_refl _) _
            have hbq : Below w.heap.size w wq := hbr.trans (hrq.mono hbr.size)
            have q0 : wq.cell? ⟨wr.heap.size, 0, none⟩ = some (.slice a3 d.length c3) := by rw [← hwq]; exact one_new wr _ _
            have q1 := (hrq.cell (p := ⟨w.heap.size, 0, none⟩) hxr).trans HXr.out
            have q2 := (hrq.cell (p := ⟨wo.heap.size, 0, none⟩) hyr).trans HYr.out
            have hwl : wr.heap.size < wq.heap.size := by rw [← hwq]; simp
            have HQ := hide (And.intro q0 (And.intro q1 q2))
            have q3 : (wr.alloc (.cells #[.slice a3 d.length c3] 51)).cell? ⟨wo.heap.size, 0, none⟩ = some (.slice a2 es.length c2) := by rw [hwq]; exact q2
            have HWQ := hide hwq
            have HDD := hide hd
            have HS3 := hide hs3
            have hrqs := hrq.size
            clear hc3 hs3 hd hwq hrq q0 q1 q2
            go_wp2_with fail
            rw [HWQ.out]
            refine (spec_cmp _ _ d es _ (HS3.out.below hbq) (HS.out.below hbq) HD0.out.1 hE0.out.1).mono ?_
            rintro e w3 ⟨rfl, hb3⟩
            have hbw3 := hbq.trans (hb3.mono hbq.size)
            have p0 := (hb3.cell (p := ⟨wr.heap.size, 0, none⟩) hwl).trans HQ.out.1
            have p1 := (hb3.cell (p := ⟨w.heap.size, 0, none⟩) (Nat.lt_of_lt_of_le hxr hrqs)).trans HQ.out.2.1
            have p2 := (hb3.cell (p := ⟨wo.heap.size, 0, none⟩) (Nat.lt_of_lt_of_le hyr hrqs)).trans HQ.out.2.2
            have HP := hide (And.intro p1 p2)
            have hkm : decide ((m : Int) > (k : Int)) = false := decide_eq_false (by omega)
            have hkm2 : decide (k < m) = false := decide_eq_false (by omega)
            have hkm3 : decide ((k : Int) < (m : Int)) = false := decide_eq_false (by omega)
            clear hb3 p1 q3 hcw HQ HWQ hrqs
            by_cases hz : cL d es < 0
            · have hz1 : decide (cL d es ≥ 0) = false := decide_eq_false (by omega)
              have hz2 : decide (0 ≤ cL d es) = false := decide_eq_false (by omega)
              by_cases hy : com d es = d.length
              · have hyb : (com d es == d.length) = true := by simp [hy]
                have HN := hide (HB.out.no (gd_no hlm HDD.out HE.out (.inr hy)))
                clear hz hy HI HIn
                go_wp2_with fail
                refine (spec_beg _ _ es d _ (HS.out.below hbw3) (HS3.out.below hbw3) hE0.out.1 HD0.out.1).mono ?_
                rw [hyb]
                rintro e w4 ⟨rfl, hb4⟩
                have hbw4 := hbw3.trans (hb4.mono hbw3.size)
                clear hb4 hyb p0 p2 HP
                go_wp2
                go_ret
                exact ⟨ret_bool HN.out.symm, hbw4⟩
              · have hyb : (com d es == d.length) = false := by simp [hy]
                have HI2 := hide (HIn.out.succ HDD.out hz hy)
                clear hz hy HIn
                go_wp2_with fail
                refine (spec_beg _ _ es d _ (HS.out.below hbw3) (HS3.out.below hbw3) hE0.out.1 HD0.out.1).mono ?_
                rw [hyb]
                rintro e w4 ⟨rfl, hb4⟩
                have hbw4 := hbw3.trans (hb4.mono hbw3.size)
                have HX4 := hide ((hb4.cell (p := ⟨w.heap.size, 0, none⟩) (World.block_lt_of_cell? w3 _ HP.out.1)).trans HP.out.1)
                have HY4 := hide ((hb4.cell (p := ⟨wo.heap.size, 0, none⟩) (World.block_lt_of_cell? w3 _ HP.out.2)).trans HP.out.2)
                clear hb4 hyb p0 p2 HP
                go_wp2
                go_roundw
                case rel => exact ⟨m + 1, by omega, by go_num, HI2, HX4, HY4, hbw4⟩
                case measure => simp [intOf]; omega
            · have hz1 : decide (cL d es ≥ 0) = true := decide_eq_true (by omega)
              have hz2 : decide (0 ≤ cL d es) = true := decide_eq_true (by omega)
              have HN := hide (HB.out.no (gd_no hlm HDD.out HE.out (.inl hz)))
              clear hz HI HIn
              go_wp2
              go_ret
              exact ⟨ret_bool HN.out.symm, hbw3⟩
          · obtain rfl : m = k := by omega
            have HI2 := hide (HI.out.succ HE.out HTL.out HIn.out)
            clear HI HIn
            go_wp2
            go_roundw
            case rel => exact ⟨m + 1, by omega, by go_num, HI2, HXr, hbr⟩
            case measure => simp [intOf]; omega
    · obtain rfl : k = bs.length := by omega
      have hcx := HX.out
      have HBB := hide (show b = decide (bs.length ≤ 12) from by
        rw [Bool.eq_iff_iff, decide_eq_true_eq]
        exact ⟨fun h => (HI.out.good).2 (HB.out.1 h), fun h => HB.out.2 ((HI.out.good).1 h)⟩)
      clear HI HB
      by_cases h12 : bs.length ≤ 12
      · have h12' : (bs.length : Int) ≤ 12 := by omega
        go_wp2
        go_ret
        exact ⟨ret_bool (by rw [HBB.out, decide_eq_true h12]), hbw⟩
      · have h12' : ¬ (bs.length : Int) ≤ 12 := by omega
        go_wp2
        go_ret
        exact ⟨ret_bool (by rw [HBB.out, decide_eq_false h12]), hbw⟩
end Go.Proofs.YtcbkeabfnldmhaaDoor

/-
  The laws of chapter 15 whose answers are numbers and bools, walked: they return true and turn nothing that was there, wherever both texts tell the same.
-/
namespace Go.Proofs.YtcbkeabfnldmhaaDoor
open Go.RowKit M
open Go.Sort (grow)
namespace M
def SmE (es : Evs) : Prop := es.length ≤ 1048576 ∧ ∀ e ∈ es, e.name.size ≤ maxLen
theorem sm_e {es : Evs} (h : ∀ e ∈ es, e.name.size ≤ maxLen) (hl : wt es ≤ 1048576) : SmE es := ⟨by unfold wt at hl; omega, h⟩
theorem fine_small {bs : Brs} (h : Fine bs) (hl : bs.length + wb bs ≤ 1048576) : FineS bs := ⟨by omega, fun b hb => ⟨by
  have := wb_mem hb
  unfold wt at this; omega, (h.2 b hb).2⟩⟩
end M
set_option maxRecDepth 20000 in
set_option maxHeartbeats 4000000 in
theorem law_GoodTellings_run (v : Value) (bs : Brs) (w : World) (hv : BrsOf w v bs) (hf : Fine bs) (hkk : KK w)
    (hC : FineS bs → ∃ (r0 : Bool), (∀ (v : Value) (w : World), BrsOf w v bs → CapOk v → Calls Tryd.prog 9 #[.agg #[v]] w fun e w' => e = .returned (.bool r0) ∧ Below w.heap.size w w') ∧
      (∀ (v : Value) (w : World), BrsOf w v bs → KK w → Calls Tryd.prog 11 #[.agg #[v]] w fun e w' => e = .returned (.bool r0) ∧ Below w.heap.size w w')) :
    Calls Tryd.prog 3 #[.agg #[v]] w fun e w' => e = .returned (.bool true) ∧ Below w.heap.size w w' := by
  obtain ⟨a, c, rfl⟩ := hv.form
  have hb0 := (Below.refl w.heap.size w).alloc (Nat.le_refl _) (.cells #[.slice a bs.length c] 24)
  have HN0 := hide (show M.One (w.alloc (.cells #[.slice a bs.length c] 24)) w.heap.size (.slice a bs.length c) 24 from heap_alloc_new w _)
  have HV := hide hv
  have HF := hide hf
  have HK := hide hkk
  have HC := hide hC
  clear hv hf hkk hC
  by_cases hfit : bs.length + wb bs ≤ 1048576
  case neg =>
    have hz := szr_no (left := 1048576) (n := bs.length + wb bs) (by omega)
    have hge : szr 1048576 (bs.length + wb bs) < 0 := by rw [hz]; omega
    clear hz HC HN0
    go_enter Tryd.func3, Tryd.ntmps3
    go_wp2_with fail
    refine (sz_tell _ bs 1048576 _ (HV.out.below hb0) HF.out (by decide) (by decide)).mono ?_
    rintro e w1 ⟨rfl, hb⟩
    have hb1 := hb0.trans (hb.mono hb0.size)
    clear hb
    go_wp2
    go_ret
    exact ⟨rfl, hb1⟩
  have hz := szr_yes (left := 1048576) (n := bs.length + wb bs) (by omega)
  have hge : ¬ (szr 1048576 (bs.length + wb bs) < 0) := by rw [hz]; omega
  have HS := hide (fine_small HF.out hfit)
  obtain ⟨r0, hS, hI⟩ := HC.out HS.out
  have CS := hide hS
  have CI := hide hI
  have er0 : (r0 != r0) = false := by simp
  clear hz HC hS hI hfit
  go_enter Tryd.func3, Tryd.ntmps3
  go_wp2_with fail
  refine (sz_tell _ bs 1048576 _ (HV.out.below hb0) HF.out (by decide) (by decide)).mono ?_
  rintro e w1 ⟨rfl, hb⟩
  have hb1 := hb0.trans (hb.mono hb0.size)
  have HN1 := hide (HN0.out.down hb)
  clear hb hb0 HN0
  have d0 := HN1.out.cell
  go_wp2_with fail
  refine (to_tell _ bs _ (HV.out.below hb1) HS.out).mono ?_
  rintro e w2 ⟨⟨g2, ps2, rfl, hO, hps⟩, hb⟩
  have hx := hO.brs
  rw [hps] at hx
  have HX2 := hide hx
  have hb2 := hb1.trans (hb.mono hb1.size)
  have HN2 := hide (HN1.out.down hb)
  clear hb hb1 hO hps hx HN1 d0
  go_wp2_with fail
  refine (CS.out _ _ HX2.out (Nat.le_refl _)).mono ?_
  rintro e w3 ⟨rfl, hb⟩
  have hb3 := hb2.trans (hb.mono hb2.size)
  have HN3 := hide (HN2.out.down hb)
  clear hb hb2 HN2 HX2
  have d0 := HN3.out.cell
  go_wp2_with fail
  refine (to_tell _ bs _ (HV.out.below hb3) HS.out).mono ?_
  rintro e w4 ⟨⟨g4, ps4, rfl, hO, hps⟩, hb⟩
  have hx := hO.brs
  rw [hps] at hx
  have hb4 := hb3.trans (hb.mono hb3.size)
  have hdn := (Below.refl w4.heap.size w4).alloc (Nat.le_refl _) (.cells #[.slice (some ⟨g4, 0, none⟩) bs.length bs.length] 29)
  have HY5 := hide (show M.One (w4.alloc (.cells #[.slice (some ⟨g4, 0, none⟩) bs.length bs.length] 29)) w4.heap.size (.slice (some ⟨g4, 0, none⟩) bs.length bs.length) 29 from heap_alloc_new _ _)
  have HX5 := hide (hx.below hdn)
  have HN5 := hide ((HN3.out.down hb).down hdn)
  have hb5 := hb4.trans (hdn.mono hb4.size)
  clear hb hb3 hb4 hO hps hx hdn HN3 d0
  have e0 := HY5.out.cell
  go_wp2_with fail
  refine (CI.out _ _ HX5.out (HK.out.below hb5)).mono ?_
  rintro e w6 ⟨rfl, hb⟩
  have hb6 := hb5.trans (hb.mono hb5.size)
  have HX6 := hide (HX5.out.below hb)
  have HY6 := hide (HY5.out.down hb)
  have HN6 := hide (HN5.out.down hb)
  clear hb hb5 HX5 HY5 HN5 e0 CS CI
  have d0 := HN6.out.cell
  have e0 := HY6.out.cell
  have HM := hide (show ∀ wx wy : World, wx.heap = w6.heap → Below wx.heap.size wx wy → wy.cell? ⟨w4.heap.size, 0, none⟩ = some (.slice (some ⟨g4, 0, none⟩) bs.length bs.length) from fun wx wy hh hb => by
    have h : M.One wx w4.heap.size (.slice (some ⟨g4, 0, none⟩) bs.length bs.length) 29 := by unfold M.One; rw [hh]; exact HY6.out
    exact (h.down hb).cell)
  go_wp2_with fail
  go_region_with (first | (go_at_call 10; refine (to_tell _ bs _ (HV.out.below (hb6.drew)) HS.out).mono ?_; rintro e w7 ⟨⟨g7, ps7, rfl, hO7, hps7⟩, hb7⟩; have hx7 := hO7.brs; rw [hps7] at hx7; have HX7 := hide hx7; clear hx7 hO7 hps7; have m0 := HM.out w6.drew w7 rfl hb7) | (go_at_call 12; refine (eq_tell _ _ bs _ ((HX6.out.below ((Below.refl w6.heap.size w6).drew)).below hb7) HX7.out HS.out).mono ?_; rintro e w8 ⟨rfl, hb8⟩))
  all_goals
    have hbz : Below w.heap.size w w8 := (hb6.drew.trans (hb7.mono hb6.size)).trans (hb8.mono (Nat.le_trans hb6.size hb7.size))
    clear hb7 hb8 HX7 m0 d0 e0 HM HX6 HY6 HN6 HV HS
    go_wp2
    go_ret
    exact ⟨rfl, hbz⟩
theorem law_goodTellings (v : Value) (bs : Brs) (w : World) (hv : BrsOf w v bs) (hf : Fine bs) (hkk : KK w) :
    Calls Tryd.prog 3 #[.agg #[v]] w fun e w' => e = .returned (.bool true) ∧ Below w.heap.size w w' :=
  law_GoodTellings_run v bs w hv hf hkk (fun hs => by
    obtain ⟨b, hb⟩ := bp_ex (GdT bs)
    exact ⟨b, fun v w h hc => spec_gt v bs b w h hs hc hb, fun v w h hk => impl_gt v bs b w h hs hk hb⟩)
end Go.Proofs.YtcbkeabfnldmhaaDoor

/-
  A slice of the law's events that came in, read as data, is a slice of events in memory.
-/
namespace Go.Proofs.YtcbkeabfnldmhaaDoor
open Go.ChangeShapes Go.WideShapes Go.ChangeAt Go.RowKit Go.Joins Go.Deep
open M

theorem cellsLawEv : Tryd.prog.cellsOf 69 = 4 := by kernel_rfl
theorem cellsInt : Tryd.prog.cellsOf 3 = 1 := by kernel_rfl
theorem cellsStr : Tryd.prog.cellsOf 9 = 1 := by kernel_rfl

theorem rows_of {W : World} {b off : Nat} {Pn : Ev → Prop} : ∀ n : Nat, (∀ i, i < n → ∃ e : Ev, EvAt W b (off + i * 4) e ∧ Pn e) → ∃ es : List Ev, es.length = n ∧ Row W b off es ∧ ∀ e ∈ es, Pn e
  | 0, _ => ⟨[], rfl, fun i e h => by simp at h, fun e h => by simp at h⟩
  | n + 1, h => by
    obtain ⟨es, hl, hr, hp⟩ := rows_of n (fun i hi => h i (by omega))
    obtain ⟨e, he, hpe⟩ := h n (by omega)
    refine ⟨es ++ [e], by simp [hl], ?_, ?_⟩
    · intro i x hi
      by_cases hin : i < n
      · exact hr i x (by rw [List.getElem?_append_left (by omega)] at hi; exact hi)
      · rw [List.getElem?_append_right (by omega)] at hi
        have : i = n := by
          rcases Nat.eq_zero_or_pos (i - es.length) with h0 | h0
          · omega
          · rw [List.getElem?_eq_none (by simp; omega)] at hi; cases hi
        subst this
        rw [hl, Nat.sub_self] at hi
        simp at hi
        subst hi
        exact he
    · intro x hx
      rcases List.mem_append.1 hx with hx | hx
      · exact hp x hx
      · simp at hx; subst hx; exact hpe

set_option maxRecDepth 100000 in
theorem open_evs {H : Type} {enc : TypeId × Value → H} {W : World} {b0 : Nat} {v : Value} {d : DataW H} {p : List MemPlace}
    (hv : Value.okWide Tryd.prog W .any b0 39 v) (h : DataW.Trod enc Tryd.prog W 0 (fun _ => true) true 39 v d p) :
    ∃ es : List Ev, SliceOf W v es ∧ es.length ≤ maxLen ∧ ∀ e ∈ es, e.name.size ≤ maxLen := by
  obtain ⟨a0, len0, cap0, rfl⟩ := okWide_slice Tryd.underlying39 hv
  obtain ⟨fuel, hf⟩ := h
  rcases open_slice Tryd.underlying39 hf with ⟨hcs, _⟩ | ⟨a, len, cap, m, n, D, Pl, hcs, _, hl, hm, hmm, _, hx⟩
  · simp [Value.cells] at hcs
    obtain ⟨rfl, rfl, rfl⟩ := hcs
    exact ⟨[], ⟨none, 0, rfl, fun h => absurd rfl h⟩, Nat.zero_le _, fun e h => by simp at h⟩
  · simp [Value.cells] at hcs
    obtain ⟨rfl, rfl, rfl⟩ := hcs
    simp only [if_true] at hmm
    subst hmm
    by_cases h0 : len0 = 0
    · subst h0
      exact ⟨[], ⟨some a, _, rfl, fun h => absurd rfl h⟩, Nat.zero_le _, fun e h => by simp at h⟩
    · obtain ⟨b, off, spot⟩ := a
      have hspot : spot = none := by
        obtain ⟨cs', h1, _⟩ := hx 0 (by omega)
        rw [cellsLawEv] at h1
        obtain ⟨_, hlen, hcell⟩ := World.cells?_some h1
        have q := hcell 0 (by omega)
        have hs : ∃ c, W.cell? (((⟨b, off, spot⟩ : Addr).add (0 * 4)).add 0) = some c := by
          rw [q]
          match cs', hlen with
          | [c0, c1, c2, c3], _ => exact ⟨c0, rfl⟩
        obtain ⟨c, hc⟩ := hs
        have := World.cell?_spot hc
        simpa [Addr.add] using this
      subst hspot
      have ha : ∀ n, (⟨b, off, none⟩ : Addr).add n = ⟨b, off + n, none⟩ := fun n => by unfold Addr.add; split <;> simp_all
      have ha2 : ∀ k n, (⟨b, k, none⟩ : Addr).add n = ⟨b, k + n, none⟩ := fun k n => by unfold Addr.add; split <;> simp_all
      have key : ∀ i, i < len0 → ∃ e : Ev, EvAt W b (off + i * 4) e ∧ e.name.size ≤ maxLen := by
        intro i hi
        obtain ⟨cs', h1, h2⟩ := hx i (by omega)
        rw [cellsLawEv] at h1
        obtain ⟨_, hlen, hcell⟩ := World.cells?_some h1
        match cs', hlen with
        | [c0, c1, c2, c3], _ =>
          obtain ⟨y0, y1, y2, y3, k, _, _, t0, t1, t2, t3⟩ := trod_struct4 Tryd.underlying69 h2
          simp only [cellsInt, cellsStr] at t0 t1 t2 t3
          obtain ⟨id, e0, -, -⟩ := DataW.trod_int Tryd.underlying3 t0
          obtain ⟨ver, e1, -, -⟩ := DataW.trod_int Tryd.underlying3 t1
          obtain ⟨kind, e2, -, -⟩ := DataW.trod_int Tryd.underlying3 t2
          obtain ⟨name, e3, -, hn⟩ := DataW.trod_string Tryd.underlying9 t3
          simp at e0 e1 e2 e3
          have q0 := hcell 0 (by omega)
          have q1 := hcell 1 (by omega)
          have q2 := hcell 2 (by omega)
          have q3 := hcell 3 (by omega)
          simp only [List.getElem?_cons_zero, List.getElem?_cons_succ] at q0 q1 q2 q3
          rw [ha, ha2] at q0 q1 q2 q3
          subst e0 e1 e2 e3
          exact ⟨⟨id, ver, kind, name⟩, ⟨q0, q1, q2, q3⟩, hn⟩
      obtain ⟨es, hel, hrow, hp⟩ := rows_of len0 key
      subst hel
      have hlt : b < W.heap.size := by
        obtain ⟨e, he, _⟩ := key 0 (by omega)
        exact World.block_lt_of_cell? W _ he.1
      exact ⟨es, ⟨_, _, rfl, fun _ => ⟨b, off, rfl, hlt, hrow⟩⟩, by omega, hp⟩
end Go.Proofs.YtcbkeabfnldmhaaDoor

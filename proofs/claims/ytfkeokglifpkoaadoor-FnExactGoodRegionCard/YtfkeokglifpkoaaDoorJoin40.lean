/-
  Texts that follow one another, joined: BrHs, BrL.
-/
import Derived.Test.YtfkeokglifpkoaaDoorJoin39
import Derived.Deep.RegionWith
/-
  GoodTellings of the specification: each history against all ahead of it.
-/
namespace Go.Proofs.YtfkeokglifpkoaaDoor
open Go.RowKit M
open Go.Sort (grow)
set_option maxRecDepth 20000 in
set_option maxHeartbeats 4000000 in
theorem spec_gt (v : Value) (bs : Brs) (b : Bool) (w : World) (hv : BrsOf w v bs) (hf : FineS bs) (hco : CapOk v) (hb : BP b (GdT bs)) :
    Calls Tryd.prog 12 #[.agg #[v]] w fun e w' => e = .returned (.bool b) ∧ Below w.heap.size w w' := by
  have HV := hide hv
  have HF := hide hf
  have HB := hide hb
  have hn := hf.1
  obtain ⟨a, cap, rfl⟩ := hv.form
  have hcap : bs.length ≤ cap := hco
  have hal := (Below.refl w.heap.size w).alloc (Nat.le_refl _) (.cells #[.slice a bs.length cap] 31)
  have HX0 := hide (one_new w (.slice a bs.length cap) 31)
  clear hv hf hb hco
  go_enter Tryd.func12, Tryd.ntmps12
  go_wp2
  go_loopw [12] (fun i wr => ∃ k : Nat, k ≤ bs.length ∧ i = .int .i64 k ∧ Hid (UpK bs k) ∧ Hid (wr.cell? ⟨w.heap.size, 0, none⟩ = some (.slice a bs.length cap)) ∧ Below w.heap.size w wr) (fun i _ => bs.length - (intOf i).toNat)
  case atStart => exact ⟨0, Nat.zero_le _, rfl, hide (UpK.zero bs), HX0, hal⟩
  case round =>
    rename World => wo
    obtain ⟨k, hk, rfl, HI, HX, hbw⟩ := hrel
    clear HX0 hal
    have hxl : w.heap.size < wo.heap.size := World.block_lt_of_cell? wo _ HX.out
    by_cases hlt : k < bs.length
    · obtain ⟨es, he⟩ : ∃ e, bs[k]? = some e := ⟨bs[k], List.getElem?_eq_getElem hlt⟩
      obtain ⟨g, off, rfl, hlg, a2, c2, hc, hs⟩ := HV.out.at he
      have hcw := (hbw.cell (p := ⟨g, off + k, none⟩) hlg).trans hc
      have hE0 := hide (HF.out.at he)
      have hrq : Below wo.heap.size wo (wo.alloc (.cells #[.slice a2 es.length c2] 43)) := (Below.refl _ _).alloc (Nat.le_refl _) _
      have hbq := hbw.trans (hrq.mono hbw.size)
      have HX2 := hide ((hrq.cell (p := ⟨w.heap.size, 0, none⟩) hxl).trans HX.out)
      have HY2 := hide (one_new wo (.slice a2 es.length c2) 43)
      obtain ⟨tb, htb⟩ := bp_ex (Tl es)
      have HTB := hide htb
      have HE := hide he
      have HS := hide hs
      clear hc hs he htb hrq
      go_wp2_with fail
      refine (spec_tl _ es tb _ (HS.out.below hbq) hE0.out.1 hE0.out.2 HTB.out).mono ?_
      rintro e w2 ⟨rfl, hb2⟩
      have hbw2 := hbq.trans (hb2.mono hbq.size)
      have hcx := (hb2.cell (p := ⟨w.heap.size, 0, none⟩) (by simp; omega)).trans HX2.out
      have hcy := (hb2.cell (p := ⟨wo.heap.size, 0, none⟩) (by simp)).trans HY2.out
      have HXX := hide hcx
      have HYY := hide hcy
      clear hb2 hbq HX2 HY2 hcw
      cases tb
      · have HN := hide (HB.out.no (gd_tl HE.out (fun h => by have := HTB.out.yes h; cases this)))
        clear HI HF
        go_wp2
        go_ret
        exact ⟨ret_bool HN.out.symm, hbw2⟩
      · have HTL := hide (HTB.out.1 rfl)
        have hk0 : (0 : Int) ≤ (k : Int) := by omega
        have hkc : (k : Int) ≤ (cap : Int) := by omega
        have hkc2 : k ≤ cap := by omega
        go_wp2
        go_loopw [26] (fun i wr => ∃ m : Nat, m ≤ k ∧ i = .int .i64 m ∧ Hid (InK bs es m) ∧ Hid (wr.cell? ⟨w.heap.size, 0, none⟩ = some (.slice (some ⟨g, off, none⟩) bs.length cap)) ∧ Hid (wr.cell? ⟨wo.heap.size, 0, none⟩ = some (.slice a2 es.length c2)) ∧ Below w.heap.size w wr) (fun i _ => k - (intOf i).toNat)
        case atStart => exact ⟨0, Nat.zero_le _, rfl, hide (InK.zero bs es), HXX, HYY, hbw2⟩
        case round =>
          obtain ⟨m, hm, rfl, HIn, HXr, HYr, hbr⟩ := hrel
          clear hcx hcy HXX HYY hbw2
          have hxr : w.heap.size < wr.heap.size := World.block_lt_of_cell? wr _ HXr.out
          have hyr : wo.heap.size < wr.heap.size := World.block_lt_of_cell? wr _ HYr.out
          by_cases hlm : m < k
          · obtain ⟨d, hd⟩ : ∃ d, bs[m]? = some d := ⟨bs[m], List.getElem?_eq_getElem (by omega)⟩
            obtain ⟨g', off', hgg, -, a3, c3, hc3, hs3⟩ := HV.out.at hd
            simp only [Option.some.injEq, Addr.mk.injEq, and_true] at hgg
            obtain ⟨rfl, rfl⟩ := hgg
            have hcw := (hbr.cell (p := ⟨g, off + m, none⟩) hlg).trans hc3
            have HD0 := hide (HF.out.at hd)
            obtain ⟨wq, hwq⟩ : ∃ wq, wr.alloc (.cells #[.slice a3 d.length c3] 43) = wq := ⟨_, rfl⟩
            have hrq : Below wr.heap.size wr wq := by rw [← hwq]; exact (Below.refl _ _).alloc (Nat.le_refl _) _
            have hbq : Below w.heap.size w wq := hbr.trans (hrq.mono hbr.size)
            have q0 : wq.cell? ⟨wr.heap.size, 0, none⟩ = some (.slice a3 d.length c3) := by rw [← hwq]; exact one_new wr _ _
            have q1 := (hrq.cell (p := ⟨w.heap.size, 0, none⟩) hxr).trans HXr.out
            have q2 := (hrq.cell (p := ⟨wo.heap.size, 0, none⟩) hyr).trans HYr.out
            have hwl : wr.heap.size < wq.heap.size := by rw [← hwq]; simp
            have HQ := hide (And.intro q0 (And.intro q1 q2))
            have q3 : (wr.alloc (.cells #[.slice a3 d.length c3] 43)).cell? ⟨wo.heap.size, 0, none⟩ = some (.slice a2 es.length c2) := by rw [hwq]; exact q2
            have HWQ := hide hwq
            have HDD := hide hd
            have HS3 := hide hs3
            have hrqs := hrq.size
            clear hc3 hs3 hd hwq hrq q0 q1 q2
            go_wp2_with fail
            rw [HWQ.out]
            refine (spec_cmp _ _ d es _ (HS3.out.below hbq) (HS.out.below hbq) HD0.out.1 hE0.out.1).mono ?_
            rintro e w3 ⟨rfl, hb3⟩
            have hbw3 := hbq.trans (hb3.mono hbq.size)
            have p0 := (hb3.cell (p := ⟨wr.heap.size, 0, none⟩) hwl).trans HQ.out.1
            have p1 := (hb3.cell (p := ⟨w.heap.size, 0, none⟩) (Nat.lt_of_lt_of_le hxr hrqs)).trans HQ.out.2.1
            have p2 := (hb3.cell (p := ⟨wo.heap.size, 0, none⟩) (Nat.lt_of_lt_of_le hyr hrqs)).trans HQ.out.2.2
            have HP := hide (And.intro p1 p2)
            have hkm : decide ((m : Int) > (k : Int)) = false := decide_eq_false (by omega)
            have hkm2 : decide (k < m) = false := decide_eq_false (by omega)
            have hkm3 : decide ((k : Int) < (m : Int)) = false := decide_eq_false (by omega)
            clear hb3 p1 q3 hcw HQ HWQ hrqs
            by_cases hz : cL d es < 0
            · have hz1 : decide (cL d es ≥ 0) = false := decide_eq_false (by omega)
              have hz2 : decide (0 ≤ cL d es) = false := decide_eq_false (by omega)
              by_cases hy : com d es = d.length
              · have hyb : (com d es == d.length) = true := by simp [hy]
                have HN := hide (HB.out.no (gd_no hlm HDD.out HE.out (.inr hy)))
                clear hz hy HI HIn
                go_wp2_with fail
                refine (spec_beg _ _ es d _ (HS.out.below hbw3) (HS3.out.below hbw3) hE0.out.1 HD0.out.1).mono ?_
                rw [hyb]
                rintro e w4 ⟨rfl, hb4⟩
                have hbw4 := hbw3.trans (hb4.mono hbw3.size)
                clear hb4 hyb p0 p2 HP
                go_wp2
                go_ret
                exact ⟨ret_bool HN.out.symm, hbw4⟩
              · have hyb : (com d es == d.length) = false := by simp [hy]
                have HI2 := hide (HIn.out.succ HDD.out hz hy)
                clear hz hy HIn
                go_wp2_with fail
                refine (spec_beg _ _ es d _ (HS.out.below hbw3) (HS3.out.below hbw3) hE0.out.1 HD0.out.1).mono ?_
                rw [hyb]
                rintro e w4 ⟨rfl, hb4⟩
                have hbw4 := hbw3.trans (hb4.mono hbw3.size)
                have HX4 := hide ((hb4.cell (p := ⟨w.heap.size, 0, none⟩) (World.block_lt_of_cell? w3 _ HP.out.1)).trans HP.out.1)
                have HY4 := hide ((hb4.cell (p := ⟨wo.heap.size, 0, none⟩) (World.block_lt_of_cell? w3 _ HP.out.2)).trans HP.out.2)
                clear hb4 hyb p0 p2 HP
                go_wp2
                go_roundw
                case rel => exact ⟨m + 1, by omega, by go_num, HI2, HX4, HY4, hbw4⟩
                case measure => simp [intOf]; omega
            · have hz1 : decide (cL d es ≥ 0) = true := decide_eq_true (by omega)
              have hz2 : decide (0 ≤ cL d es) = true := decide_eq_true (by omega)
              have HN := hide (HB.out.no (gd_no hlm HDD.out HE.out (.inl hz)))
              clear hz HI HIn
              go_wp2
              go_ret
              exact ⟨ret_bool HN.out.symm, hbw3⟩
          · obtain rfl : m = k := by omega
            have HI2 := hide (HI.out.succ HE.out HTL.out HIn.out)
            clear HI HIn
            go_wp2
            go_roundw
            case rel => exact ⟨m + 1, by omega, by go_num, HI2, HXr, hbr⟩
            case measure => simp [intOf]; omega
    · obtain rfl : k = bs.length := by omega
      have hcx := HX.out
      have HBB := hide (show b = decide (bs.length ≤ 12) from by
        rw [Bool.eq_iff_iff, decide_eq_true_eq]
        exact ⟨fun h => (HI.out.good).2 (HB.out.1 h), fun h => HB.out.2 ((HI.out.good).1 h)⟩)
      clear HI HB
      by_cases h12 : bs.length ≤ 12
      · have h12' : (bs.length : Int) ≤ 12 := by omega
        go_wp2
        go_ret
        exact ⟨ret_bool (by rw [HBB.out, decide_eq_true h12]), hbw⟩
      · have h12' : ¬ (bs.length : Int) ≤ 12 := by omega
        go_wp2
        go_ret
        exact ⟨ret_bool (by rw [HBB.out, decide_eq_false h12]), hbw⟩
end Go.Proofs.YtfkeokglifpkoaaDoor

/-
  The laws of chapter 15 whose answers are numbers and bools, walked: they return true and turn nothing that was there, wherever both texts tell the same.
-/
namespace Go.Proofs.YtfkeokglifpkoaaDoor
open Go.RowKit M
open Go.Sort (grow)
namespace M
def SmE (es : Evs) : Prop := es.length ≤ 1048576 ∧ ∀ e ∈ es, e.name.size ≤ maxLen
theorem sm_e {es : Evs} (h : ∀ e ∈ es, e.name.size ≤ maxLen) (hl : wt es ≤ 1048576) : SmE es := ⟨by unfold wt at hl; omega, h⟩
theorem fine_small {bs : Brs} (h : Fine bs) (hl : bs.length + wb bs ≤ 1048576) : FineS bs := ⟨by omega, fun b hb => ⟨by
  have := wb_mem hb
  unfold wt at this; omega, (h.2 b hb).2⟩⟩
end M
end Go.Proofs.YtfkeokglifpkoaaDoor

/-
  The law of cuts for drawn acts, walked: it returns true and turns nothing that was there, whatever the bytes.
-/
import Derived.Test.YtoholagamandpaaDrawCut
import Derived.Test.YtoholagamandpaaCutWalk
import Derived.Test.YtoholagamandpaaVecB
namespace Go.Proofs.Ytoholagamandpaa
open Go.RowKit M
open Clk (upd upd_same upd_other)
set_option maxHeartbeats 1000000 in
theorem number_of (v : Value) (n : Nat) (f : Nat → Nat) (w : World) (hv : OctetsOf w v n f) (hn : n ≤ 1048576) :
    Calls Try.prog 15 #[v] w fun e w' => (∃ k : Nat, k < 1000003 ∧ e = .returned (.int .i64 (k : Int))) ∧ w' = w := by
  obtain ⟨a, cap, rfl, hf, hr⟩ := hv
  have HR := hide hr
  have HF := hide hf
  clear hr hf
  go_enter Try.func15, Try.ntmps15
  go_wp2
  go_loop [3, 8] (fun x i => ∃ (k q : Nat), k ≤ n ∧ i = .int .i64 k ∧ x = .int .i64 (q : Int) ∧ q < 1000003) (fun _ i => n - (intOf i).toNat)
  case atStart => exact ⟨0, 0, Nat.zero_le _, rfl, rfl, by omega⟩
  case round =>
    obtain ⟨k, q, hk, rfl, rfl, hq⟩ := hrel
    by_cases hlt : k < n
    · obtain ⟨b, off, rfl, hb, hrow⟩ := HR.out (by omega)
      have c0 := hrow k hlt
      have hfk := HF.out k hlt
      have hfk0 : (0 : Int) ≤ ((f k : Nat) : Int) := by omega
      have hfk1 : ((f k : Nat) : Int) ≤ 255 := by omega
      generalize f k = x at *
      clear HR hrow HF
      go_wp2
      go_round
      case rel => exact ⟨k + 1, (31 * q + x) % 1000003, by omega, by go_num, by go_num, Nat.mod_lt _ (by omega)⟩
      case measure => simp [intOf]; omega
    · clear HR HF
      go_wp2
      go_ret
      exact ⟨⟨q, hq, rfl⟩, rfl⟩
namespace M
/-- No message comes to the cut from without, among the first i acts. -/
def Wf (l : Nat → Ac) (c : Nat → Int) (i : Nat) : Prop := ∀ j, j < i → InB l c j = true → ∀ k, F l j = some k → InB l c k = true
theorem Wf_zero (l : Nat → Ac) (c : Nat → Int) : Wf l c 0 := fun j hj => absurd hj (by omega)
theorem Wf_out {l : Nat → Ac} {c : Nat → Int} {i : Nat} (h : InB l c i = false) : Wf l c (i + 1) ↔ Wf l c i := by
  constructor
  · intro H j hj; exact H j (by omega)
  · intro H j hj hin
    rcases (show j < i ∨ j = i by omega) with h1 | h1
    · exact H j h1 hin
    · subst h1; rw [h] at hin; cases hin
theorem Wf_none {l : Nat → Ac} {c : Nat → Int} {i : Nat} (h : F l i = none) : Wf l c (i + 1) ↔ Wf l c i := by
  constructor
  · intro H j hj; exact H j (by omega)
  · intro H j hj hin k hk
    rcases (show j < i ∨ j = i by omega) with h1 | h1
    · exact H j h1 hin k hk
    · subst h1; rw [h] at hk; cases hk
theorem Wf_some {l : Nat → Ac} {c : Nat → Int} {i k : Nat} (h : F l i = some k) (hi : InB l c i = true) : Wf l c (i + 1) ↔ (Wf l c i ∧ InB l c k = true) := by
  constructor
  · intro H; exact ⟨fun j hj => H j (by omega), H i (by omega) hi k h⟩
  · rintro ⟨H, h2⟩ j hj hin q hq
    rcases (show j < i ∨ j = i by omega) with h1 | h1
    · exact H j h1 hin q hq
    · subst h1; rw [h] at hq; cases hq; exact h2
theorem Wf_whole {m n : Nat} {l : Nat → Ac} {c : Nat → Int} (hg : GoodL (m : Int) n l) (hc : CutOk m n l c) : Wf l c n ↔ Clk.Whole (P l) (F l) (fun q => (pad m c q).toNat) n := by
  have hP : ∀ k, k < n → P l k < m := fun k hk => by have := (good_P hg hk).2.2; omega
  have hI : ∀ k, k < n → (InB l c k = true ↔ Clk.In (P l) (fun q => (pad m c q).toNat) k) := fun k hk => InB_iff (hP k hk) (hc _ (hP k hk)).1
  rw [Clk.whole_iff_from (P l) (F l) (F_lt l)]
  constructor
  · intro H i hi hin k hk
    have hki := F_lt l i k hk
    rw [← hI k (by omega)]; rw [← hI i hi] at hin
    exact H i hi hin k hk
  · intro H i hi hin k hk
    have hki := F_lt l i k hk
    rw [hI k (by omega)]; rw [hI i hi] at hin
    exact H i hi hin k hk
theorem whole_congr {P : Nat → Nat} {F : Nat → Option Nat} {c d : Nat → Nat} {n : Nat} (h : ∀ k, k < n → c (P k) = d (P k)) (H : Clk.Whole P F c n) : Clk.Whole P F d n := by
  intro i hi hin k hk
  have hki : k < i := hk.1
  have h1 : Clk.In P c i := by unfold Clk.In at *; rw [h i hi]; exact hin
  have h2 := H i hi h1 k hk
  unfold Clk.In at *; rw [← h k (by omega)]; exact h2
theorem past_fine {m n : Nat} {l : Nat → Ac} (hg : GoodL (m : Int) n l) {j : Nat} (hj : j < n) : Fine (m : Int) m n l (Vf l j) ∧ WI m n l (Vf l j) := by
  have hc : CutOk m n l (Vf l j) := fun q _ => by
    have h1 := Clk.V_le_C (P l) (F l) (F_lt l) j q
    have h2 := Clk.C_mono (P l) q (show j + 1 ≤ n from hj)
    unfold Vf Cf; omega
  have hP : ∀ k, k < n → P l k < m := fun k hk => by have := (good_P hg hk).2.2; omega
  refine ⟨⟨hg, rfl, hc⟩, (WI_iff hg rfl hc).2 ?_⟩
  refine whole_congr (c := Clk.V (P l) (F l) j) (fun k hk => ?_) (Clk.past_whole (P l) (F l) (F_lt l) j n m hP)
  unfold pad Vf; rw [if_pos (hP k hk)]; omega
theorem bool_to {a b : Bool} {p q : Prop} (h : p ↔ q) (h1 : a = true ↔ p) (h2 : b = true ↔ q) : a = b := by
  cases a <;> cases b <;> simp_all
end M
set_option maxRecDepth 20000 in
set_option maxHeartbeats 1000000 in
theorem law_cuts_run (v u : Value) (n m : Nat) (f g : Nat → Nat) (w : World) (hv : OctetsOf w v n f) (hu : OctetsOf w u m g) (hnm : n + m ≤ 1048576) :
    Calls Try.prog 3 #[v, u] w fun e w' => e = .returned (.bool true) ∧ Below w.heap.size w w' := by
  have HV := hide hv
  have HU := hide hu
  obtain ⟨a, cap, rfl⟩ := hv.form
  obtain ⟨a2, cap2, rfl⟩ := hu.form
  have hgt : ¬ ((n : Int) + (m : Int) > 1048576) := by omega
  clear hv hu
  go_enter Try.func3, Try.ntmps3
  go_wp2_with fail
  refine (draw_cut _ n f _ HV.out (by omega)).mono ?_
  rintro e w1 ⟨⟨p, nn, l, c, r, q, rfl, ⟨hp1, hp7⟩, hnn, hr, hq⟩, hb1⟩
  obtain ⟨b, ok, hS, hI, hT, hF⟩ := both_cut (p : Int) nn l p c (by omega) (by omega) (by omega)
  have HR := hide hr
  have HQ := hide hq
  obtain ⟨ar, cr, rfl⟩ := hr.form
  obtain ⟨aq, cq, rfl⟩ := hq.form
  have CS := hide hS
  have CI := hide hI
  have HT := hide hT
  have HF := hide hF
  have hbb : (b != b) = false := by simp
  have hoo : (ok != ok) = false := by simp
  clear hr hq hS hI hT hF HV
  go_wp2_with fail
  refine (CI.out _ _ _ HR.out HQ.out).mono ?_
  rintro e w2 ⟨rfl, hb⟩
  have hb2 := hb1.trans (hb.mono hb1.size)
  have HR2 := hide (HR.out.below hb)
  have HQ2 := hide (HQ.out.below hb)
  clear hb hb1 HR HQ
  go_wp2_with fail
  refine (CS.out _ _ _ HR2.out HQ2.out).mono ?_
  rintro e w3 ⟨rfl, hb⟩
  have hb3 := hb2.trans (hb.mono hb2.size)
  have HR3 := hide (HR2.out.below hb)
  have HQ3 := hide (HQ2.out.below hb)
  clear hb hb2 HR2 HQ2 CS
  cases ok
  · obtain ⟨rfl, -⟩ := HF.out rfl
    clear HF HT CI HR3 HQ3 HU
    go_wp2
    go_ret
    exact ⟨rfl, hb3⟩
  · obtain ⟨⟨hg, -, hc⟩, hW⟩ := HT.out rfl
    have hWf := hW.trans (Wf_whole hg hc).symm
    have HB := hide hWf
    have HG := hide hg
    have HC := hide hc
    have hn60 : nn ≤ 60 := hg.2.1
    have hm6 : p ≤ 6 := by have := hg.1.2; omega
    obtain ⟨_, _, hx, hra⟩ := HR3.out
    obtain ⟨rfl, rfl⟩ : ar = _ ∧ cr = _ := by simpa using hx
    obtain ⟨_, _, hx2, hrq⟩ := HQ3.out
    obtain ⟨rfl, rfl⟩ : aq = _ ∧ cq = _ := by simpa using hx2
    have HA := hide hra
    have HQa := hide hrq
    have hmk := make_ints p (by omega)
    have hmk2 := make_bools nn (by omega)
    clear hg hc hW hWf HF HT hra hrq hx hx2
    go_wp2
    go_loopw [14, 66] (fun x y wr => ∃ (i : Nat) (wh : Bool), i ≤ nn ∧ y = .int .i64 i ∧ x = .bool wh ∧ Hid (wh = true ↔ Wf l c i) ∧ Hid (Blk wr w3.heap.size p (iv (Cf l i)) 3) ∧ Hid (Blk wr (w3.heap.size + 1) nn (inF l c i) 4) ∧ Below w3.heap.size w3 wr) (fun _ y _ => nn - (intOf y).toNat)
    case atStart =>
      refine ⟨0, true, Nat.zero_le _, rfl, rfl, hide ⟨fun _ => Wf_zero l c, fun _ => rfl⟩, hide ?_, hide ?_, ((Below.refl _ _).alloc (Nat.le_refl _) _).alloc (by simp) _⟩
      · rw [Cf_zero]; exact (Blk.new w3 p _ _).alloc _
      · have := Blk.new (w3.alloc (.cells (cf p (iv fun _ => 0)) 3)) nn (fun _ => .bool false) 4
        rw [World.size_alloc] at this; rw [inF_zero]; exact this
    case round =>
      rename World => wo
      obtain ⟨i, wh, hin, rfl, rfl, HWh, HCf, HI, hbw⟩ := hrel
      have hbf := hb3.trans (hbw.mono hb3.size)
      by_cases hlt : i < nn
      · obtain ⟨ba, off, rfl, hba, hrow⟩ := HA.out (by omega)
        obtain ⟨hP, hP6, hPm⟩ := good_P HG.out hlt
        have hPm2 : P l i < p := by omega
        obtain ⟨b2, off2, rfl, hbq2, hrow2⟩ := HQa.out (by omega)
        have c0 := (hbw.cell (p := ⟨ba, off + i * 2, none⟩) hba).trans (hrow i hlt).1
        have c1 := (hbw.cell (p := ⟨ba, off + i * 2 + 1, none⟩) hba).trans (hrow i hlt).2
        have c2 := (hbw.cell (p := ⟨b2, off2 + P l i, none⟩) hbq2).trans (hrow2 (P l i) hPm2)
        rw [hP] at c0
        have hsz := hbw.size
        have hlC := HCf.out.lt
        have hlI := HI.out.lt
        have hCb := Cf_le l i (P l i)
        have hP0 : (0 : Int) ≤ ((P l i : Nat) : Int) := by omega
        have hP1 : ((P l i : Nat) : Int) < (p : Int) := by omega
        have hi0 : (0 : Int) ≤ (i : Int) := by omega
        have hi1 : (i : Int) < (nn : Int) := by omega
        have hb2o : b2 < wo.heap.size := Nat.lt_of_lt_of_le hbq2 hbw.size
        have hFi := good_F HG.out hlt
        clear hrow hrow2 HA HQa CI HU HB
        go_wp2
        generalize hW : wo.alloc _ = w6
        have hb6 : Below wo.heap.size wo w6 := by rw [← hW]; exact (Below.refl _ _).alloc (Nat.le_refl _) _
        have hbA : Blk w6 wo.heap.size 2 (av fun _ => ⟨((P l i : Nat) : Int), (l i).frm⟩) 31 := by rw [← hW]; exact Blk.fresh wo _ 2 _ _ rfl
        have hbC := HCf.out.down hb6
        have hbI := HI.out.down hb6
        have hbw6 := hbw.trans (hb6.mono hsz)
        have r0 := hbA.cell (show 0 < 2 by omega)
        have r1 := hbA.cell (show 1 < 2 by omega)
        have d1 := hbC.cell_ints hPm2
        have d2 := hbC.thaw (P l i)
        have d3 := hbI.cell hlt
        have d4 := hbI.thaw i
        have d5 := (hb6.cell (p := ⟨b2, off2 + P l i, none⟩) hb2o).trans c2
        simp only [show av (fun _ => (⟨((P l i : Nat) : Int), (l i).frm⟩ : Ac)) 0 = .int .i64 ((P l i : Nat) : Int) from rfl] at r0
        simp only [show av (fun _ => (⟨((P l i : Nat) : Int), (l i).frm⟩ : Ac)) 1 = .int .i64 (l i).frm from rfl] at r1
        clear c0 c1 c2 hbA HCf HI hW
        have n1 : wo.heap.size ≠ w3.heap.size := by omega
        have n2 : w3.heap.size ≠ wo.heap.size := by omega
        have n3 : wo.heap.size ≠ w3.heap.size + 1 := by omega
        have n4 : w3.heap.size + 1 ≠ wo.heap.size := by omega
        have HbC := hide hbC
        have HbI := hide hbI
        have HBe := hide (show InB l c i = decide (Cf l i (P l i) < c (P l i)) from rfl)
        clear hbC hbI
        go_region
        generalize hx : Cf l i (P l i) = x at *
        have HbC' := hide (show Cf l i (P l i) = x from hx)
        clear hx
        have HEnd := hide (show ∀ (wh' : Bool) (wz : World), Hid (wh' = true ↔ Wf l c (i + 1)) → wz = ((w6.setCell ⟨w3.heap.size + 1, i, none⟩ (.bool (decide (x < c (P l i))))).drew.setCell ⟨w3.heap.size, P l i, none⟩ (.int .i64 (x + 1))) → ∃ (i' : Nat) (wh : Bool), i' ≤ nn ∧ Value.int .i64 ((i + 1 : Nat) : Int) = .int .i64 i' ∧ Value.bool wh' = .bool wh ∧ Hid (wh = true ↔ Wf l c i') ∧ Hid (Blk wz w3.heap.size p (iv (Cf l i')) 3) ∧ Hid (Blk wz (w3.heap.size + 1) nn (inF l c i') 4) ∧ Below w3.heap.size w3 wz from fun wh' wz hwh hwz => by
          subst hwz
          refine ⟨i + 1, wh', by omega, rfl, rfl, hwh, hide ?_, hide ?_, ?_⟩
          · rw [← Cf_succ, HbC'.out]
            exact ((HbC.out.set_other (by omega) _ _).drew).set_int (P l i) (x + 1)
          · rw [← inF_succ, HBe.out]
            exact ((HbI.out.set i _).drew).set_other (by omega) _ _
          · exact ((hbw6.setCell (by simp) _).drew).setCell (Nat.le_refl _) _)
        have HWd := hide (show ∀ k : Nat, k < i → w6.cell? ⟨w3.heap.size + 1, k, none⟩ = some (.bool (InB l c k)) from fun k hk => by
          have := HbI.out.cell (show k < nn by omega)
          simp only [inF, show decide (k < i) = true from decide_eq_true hk, Bool.true_and] at this
          exact this)
        cases wh
        · have HN := hide (show false = true ↔ Wf l c (i + 1) from ⟨fun h => (by cases h), fun H => absurd (HWh.out.2 (fun j hj => H j (by omega))) (by simp)⟩)
          clear HWh HWd HbC HbI HBe HbC'
          go_wp2
          exact ⟨HEnd.out false _ HN rfl, by simp [intOf]; omega⟩
        · have hWi := HWh.out.1 rfl
          have HWi := hide hWi
          clear HWh hWi
          by_cases hin' : x < c (P l i)
          · have hd : decide (x < c (P l i)) = true := decide_eq_true hin'
            have hB : InB l c i = true := by rw [HBe.out]; exact hd
            rcases hFi with ⟨hf, hFn⟩ | ⟨k, hk, hf, hFs⟩
            · have HN := hide (show true = true ↔ Wf l c (i + 1) from ⟨fun _ => (Wf_none hFn).2 HWi.out, fun _ => rfl⟩)
              rw [hf] at r1
              clear HWi HWd HbC HbI HBe HbC' hB
              go_wp2
              exact ⟨HEnd.out true _ HN (by rw [show decide (x < c (P l i)) = true from decide_eq_true (by omega)]; rfl), by simp [intOf]; omega⟩
            · have hdk := HWd.out k hk
              have HN := hide (show InB l c k = true ↔ Wf l c (i + 1) from ⟨fun h => (Wf_some hFs hB).2 ⟨HWi.out, h⟩, fun H => ((Wf_some hFs hB).1 H).2⟩)
              rw [hf] at r1
              have hk0 : ¬ ((k : Int) < 0) := by omega
              have hk1 : (0 : Int) ≤ (k : Int) := by omega
              have hk2 : (k : Int) < (nn : Int) := by omega
              have hki : k ≠ i := by omega
              have hik : i ≠ k := by omega
              clear HWi HWd HbC HbI HBe HbC' hB
              generalize InB l c k = bk at *
              go_wp2
              exact ⟨HEnd.out bk _ HN (by rw [show decide (x < c (P l i)) = true from decide_eq_true (by omega)]; rfl), by simp [intOf]; omega⟩
          · have hd : decide (x < c (P l i)) = false := decide_eq_false hin'
            have hB : InB l c i = false := by rw [HBe.out]; exact hd
            have HN := hide (show true = true ↔ Wf l c (i + 1) from ⟨fun _ => (Wf_out hB).2 HWi.out, fun _ => rfl⟩)
            clear HWi HWd HbC HbI HBe HbC' hB
            go_wp2
            exact ⟨HEnd.out true _ HN (by rw [show decide (x < c (P l i)) = false from decide_eq_false (by omega)]; rfl), by simp [intOf]; omega⟩
      · obtain rfl : i = nn := by omega
        have hwb : b = wh := bool_to Iff.rfl HB.out HWh.out
        subst hwb
        clear HB HWh HCf HI HA HQa
        have HRo := hide (HR3.out.below hbw)
        by_cases h0 : i = 0
        · subst h0
          clear HRo HR3 HQ3 HG HC CI HU
          go_wp2
          go_ret
          exact ⟨rfl, hbf⟩
        · have h0' : ¬ ((i : Int) = 0) := by omega
          go_wp2_with fail
          refine (impl_vecs p _ i l _ HRo.out HG.out).mono ?_
          rintro e w5 ⟨⟨r, rfl, hr⟩, hb⟩
          have hb5 := hbf.trans (hb.mono hbf.size)
          have HR5 := hide (HRo.out.below hb)
          obtain ⟨a5, c5, rfl, hrr⟩ := hr.reads
          have HV5 := hide hrr
          clear hr hrr hb hbf HRo HR3 HQ3 HC
          go_wp2_with fail
          refine (number_of _ m g _ (HU.out.below hb5) (by omega)).mono ?_
          rintro e w7 ⟨⟨z, hz, rfl⟩, rfl⟩
          obtain ⟨j, hzm, hj⟩ : ∃ j : Nat, (z : Int) % (i : Int) = (j : Int) ∧ j < i := ⟨z % i, by omega, Nat.mod_lt _ (by omega)⟩
          obtain ⟨bv, ov, rfl, hbv, hrow⟩ := HV5.out (by omega)
          obtain ⟨rv, hcv, hiv⟩ := hrow j hj
          obtain ⟨av', cv', rfl⟩ := hiv.form
          have HIv := hide hiv
          obtain ⟨hfine, hwi⟩ := past_fine HG.out hj
          have HFine := hide hfine
          have HWi := hide hwi
          have hz0 : (0 : Int) ≤ (j : Int) := by omega
          have hz1 : (j : Int) < (i : Int) := by omega
          clear hrow HV5 hfine hwi hiv HU
          go_wp2_with fail
          refine (impl_cut _ _ p i l (Vf l j) true _ HR5.out HIv.out HFine.out ⟨fun _ => HWi.out, fun _ => rfl⟩).mono ?_
          rintro e w8 ⟨rfl, hb⟩
          have hb8 := hb5.trans (hb.mono hb5.size)
          clear hb hb5 HR5 HIv HFine HWi HG CI
          go_wp2
          go_ret
          exact ⟨rfl, hb8⟩
theorem law_cuts (v : Value) (n : Nat) (f : Nat → Nat) (u : Value) (m : Nat) (g : Nat → Nat) (w : World) (hv : OctetsOf w v n f) (mn : n < 2 ^ 47) (hu : OctetsOf w u m g) (mm : m < 2 ^ 47) :
    Calls Try.prog 3 #[v, u] w fun e w' => e = .returned (.bool true) ∧ Below w.heap.size w w' := by
  simp only [Nat.reducePow] at mn mm
  by_cases hnm : n + m ≤ 1048576
  · exact law_cuts_run v u n m f g w hv hu hnm
  · obtain ⟨a, cap, rfl⟩ := hv.form
    obtain ⟨a2, cap2, rfl⟩ := hu.form
    have hgt : (n : Int) + (m : Int) > 1048576 := by omega
    clear hv hu
    go_enter Try.func3, Try.ntmps3
    go_wp2
    go_ret
    exact ⟨rfl, Below.refl _ _⟩
end Go.Proofs.Ytoholagamandpaa

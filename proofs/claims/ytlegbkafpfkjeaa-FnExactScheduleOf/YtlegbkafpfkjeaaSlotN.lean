/-
  Whether each task begins when its needs are over (the program's needsOver); as many slots as tasks leave no task out.
-/
import Derived.Test.YtlegbkafpfkjeaaSlotC
namespace Go.Proofs.Ytlegbkafpfkjeaa
open Go.ChangeShapes Go.WideShapes Go.ChangeAt Go.RowKit Go.Joins Go.Deep
open M
open Clk (upd upd_same upd_other)
open Go.Sort (grow)
namespace M
theorem cnt_no : ∀ k, cnt (fun _ => false) k = 0
  | 0 => rfl
  | k + 1 => by simp [cnt, cnt_no k]
theorem cnt_all {s : Nat → Bool} : ∀ k, (∀ x, x < k → s x = true) → cnt s k = k
  | 0, _ => rfl
  | k + 1, h => by simp [cnt, cnt_all k (fun x hx => h x (by omega)), h k (by omega)]
theorem met_cnt {k : Nat} {p : Int} {f : Nat → Int} : ∀ {m : Nat}, OnceTo k p f m → cnt (metT f m) k = m
  | 0, _ => cnt_no k
  | m + 1, h => by
    have hm : OnceTo k p f m := fun j hj => h j (by omega)
    have ih := met_cnt hm
    have hg := (h m (by omega)).1.1
    obtain ⟨t, ht⟩ := Int.eq_ofNat_of_zero_le hg.1
    have htk : t < k := by have := hg.2; omega
    have hf : metT f m t = false := by
      cases hc : metT f m t with
      | false => rfl
      | true =>
        obtain ⟨i, hi, h1⟩ := (metT_iff hm t).1 hc
        exact absurd (h1.trans ht.symm) ((h m (by omega)).2 i hi)
    have e1 : metT f (m + 1) = upd (metT f m) t true := by simp only [metT]; rw [ht]; rfl
    rw [e1, cnt_add (d := metT f m) hf (fun x => by unfold upd; by_cases hx : x = t <;> simp [hx]) k htk, ih]
theorem once_le {k n : Nat} {p : Int} {f : Nat → Int} (h : OnceTo k p f n) : n ≤ k := by rw [← met_cnt h]; exact cnt_le _ _
theorem once_all {k : Nat} {p : Int} {f : Nat → Int} (h : OnceTo k p f k) {x : Nat} (hx : x < k) : ∃ i, i < k ∧ sT f i = (x : Int) := by
  rw [← metT_iff h]
  cases hc : metT f k x with
  | true => rfl
  | false => have := cnt_lt hc k hx; rw [met_cnt h] at this; omega
theorem all_once {k n : Nat} {p : Int} {f : Nat → Int} (h : OnceTo k p f n) (ha : ∀ x, x < k → ∃ i, i < n ∧ sT f i = (x : Int)) : n = k := by
  rw [← met_cnt h]; exact cnt_all k fun x hx => (metT_iff h x).2 (ha x hx)
/-- Where each task ends, by the first m slots; where it begins. -/
def endsF (ts : Nat → Tk) (f : Nat → Int) : Nat → (Nat → Int)
  | 0 => fun _ => 0
  | m + 1 => upd (endsF ts f m) (sT f m).toNat (sE ts f m)
def atF (f : Nat → Int) : Nat → (Nat → Int)
  | 0 => fun _ => -1
  | m + 1 => upd (atF f m) (sT f m).toNat (sF f m)
theorem once_ne {k n : Nat} {p : Int} {f : Nat → Int} (h : OnceTo k p f n) {i j : Nat} (hi : i < j) (hj : j < n) : (sT f i).toNat ≠ (sT f j).toNat := by
  have h1 := (h j hj).2 i hi
  have h2 := (h j hj).1.1.1
  have h3 := (h i (by omega)).1.1.1
  omega
theorem endsF_at {k n : Nat} {p : Int} {ts : Nat → Tk} {f : Nat → Int} (h : OnceTo k p f n) {i : Nat} : ∀ m, m ≤ n → i < m → endsF ts f m (sT f i).toNat = sE ts f i
  | 0, _, h => by omega
  | m + 1, hm, hi => by
    simp only [endsF]
    by_cases e : i = m
    · subst e; rw [upd_same]
    · rw [upd_other _ _ _ _ (once_ne h (show i < m by omega) (by omega))]; exact endsF_at h m (by omega) (by omega)
theorem atF_at {k n : Nat} {p : Int} {f : Nat → Int} (h : OnceTo k p f n) {i : Nat} : ∀ m, m ≤ n → i < m → atF f m (sT f i).toNat = sF f i
  | 0, _, h => by omega
  | m + 1, hm, hi => by
    simp only [atF]
    by_cases e : i = m
    · subst e; rw [upd_same]
    · rw [upd_other _ _ _ _ (once_ne h (show i < m by omega) (by omega))]; exact atF_at h m (by omega) (by omega)
theorem atF_no {f : Nat → Int} {x : Nat} : ∀ m, (∀ i, i < m → (sT f i).toNat ≠ x) → atF f m x = -1
  | 0, _ => rfl
  | m + 1, h => by
    simp only [atF]
    rw [upd_other _ _ _ _ (fun e => h m (by omega) e.symm)]; exact atF_no m fun i hi => h i (by omega)
/-- Slot j begins when the needs of its task are over. -/
def NOvAt (ts : Nat → Tk) (f : Nat → Int) (n j : Nat) : Prop := ∀ q, q < (ts (sT f j).toNat).nn → endsF ts f n ((ts (sT f j).toNat).fn q).toNat ≤ sF f j
instance (ts : Nat → Tk) (f : Nat → Int) (n j : Nat) : Decidable (NOvAt ts f n j) := by unfold NOvAt; infer_instance
def NOv (ts : Nat → Tk) (f : Nat → Int) (n : Nat) : Prop := ∀ j, j < n → NOvAt ts f n j
instance (ts : Nat → Tk) (f : Nat → Int) (n : Nat) : Decidable (NOv ts f n) := by unfold NOv; infer_instance
def Sched (k : Nat) (p : Int) (ts : Nat → Tk) (f : Nat → Int) (n : Nat) : Prop := (OnceTo k p f n ∧ n = k) ∧ NoneTo ts f n ∧ NOv ts f n
instance (k : Nat) (p : Int) (ts : Nat → Tk) (f : Nat → Int) (n : Nat) : Decidable (Sched k p ts f n) := by unfold Sched; infer_instance
end M
set_option maxRecDepth 20000 in
set_option maxHeartbeats 4000000 in
theorem needs_over (v u : Value) (k : Nat) (p : Int) (n : Nat) (f : Nat → Int) (ts : Nat → Tk) (b : Bool) (w : World) (hv : TasksOf w v k ts) (hB : Bnd k ts) (hu : SlotsOf w u n f) (hn : n ≤ 30) (ho : OnceTo k p f n) (hb : decide (NOv ts f n) = b) :
    Calls Try.prog 64 #[v, u] w fun e w' => e = .returned (.bool b) ∧ Below w.heap.size w w' := by
  have HV := hide hv
  have HBn := hide hB
  have HO := hide ho
  obtain ⟨a, cap, rfl, hrt⟩ := hv
  obtain ⟨a2, cap2, rfl, hr⟩ := hu
  have HRt := hide hrt
  have HR := hide hr
  have HB := hide hb
  have hk30 := hB.1
  have hbA := (Below.refl w.heap.size w).alloc (Nat.le_refl _) (.cells (cf 30 (iv fun _ => 0)) 91)
  have H0 := hide (Blk.new w 30 (iv fun _ => 0) 91)
  clear hrt hB hr hb ho
  go_enter Try.func64, Try.ntmps64
  go_wp2_with fail
  go_loopw [14] (fun y wr => ∃ j : Nat, j ≤ n ∧ y = .int .i64 j ∧ Hid (Blk wr w.heap.size 30 (iv (endsF ts f j)) 91) ∧ Below w.heap.size w wr) (fun y _ => n - (intOf y).toNat)
  case atStart => exact ⟨0, Nat.zero_le _, rfl, H0, hbA⟩
  case round =>
    rename World => wo
    obtain ⟨j, hj, rfl, HBk, hbw⟩ := hrel
    by_cases hlt : j < n
    · obtain ⟨bb, off, rfl, hbb, hrow⟩ := HR.out (by omega)
      have c0 := (hbw.cell (p := ⟨bb, off + j * 3, none⟩) hbb).trans (hrow (j * 3) (by omega))
      have c1 := (hbw.cell (p := ⟨bb, off + (j * 3 + 1), none⟩) hbb).trans (hrow (j * 3 + 1) (by omega))
      have c2 := (hbw.cell (p := ⟨bb, off + (j * 3 + 2), none⟩) hbb).trans (hrow (j * 3 + 2) (by omega))
      simp only [← Nat.add_assoc] at c1 c2
      have hi0 : (0 : Int) ≤ (j : Int) := by omega
      have hi1 : (j : Int) < (n : Int) := by omega
      have hgj := (HO.out j hlt).1
      obtain ⟨t, htt⟩ := Int.eq_ofNat_of_zero_le hgj.1.1
      have htk : t < k := by have := hgj.1.2; omega
      have htt' : f (j * 3) = (t : Int) := htt
      have hz' : 0 ≤ f (j * 3 + 2) ∧ f (j * 3 + 2) ≤ 1000000 := hgj.2.2
      have HE := hide (show endsF ts f (j + 1) = upd (endsF ts f j) t (f (j * 3 + 2) + (ts t).long) by simp only [endsF]; unfold sE; rw [htt]; rfl)
      rw [htt'] at c0
      have hdn := (Below.refl wo.heap.size wo).alloc (Nat.le_refl _) (.cells #[.int .i64 (t : Int), .int .i64 (f (j * 3 + 1)), .int .i64 (f (j * 3 + 2))] 70)
      have hbE := hbw.trans (hdn.mono hbw.size)
      have HBE := hide (HBk.out.down hdn)
      have hx := Blk.fresh wo #[.int .i64 (t : Int), .int .i64 (f (j * 3 + 1)), .int .i64 (f (j * 3 + 2))] 3 (iv fun q => if q = 0 then (t : Int) else if q = 1 then f (j * 3 + 1) else f (j * 3 + 2)) 70 rfl
      have HX := hide hx
      have ht0 : (0 : Int) ≤ (t : Int) := by omega
      have ht1 : (t : Int) < 30 := by omega
      clear hrow hgj htt htt'
      go_wp2_with fail
      generalize hW3 : wo.alloc _ = w3 at *
      have hsx : wo.heap.size < w3.heap.size := by rw [← hW3]; simp
      clear hW3 c0 c1 c2 hx HBk
      have x0 := HX.out.cell_ints (show 0 < 3 by omega)
      have x1 := HX.out.cell_ints (show 1 < 3 by omega)
      have x2 := HX.out.cell_ints (show 2 < 3 by omega)
      simp only [if_true, if_neg (show ¬ (1 = 0) by omega), if_neg (show ¬ (2 = 0) by omega), if_neg (show ¬ (2 = 1) by omega)] at x0 x1 x2
      have e0 := HBE.out.cell_ints (show t < 30 by omega)
      have g0 := HBE.out.thaw t
      have HJ := hide (show ∀ wx wy : World, wx.heap = w3.heap → Below wx.heap.size wx wy → (wy.cell? ⟨wo.heap.size, 0, none⟩ = some (.int .i64 (t : Int))) ∧ wy.cell? ⟨w.heap.size, t, none⟩ = some (.int .i64 (endsF ts f j t)) ∧ wy.frozen? ⟨w.heap.size, t, none⟩ = false ∧ Blk wy w.heap.size 30 (iv (endsF ts f j)) 91 from fun wx wy hh hb => by
        have h1 : Blk wx wo.heap.size 3 (iv fun q => if q = 0 then (t : Int) else if q = 1 then f (j * 3 + 1) else f (j * 3 + 2)) 70 := by unfold Blk; rw [hh]; exact HX.out
        have h2 : Blk wx w.heap.size 30 (iv (endsF ts f j)) 91 := by unfold Blk; rw [hh]; exact HBE.out
        have h3 := h2.down hb
        exact ⟨(h1.down hb).cell_ints (show 0 < 3 by omega), h3.cell_ints (show t < 30 by omega), h3.thaw t, h3⟩)
      have HTv := hide (HV.out.below hbE)
      have HEs := hide (end_slot (.slice a k cap) k ts t (f (j * 3 + 1)) (f (j * 3 + 2)) w3.drew (HTv.out.below (Below.refl _ _).drew) HBn.out htk hz')
      clear HX HBE HTv hdn
      go_region_with (go_at_call 73; refine HEs.out.mono ?_; rintro e wj ⟨rfl, hbj⟩; obtain ⟨y0, y1, y2, hyB⟩ := HJ.out w3.drew wj rfl hbj)
      all_goals
        have HB4 := hide (show Blk (wj.setCell ⟨w.heap.size, t, none⟩ (.int .i64 (f (j * 3 + 2) + (ts t).long))) w.heap.size 30 (iv (endsF ts f (j + 1))) 91 ∧ Below w.heap.size w (wj.setCell ⟨w.heap.size, t, none⟩ (.int .i64 (f (j * 3 + 2) + (ts t).long))) from by
          refine ⟨by rw [HE.out]; exact hyB.set_int _ _, ?_⟩
          exact (hbE.drew.trans (hbj.mono hbE.size)).setCell (Nat.le_refl _) _)
        clear HJ HEs hbj y0 y1 y2 hyB HE x0 x1 x2 e0 g0
        go_wp2
        exact ⟨⟨j + 1, by omega, by go_num, hide HB4.out.1, HB4.out.2⟩, by simp [intOf]; omega⟩
    · obtain rfl : n = j := by omega
      have HOe := HBk
      clear H0 hbA
      go_wp2_with fail
      go_loopw [27] (fun y wr => ∃ j : Nat, j ≤ n ∧ y = .int .i64 j ∧ Hid (∀ j', j' < j → NOvAt ts f n j') ∧ Below wo.heap.size wo wr) (fun y _ => n - (intOf y).toNat)
      case atStart => exact ⟨0, Nat.zero_le _, rfl, hide (fun j h => by omega), Below.refl _ _⟩
      case round =>
        rename World => wp
        obtain ⟨j, hj, rfl, HNv, hbp⟩ := hrel
        have hbW := hbw.trans (hbp.mono hbw.size)
        by_cases hlt : j < n
        · obtain ⟨bb, off, rfl, hbb, hrow⟩ := HR.out (by omega)
          have c0 := (hbW.cell (p := ⟨bb, off + j * 3, none⟩) hbb).trans (hrow (j * 3) (by omega))
          have c1 := (hbW.cell (p := ⟨bb, off + (j * 3 + 1), none⟩) hbb).trans (hrow (j * 3 + 1) (by omega))
          have c2 := (hbW.cell (p := ⟨bb, off + (j * 3 + 2), none⟩) hbb).trans (hrow (j * 3 + 2) (by omega))
          simp only [← Nat.add_assoc] at c1 c2
          have hi0 : (0 : Int) ≤ (j : Int) := by omega
          have hi1 : (j : Int) < (n : Int) := by omega
          have hgj := (HO.out j hlt).1
          obtain ⟨t, htt⟩ := Int.eq_ofNat_of_zero_le hgj.1.1
          have htk : t < k := by have := hgj.1.2; omega
          have htt' : f (j * 3) = (t : Int) := htt
          have HNA := hide (show NOvAt ts f n j ↔ ∀ q, q < (ts t).nn → endsF ts f n ((ts t).fn q).toNat ≤ f (j * 3 + 2) by unfold NOvAt sF; rw [htt]; rfl)
          rw [htt'] at c0
          obtain ⟨bt, offt, rfl, hbt, hrowt⟩ := HRt.out (by omega)
          obtain ⟨y, q1, q2, i1⟩ := hrowt t htk
          have hdn := (Below.refl wp.heap.size wp).alloc (Nat.le_refl _) (.cells #[.int .i64 (t : Int), .int .i64 (f (j * 3 + 1)), .int .i64 (f (j * 3 + 2))] 70)
          have hbE := hbW.trans (hdn.mono hbW.size)
          have d1 := (hbE.cell (p := ⟨bt, offt + t * 2 + 1, none⟩) hbt).trans q2
          obtain ⟨ay, cy, rfl, hry⟩ := i1
          have HRy := hide hry
          have HX := hide (Blk.fresh wp #[.int .i64 (t : Int), .int .i64 (f (j * 3 + 1)), .int .i64 (f (j * 3 + 2))] 3 (iv fun q => if q = 0 then (t : Int) else if q = 1 then f (j * 3 + 1) else f (j * 3 + 2)) 70 rfl)
          have hpE := hbp.trans (hdn.mono hbp.size)
          have ht0 : (0 : Int) ≤ (t : Int) := by omega
          have ht1 : (t : Int) < (k : Int) := by omega
          have HNd := hide (show ∀ q, q < (ts t).nn → ∃ z : Nat, (ts t).fn q = (z : Int) ∧ z < k ∧ ((ts t).fn q).toNat = z from fun q hq => HBn.out.need htk hq)
          have hln := HBn.out.len htk
          clear hrow hgj htt htt' hrowt q1 q2 hry
          go_wp2_with fail
          generalize hW3 : wp.alloc _ = w3 at *
          clear hW3 c0 c1 c2 d1
          have hs3 := hpE.size
          generalize (ts t).nn = nt at *
          generalize (ts t).fn = ft at *
          go_loopw [38] (fun y wr => ∃ q : Nat, q ≤ nt ∧ y = .int .i64 q ∧ Hid (∀ q', q' < q → endsF ts f n (ft q').toNat ≤ f (j * 3 + 2)) ∧ Below w3.heap.size w3 wr) (fun y _ => nt - (intOf y).toNat)
          case atStart => exact ⟨0, Nat.zero_le _, rfl, hide (fun q h => by omega), Below.refl _ _⟩
          case round =>
            rename World => wq
            obtain ⟨q, hq, rfl, HQ, hbq⟩ := hrel
            by_cases hql : q < nt
            · obtain ⟨by', offy, rfl, hby, hrowy⟩ := HRy.out (by omega)
              have hbQ := hbE.trans (hbq.mono hbE.size)
              have c0 := (hbQ.cell (p := ⟨by', offy + q, none⟩) hby).trans (hrowy q hql)
              obtain ⟨z, hz, hzk, hzt⟩ := HNd.out q hql
              rw [hz] at c0
              have x2 := (HX.out.down hbq).cell_ints (show 2 < 3 by omega)
              simp only [if_neg (show ¬ (2 = 0) by omega), if_neg (show ¬ (2 = 1) by omega)] at x2
              have e0 := (HOe.out.down (hpE.trans (hbq.mono hpE.size))).cell_ints (show z < 30 by omega)
              have hz0 : (0 : Int) ≤ (z : Int) := by omega
              have hz1 : (z : Int) < 30 := by omega
              have hq0 : (0 : Int) ≤ (q : Int) := by omega
              have hq1 : (q : Int) < (nt : Int) := by omega
              by_cases hle : endsF ts f n z ≤ f (j * 3 + 2)
              · have hd : decide (f (j * 3 + 2) < endsF ts f n z) = false := decide_eq_false (by omega)
                have HQ2 := hide (show ∀ q', q' < q + 1 → endsF ts f n (ft q').toNat ≤ f (j * 3 + 2) from fun q' hq' => by
                  rcases (show q' < q ∨ q' = q by omega) with h | h
                  · exact HQ.out q' h
                  · subst h; rw [hzt]; exact hle)
                clear HQ hle hzt hz hrowy
                go_wp2_with fail
                go_big_quiet (fail)
                have hbq2 := below_drewN hbq nq
                go_wp2
                exact ⟨⟨q + 1, by omega, by go_num, HQ2, hbq2⟩, by simp [intOf]; omega⟩
              · have hd : decide (f (j * 3 + 2) < endsF ts f n z) = true := decide_eq_true (by omega)
                obtain rfl : b = false := by
                  rw [← HB.out, decide_eq_false_iff_not]
                  intro h
                  have := HNA.out.1 (h j hlt) q hql
                  rw [hzt] at this
                  exact hle this
                clear HQ hle hzt hz hrowy HB HNA HNv HOe HRt HR HV HBn HO
                go_wp2_with fail
                go_big_quiet (fail)
                have hbq2 := below_drewN hbQ nq
                go_wp2
                go_ret
                exact ⟨rfl, hbq2⟩
            · obtain rfl : nt = q := by omega
              have HN2 := hide (show ∀ j', j' < j + 1 → NOvAt ts f n j' from fun j' hj' => by
                rcases (show j' < j ∨ j' = j by omega) with h | h
                · exact HNv.out j' h
                · subst h; exact HNA.out.2 HQ.out)
              have hbf := hpE.trans (hbq.mono hpE.size)
              clear HNv HQ HX HNd HRy HNA
              go_wp2
              exact ⟨⟨j + 1, by omega, by go_num, HN2, hbf⟩, by simp [intOf]; omega⟩
        · obtain rfl : n = j := by omega
          obtain rfl : b = true := by rw [← HB.out, decide_eq_true_eq]; exact HNv.out
          clear HNv HB HR HRt HOe HBn HO HV
          go_wp2
          go_ret
          exact ⟨rfl, hbW⟩
end Go.Proofs.Ytlegbkafpfkjeaa

/-
  Slots of a schedule: which are good, where one ends, whether each task has one (the program's helpers of IsSchedule).
-/
import Derived.Test.YtlegbkafpfkjeaaSlotM
import Derived.Test.YtlegbkafpfkjeaaPlanN
namespace Go.Proofs.Ytlegbkafpfkjeaa
open Go.RowKit M
open Clk (upd upd_same upd_other)
namespace M
/-- Slot j's task, worker, beginning; whether it is good. -/
def sT (f : Nat → Int) (j : Nat) : Int := f (j * 3)
def sW (f : Nat → Int) (j : Nat) : Int := f (j * 3 + 1)
def sF (f : Nat → Int) (j : Nat) : Int := f (j * 3 + 2)
def InB (n lo hi : Int) : Prop := lo ≤ n ∧ n ≤ hi
instance (n lo hi : Int) : Decidable (InB n lo hi) := by unfold InB; infer_instance
def GoodSl (k : Nat) (p : Int) (f : Nat → Int) (j : Nat) : Prop := InB (sT f j) 0 ((k : Int) - 1) ∧ InB (sW f j) 0 (p - 1) ∧ InB (sF f j) 0 1000000
instance (k : Nat) (p : Int) (f : Nat → Int) (j : Nat) : Decidable (GoodSl k p f j) := by unfold GoodSl; infer_instance
/-- The first m slots are good, and none has the task of one ahead of it. -/
def OnceTo (k : Nat) (p : Int) (f : Nat → Int) (m : Nat) : Prop := ∀ j, j < m → GoodSl k p f j ∧ ∀ i, i < j → sT f i ≠ sT f j
instance (k : Nat) (p : Int) (f : Nat → Int) (m : Nat) : Decidable (OnceTo k p f m) := by unfold OnceTo; infer_instance
/-- Which tasks the first m slots have. -/
def metT (f : Nat → Int) : Nat → (Nat → Bool)
  | 0 => fun _ => false
  | m + 1 => upd (metT f m) (sT f m).toNat true
theorem metT_iff {k : Nat} {p : Int} {f : Nat → Int} : ∀ {m : Nat}, OnceTo k p f m → ∀ x : Nat, metT f m x = true ↔ ∃ i, i < m ∧ sT f i = (x : Int)
  | 0, _, x => by simp [metT]
  | m + 1, h, x => by
    have ih := metT_iff (k := k) (p := p) (f := f) (m := m) (fun j hj => h j (by omega)) x
    have hg := (h m (by omega)).1.1.1
    simp only [metT]
    unfold upd
    split
    · rename_i e
      constructor
      · intro _; exact ⟨m, by omega, by omega⟩
      · intro _; rfl
    · rename_i e
      rw [ih]
      constructor
      · rintro ⟨i, hi, h1⟩; exact ⟨i, by omega, h1⟩
      · rintro ⟨i, hi, h1⟩
        rcases (show i < m ∨ i = m by omega) with h2 | h2
        · exact ⟨i, h2, h1⟩
        · subst h2; omega
end M
set_option maxHeartbeats 1000000 in
theorem good_slot (x y z k p : Int) (b : Bool) (w : World) (hk : -1000 ≤ k ∧ k ≤ 1000) (hp : -1000 ≤ p ∧ p ≤ 1000) (hb : decide (InB x 0 (k - 1) ∧ InB y 0 (p - 1) ∧ InB z 0 1000000) = b) :
    Calls Try.prog 72 #[.agg #[.int .i64 x, .int .i64 y, .int .i64 z], .int .i64 k, .int .i64 p] w fun e w' => e = .returned (.bool b) ∧ Below w.heap.size w w' := by
  have hbA := (Below.refl w.heap.size w).alloc (Nat.le_refl _) (.cells #[.int .i64 x, .int .i64 y, .int .i64 z] 70)
  by_cases h1 : InB x 0 (k - 1)
  · have H1 := hide (show decide (0 ≤ x ∧ x ≤ k - 1) = true from decide_eq_true h1)
    by_cases h2 : InB y 0 (p - 1)
    · have H2 := hide (show decide (0 ≤ y ∧ y ≤ p - 1) = true from decide_eq_true h2)
      have H3 := hide (show decide (0 ≤ z ∧ z ≤ 1000000) = b by rw [← hb]; rw [Bool.eq_iff_iff]; simp only [decide_eq_true_eq]; exact ⟨fun h => ⟨h1, h2, h⟩, fun h => h.2.2⟩)
      clear h1 h2 hb
      go_enter Try.func72, Try.ntmps72
      go_wp2_with fail
      refine (within_to _ _ _ _ _ H1.out).mono ?_
      rintro e w1 ⟨rfl, rfl⟩
      go_wp2_with fail
      refine (within_to _ _ _ _ _ H2.out).mono ?_
      rintro e w1 ⟨rfl, rfl⟩
      go_wp2_with fail
      refine (within_to _ _ _ _ _ H3.out).mono ?_
      rintro e w1 ⟨rfl, rfl⟩
      go_wp2
      go_ret
      exact ⟨rfl, hbA⟩
    · have H2 := hide (show decide (0 ≤ y ∧ y ≤ p - 1) = false from decide_eq_false h2)
      obtain rfl : b = false := by rw [← hb, decide_eq_false_iff_not]; exact fun h => h2 h.2.1
      clear h1 h2 hb
      go_enter Try.func72, Try.ntmps72
      go_wp2_with fail
      refine (within_to _ _ _ _ _ H1.out).mono ?_
      rintro e w1 ⟨rfl, rfl⟩
      go_wp2_with fail
      refine (within_to _ _ _ _ _ H2.out).mono ?_
      rintro e w1 ⟨rfl, rfl⟩
      go_wp2
      go_ret
      exact ⟨rfl, hbA⟩
  · have H1 := hide (show decide (0 ≤ x ∧ x ≤ k - 1) = false from decide_eq_false h1)
    obtain rfl : b = false := by rw [← hb, decide_eq_false_iff_not]; exact fun h => h1 h.1
    clear h1 hb
    go_enter Try.func72, Try.ntmps72
    go_wp2_with fail
    refine (within_to _ _ _ _ _ H1.out).mono ?_
    rintro e w1 ⟨rfl, rfl⟩
    go_wp2
    go_ret
    exact ⟨rfl, hbA⟩
set_option maxHeartbeats 1000000 in
theorem end_slot (v : Value) (k : Nat) (ts : Nat → Tk) (t : Nat) (y z : Int) (w : World) (hv : TasksOf w v k ts) (hB : Bnd k ts) (ht : t < k) (hz : 0 ≤ z ∧ z ≤ 1000000) :
    Calls Try.prog 73 #[v, .agg #[.int .i64 (t : Int), .int .i64 y, .int .i64 z]] w fun e w' => e = .returned (.int .i64 (z + (ts t).long)) ∧ Below w.heap.size w w' := by
  obtain ⟨a, cap, rfl, hr⟩ := hv
  have hbA := (Below.refl w.heap.size w).alloc (Nat.le_refl _) (.cells #[.int .i64 (t : Int), .int .i64 y, .int .i64 z] 70)
  obtain ⟨bb, off, rfl, hbb, hrow⟩ := hr (by omega)
  obtain ⟨u, q1, -, -⟩ := hrow t ht
  have c0 := (hbA.cell (p := ⟨bb, off + t * 2, none⟩) hbb).trans q1
  have hx := Blk.fresh w #[.int .i64 (t : Int), .int .i64 y, .int .i64 z] 3 (iv fun i => if i = 0 then (t : Int) else if i = 1 then y else z) 70 rfl
  have x0 := hx.cell_ints (show 0 < 3 by omega)
  have x2 := hx.cell_ints (show 2 < 3 by omega)
  simp only [if_true, if_neg (show ¬ (2 = 0) by omega), if_neg (show ¬ (2 = 1) by omega)] at x0 x2
  have hl := (hB.2 t ht).1
  have hi0 : (0 : Int) ≤ (t : Int) := by omega
  have hi1 : (t : Int) < (k : Int) := by omega
  clear hr hrow hx q1
  generalize (ts t).long = lt at *
  go_enter Try.func73, Try.ntmps73
  go_wp2_with fail
  go_big_quiet (fail)
  go_wp2
  go_ret
  exact ⟨rfl, below_drewN hbA _⟩
set_option maxRecDepth 20000 in
set_option maxHeartbeats 2000000 in
theorem each_once (v u : Value) (k : Nat) (p : Int) (n : Nat) (f : Nat → Int) (ts : Nat → Tk) (b : Bool) (w : World) (hv : TasksOf w v k ts) (hu : SlotsOf w u n f) (hk : k ≤ 30) (hn : n ≤ 30) (hp : 1 ≤ p ∧ p ≤ 8) (hb : decide (OnceTo k p f n ∧ n = k) = b) :
    Calls Try.prog 62 #[v, .int .i64 p, u] w fun e w' => e = .returned (.bool b) ∧ Below w.heap.size w w' := by
  obtain ⟨a, cap, rfl⟩ := hv.form
  obtain ⟨a2, cap2, rfl, hr⟩ := hu
  have HR := hide hr
  have HB := hide hb
  have hbA := (Below.refl w.heap.size w).alloc (Nat.le_refl _) (.cells (cf 30 (bv fun _ => false)) 82)
  have H0 := hide (Blk.new w 30 (bv fun _ => false) 82)
  clear hv hr hb
  go_enter Try.func62, Try.ntmps62
  go_wp2_with fail
  go_loopw [12] (fun y wr => ∃ j : Nat, j ≤ n ∧ y = .int .i64 j ∧ Hid (OnceTo k p f j) ∧ Hid (Blk wr w.heap.size 30 (bv (metT f j)) 82) ∧ Below w.heap.size w wr) (fun y _ => n - (intOf y).toNat)
  case atStart => exact ⟨0, Nat.zero_le _, rfl, hide (fun j hj => by omega), H0, hbA⟩
  case round =>
    rename World => wo
    obtain ⟨j, hj, rfl, HO, HBk, hbw⟩ := hrel
    by_cases hlt : j < n
    · obtain ⟨bb, off, rfl, hbb, hrow⟩ := HR.out (by omega)
      have c0 := (hbw.cell (p := ⟨bb, off + j * 3, none⟩) hbb).trans (hrow (j * 3) (by omega))
      have c1 := (hbw.cell (p := ⟨bb, off + (j * 3 + 1), none⟩) hbb).trans (hrow (j * 3 + 1) (by omega))
      have c2 := (hbw.cell (p := ⟨bb, off + (j * 3 + 2), none⟩) hbb).trans (hrow (j * 3 + 2) (by omega))
      simp only [← Nat.add_assoc] at c1 c2
      have hi0 : (0 : Int) ≤ (j : Int) := by omega
      have hi1 : (j : Int) < (n : Int) := by omega
      have hdn := (Below.refl wo.heap.size wo).alloc (Nat.le_refl _) (.cells #[.int .i64 (f (j * 3)), .int .i64 (f (j * 3 + 1)), .int .i64 (f (j * 3 + 2))] 70)
      have hbE := hbw.trans (hdn.mono hbw.size)
      have HBE := hide (HBk.out.down hdn)
      have HX := hide (Blk.fresh wo #[.int .i64 (f (j * 3)), .int .i64 (f (j * 3 + 1)), .int .i64 (f (j * 3 + 2))] 3 (iv fun i => f (j * 3 + i)) 70 rfl)
      obtain ⟨g, hg⟩ : ∃ g : Bool, decide (GoodSl k p f j) = g := ⟨_, rfl⟩
      have HGs := hide (good_slot (f (j * 3)) (f (j * 3 + 1)) (f (j * 3 + 2)) (k : Int) p g (wo.alloc (.cells #[.int .i64 (f (j * 3)), .int .i64 (f (j * 3 + 1)), .int .i64 (f (j * 3 + 2))] 70)) (by omega) (by omega) hg)
      clear hrow
      go_wp2_with fail
      refine HGs.out.mono ?_
      rintro e w3 ⟨rfl, hb3⟩
      have hb3' := hbE.trans (hb3.mono hbE.size)
      have hx3 := HX.out.down hb3
      have x0 := hx3.cell_ints (show 0 < 3 by omega)
      rw [Nat.add_zero] at x0
      have HB3 := hide (HBE.out.down hb3)
      clear HGs HX HBE hb3 hbE hdn c0 c1 c2 HBk
      cases g with
      | false =>
        have eb : b = false := by
          rw [← HB.out, decide_eq_false_iff_not]
          intro h
          exact absurd (h.1 j hlt).1 (of_decide_eq_false hg)
        subst eb
        clear HO HB HR HB3 H0 hx3
        go_wp2
        go_ret
        exact ⟨rfl, hb3'⟩
      | true =>
        have hgd := of_decide_eq_true hg
        obtain ⟨t, htt⟩ := Int.eq_ofNat_of_zero_le hgd.1.1
        have htk : t < k := by have := hgd.1.2; omega
        have htt' : f (j * 3) = (t : Int) := htt
        have d0 := HB3.out.cell_bv (show t < 30 by omega)
        have t0 := HB3.out.thaw t
        have ht0 : (0 : Int) ≤ (t : Int) := by omega
        have ht1 : (t : Int) < 30 := by omega
        have hmi := metT_iff HO.out t
        rw [htt'] at x0
        cases hm : metT f j t with
        | true =>
          have eb : b = false := by
            rw [← HB.out, decide_eq_false_iff_not]
            intro h
            obtain ⟨i, hi, h1⟩ := hmi.1 hm
            exact (h.1 j hlt).2 i hi (h1.trans htt.symm)
          subst eb
          rw [hm] at d0
          clear HO HB HR HB3 H0 hx3 hmi hgd hg
          go_wp2
          go_ret
          exact ⟨rfl, hb3'⟩
        | false =>
          rw [hm] at d0
          have HO2 := hide (show OnceTo k p f (j + 1) from fun i hi => by
            rcases (show i < j ∨ i = j by omega) with h | h
            · exact HO.out i h
            · subst h
              exact ⟨hgd, fun i' hi' e => by
                have := hmi.2 ⟨i', hi', e.trans htt⟩
                rw [hm] at this; cases this⟩)
          have HB4 := hide (show Blk (w3.setCell ⟨w.heap.size, t, none⟩ (.bool true)) w.heap.size 30 (bv (metT f (j + 1))) 82 ∧ Below w.heap.size w (w3.setCell ⟨w.heap.size, t, none⟩ (.bool true)) from by
            refine ⟨?_, hb3'.setCell (Nat.le_refl _) _⟩
            have e1 : metT f (j + 1) = upd (metT f j) t true := by simp only [metT]; rw [htt]; rfl
            rw [e1]
            exact HB3.out.set_bv t)
          clear HO HB HR HB3 H0 hx3 hmi hgd hg htt htt' hm
          go_wp2
          exact ⟨⟨j + 1, by omega, by go_num, HO2, hide HB4.out.1, HB4.out.2⟩, by simp [intOf]; omega⟩
    · obtain rfl : n = j := by omega
      have hbz : ((n : Int) == (k : Int)) = b := by
        rw [← HB.out, Bool.eq_iff_iff, decide_eq_true_eq, beq_iff_eq]
        exact ⟨fun h => ⟨HO.out, by omega⟩, fun h => by omega⟩
      clear HO HB HR HBk H0
      go_wp2
      go_ret
      exact ⟨rfl, hbw⟩
end Go.Proofs.Ytlegbkafpfkjeaa

/-
  GoodState in both texts: it returns whether the state is good; nothing that was there is turned.
-/
import Derived.Test.YtfkeokglifpkoaaDoorJoin13
namespace Go.Proofs.YtfkeokglifpkoaaDoor
open Go.RowKit M
open Go.Sort (grow)
set_option maxRecDepth 20000 in
set_option maxHeartbeats 4000000 in
theorem impl_goodSt (v0 v1 : Value) (s : St) (b : Bool) (w : World) (hv : StC w v0 v1 s) (hs : ShortT s) (hn : NmT s) (hb : BP b (GoodSt s)) :
    Calls Tryd.prog 63 #[stv v0 v1 s] w fun e w' => e = .returned (.bool b) ∧ Below w.heap.size w w' := by
  obtain ⟨st, nx, ca, dn, sg, tm⟩ := s
  obtain ⟨a0, c0, rfl⟩ := hv.1.1.form
  obtain ⟨a1, c1, rfl⟩ := hv.2.1.form
  have hbA := (Below.refl w.heap.size w).alloc (Nat.le_refl _) (.cells #[.int .i64 st, .int .i64 nx, .bool ca, .int .i64 dn, .slice a0 sg.length c0, .slice a1 tm.length c1] 73)
  have HV := hide (show TxC _ (.slice a0 sg.length c0) sg ∧ TxC _ (.slice a1 tm.length c1) tm from hv.below hbA)
  have HS := hide (show sg.length ≤ 1048576 ∧ tm.length ≤ 1048576 from hs)
  have HN := hide (show (∀ x ∈ sg, x.size ≤ maxLen) ∧ ∀ x ∈ tm, x.size ≤ maxLen from hn)
  have HB := hide (show b = true ↔ ((1 ≤ nx ∧ nx ≤ 1001) ∧ (0 ≤ dn ∧ dn ≤ 1000) ∧ Nms false sg ∧ Nms true tm ∧ ((st = 0 ∧ nx = 1 ∧ ca = false ∧ dn = 0 ∧ sg = [] ∧ tm = []) ∨ ((st = 1 ∨ st = 2) ∧ 1 < nx))) from hb)
  clear hv hs hn hb
  obtain ⟨b3, hb3⟩ := bp_ex (Nms false sg)
  obtain ⟨b4, hb4⟩ := bp_ex (Nms true tm)
  have HB3 := hide hb3
  have HB4 := hide hb4
  clear hb3 hb4
  cases h1 : inB nx 1 1001
  · have HF := hide (BP.no HB.out (fun h => by have := h.1; simp only [inB, Bool.and_eq_false_iff, decide_eq_false_iff_not] at h1; omega))
    go_enter Tryd.func63, Tryd.ntmps63
    go_wp2_with (go_at_call 22; refine (impl_in _ _ _ _).mono ?_; rintro e w' ⟨rfl, rfl⟩; first | rw [h1])
    go_ret
    exact ⟨ret_bool HF.out.symm, hbA⟩
  cases h2 : inB dn 0 1000
  · have HF := hide (BP.no HB.out (fun h => by have := h.2.1; simp only [inB, Bool.and_eq_false_iff, decide_eq_false_iff_not] at h2; omega))
    go_enter Tryd.func63, Tryd.ntmps63
    go_wp2_with (go_at_call 22; refine (impl_in _ _ _ _).mono ?_; rintro e w' ⟨rfl, rfl⟩; first | rw [h1] | rw [h2])
    go_ret
    exact ⟨ret_bool HF.out.symm, hbA⟩
  cases b3 with
  | false =>
    have HF := hide (BP.no HB.out (fun h => by have := HB3.out.2 h.2.2.1; cases this))
    go_enter Tryd.func63, Tryd.ntmps63
    go_wp2_with (first | (go_at_call 22; refine (impl_in _ _ _ _).mono ?_; rintro e w' ⟨rfl, rfl⟩; first | rw [h1] | rw [h2]) | (go_at_call 69; refine (impl_signals _ _ false _ HV.out.1 HS.out.1 HN.out.1 HB3.out).mono ?_; rintro e w' ⟨rfl, rfl⟩))
    go_ret
    exact ⟨ret_bool HF.out.symm, hbA⟩
  | true =>
  cases b4 with
  | false =>
    have HF := hide (BP.no HB.out (fun h => by have := HB4.out.2 h.2.2.2.1; cases this))
    go_enter Tryd.func63, Tryd.ntmps63
    go_wp2_with (first | (go_at_call 22; refine (impl_in _ _ _ _).mono ?_; rintro e w' ⟨rfl, rfl⟩; first | rw [h1] | rw [h2]) | (go_at_call 69; refine (impl_signals _ _ true _ HV.out.1 HS.out.1 HN.out.1 HB3.out).mono ?_; rintro e w' ⟨rfl, rfl⟩) | (go_at_call 70; refine (impl_timers _ _ false _ HV.out.2 HS.out.2 HN.out.2 HB4.out).mono ?_; rintro e w' ⟨rfl, rfl⟩))
    go_ret
    exact ⟨ret_bool HF.out.symm, hbA⟩
  | true =>
  have HG := hide (show (b = true ↔ ((st = 0 ∧ nx = 1 ∧ ca = false ∧ dn = 0 ∧ sg = [] ∧ tm = []) ∨ ((st = 1 ∨ st = 2) ∧ 1 < nx))) from by
    simp only [inB, Bool.and_eq_true, decide_eq_true_eq] at h1 h2
    exact ⟨fun h => (HB.out.1 h).2.2.2.2, fun h => HB.out.2 ⟨h1, h2, HB3.out.1 rfl, HB4.out.1 rfl, h⟩⟩)
  have no := fun (h : ¬ ((st = 0 ∧ nx = 1 ∧ ca = false ∧ dn = 0 ∧ sg = [] ∧ tm = []) ∨ ((st = 1 ∨ st = 2) ∧ 1 < nx))) => (show b = false by
    cases hbb : b with
    | false => rfl
    | true => exact absurd (HG.out.1 hbb) h)
  have NO := hide no
  clear no
  by_cases h5 : st = 0 ∨ st = 1 ∨ st = 2
  case neg =>
    have HF := hide (NO.out (fun h => by omega))
    have g0 : ¬ st = 0 := fun h => h5 (.inl h)
    have g1 : ¬ st = 1 := fun h => h5 (.inr (.inl h))
    have g2 : ¬ st = 2 := fun h => h5 (.inr (.inr h))
    clear h5
    go_enter Tryd.func63, Tryd.ntmps63
    go_wp2_with (first | (go_at_call 22; refine (impl_in _ _ _ _).mono ?_; rintro e w' ⟨rfl, rfl⟩; first | rw [h1] | rw [h2]) | (go_at_call 69; refine (impl_signals _ _ true _ HV.out.1 HS.out.1 HN.out.1 HB3.out).mono ?_; rintro e w' ⟨rfl, rfl⟩) | (go_at_call 70; refine (impl_timers _ _ true _ HV.out.2 HS.out.2 HN.out.2 HB4.out).mono ?_; rintro e w' ⟨rfl, rfl⟩))
    go_ret
    exact ⟨ret_bool HF.out.symm, hbA⟩
  by_cases h0 : st = 0
  · subst h0
    by_cases k1 : nx = 1
    case neg =>
      have HF := hide (NO.out (fun h => by rcases h with h | h <;> omega))
      go_enter Tryd.func63, Tryd.ntmps63
      go_wp2_with (first | (go_at_call 22; refine (impl_in _ _ _ _).mono ?_; rintro e w' ⟨rfl, rfl⟩; first | rw [h1] | rw [h2]) | (go_at_call 69; refine (impl_signals _ _ true _ HV.out.1 HS.out.1 HN.out.1 HB3.out).mono ?_; rintro e w' ⟨rfl, rfl⟩) | (go_at_call 70; refine (impl_timers _ _ true _ HV.out.2 HS.out.2 HN.out.2 HB4.out).mono ?_; rintro e w' ⟨rfl, rfl⟩))
      go_ret
      exact ⟨ret_bool HF.out.symm, hbA⟩
    subst k1
    cases ca with
    | true =>
      have HF := hide (NO.out (fun h => by rcases h with h | h <;> simp at h))
      go_enter Tryd.func63, Tryd.ntmps63
      go_wp2_with (first | (go_at_call 22; refine (impl_in _ _ _ _).mono ?_; rintro e w' ⟨rfl, rfl⟩; first | rw [h1] | rw [h2]) | (go_at_call 69; refine (impl_signals _ _ true _ HV.out.1 HS.out.1 HN.out.1 HB3.out).mono ?_; rintro e w' ⟨rfl, rfl⟩) | (go_at_call 70; refine (impl_timers _ _ true _ HV.out.2 HS.out.2 HN.out.2 HB4.out).mono ?_; rintro e w' ⟨rfl, rfl⟩))
      go_ret
      exact ⟨ret_bool HF.out.symm, hbA⟩
    | false =>
    by_cases k2 : dn = 0
    case neg =>
      have HF := hide (NO.out (fun h => by rcases h with h | h <;> omega))
      go_enter Tryd.func63, Tryd.ntmps63
      go_wp2_with (first | (go_at_call 22; refine (impl_in _ _ _ _).mono ?_; rintro e w' ⟨rfl, rfl⟩; first | rw [h1] | rw [h2]) | (go_at_call 69; refine (impl_signals _ _ true _ HV.out.1 HS.out.1 HN.out.1 HB3.out).mono ?_; rintro e w' ⟨rfl, rfl⟩) | (go_at_call 70; refine (impl_timers _ _ true _ HV.out.2 HS.out.2 HN.out.2 HB4.out).mono ?_; rintro e w' ⟨rfl, rfl⟩))
      go_ret
      exact ⟨ret_bool HF.out.symm, hbA⟩
    subst k2
    by_cases k3 : sg = []
    case neg =>
      have HF := hide (NO.out (fun h => by rcases h with h | h <;> simp [k3] at h))
      have k3' : ¬ (sg.length : Int) = 0 := by
        have := List.length_pos_iff.2 k3
        omega
      have k3n : ¬ sg.length = 0 := by omega
      clear k3
      go_enter Tryd.func63, Tryd.ntmps63
      go_wp2_with (first | (go_at_call 22; refine (impl_in _ _ _ _).mono ?_; rintro e w' ⟨rfl, rfl⟩; first | rw [h1] | rw [h2]) | (go_at_call 69; refine (impl_signals _ _ true _ HV.out.1 HS.out.1 HN.out.1 HB3.out).mono ?_; rintro e w' ⟨rfl, rfl⟩) | (go_at_call 70; refine (impl_timers _ _ true _ HV.out.2 HS.out.2 HN.out.2 HB4.out).mono ?_; rintro e w' ⟨rfl, rfl⟩))
      go_ret
      exact ⟨ret_bool HF.out.symm, hbA⟩
    subst k3
    by_cases k4 : tm = []
    case neg =>
      have HF := hide (NO.out (fun h => by rcases h with h | h <;> simp [k4] at h))
      have k4' : ¬ (tm.length : Int) = 0 := by
        have := List.length_pos_iff.2 k4
        omega
      have k4n : ¬ tm.length = 0 := by omega
      clear k4
      go_enter Tryd.func63, Tryd.ntmps63
      go_wp2_with (first | (go_at_call 22; refine (impl_in _ _ _ _).mono ?_; rintro e w' ⟨rfl, rfl⟩; first | rw [h1] | rw [h2]) | (go_at_call 69; refine (impl_signals _ _ true _ HV.out.1 HS.out.1 HN.out.1 HB3.out).mono ?_; rintro e w' ⟨rfl, rfl⟩) | (go_at_call 70; refine (impl_timers _ _ true _ HV.out.2 HS.out.2 HN.out.2 HB4.out).mono ?_; rintro e w' ⟨rfl, rfl⟩))
      go_ret
      exact ⟨ret_bool (by rw [HF.out, beq_eq_false_iff_ne]; exact k4'), hbA⟩
    subst k4
    have HF := hide (HG.out.2 (.inl ⟨rfl, rfl, rfl, rfl, rfl, rfl⟩))
    go_enter Tryd.func63, Tryd.ntmps63
    go_wp2_with (first | (go_at_call 22; refine (impl_in _ _ _ _).mono ?_; rintro e w' ⟨rfl, rfl⟩; first | rw [h1] | rw [h2]) | (go_at_call 69; refine (impl_signals _ _ true _ HV.out.1 HS.out.1 HN.out.1 HB3.out).mono ?_; rintro e w' ⟨rfl, rfl⟩) | (go_at_call 70; refine (impl_timers _ _ true _ HV.out.2 HS.out.2 HN.out.2 HB4.out).mono ?_; rintro e w' ⟨rfl, rfl⟩))
    go_ret
    exact ⟨ret_bool HF.out.symm, hbA⟩
  · have HF := hide (show b = decide (1 < nx) from by
      rw [Bool.eq_iff_iff, decide_eq_true_eq, HG.out]
      constructor
      · intro h; rcases h with h | h <;> omega
      · intro h; exact .inr ⟨by omega, h⟩)
    have h5' : st = 1 ∨ st = 2 := by omega
    clear h5
    by_cases h9 : 1 < nx
    · have h9' : nx > 1 := h9
      rcases h5' with rfl | rfl
      · go_enter Tryd.func63, Tryd.ntmps63
        go_wp2_with (first | (go_at_call 22; refine (impl_in _ _ _ _).mono ?_; rintro e w' ⟨rfl, rfl⟩; first | rw [h1] | rw [h2]) | (go_at_call 69; refine (impl_signals _ _ true _ HV.out.1 HS.out.1 HN.out.1 HB3.out).mono ?_; rintro e w' ⟨rfl, rfl⟩) | (go_at_call 70; refine (impl_timers _ _ true _ HV.out.2 HS.out.2 HN.out.2 HB4.out).mono ?_; rintro e w' ⟨rfl, rfl⟩))
        go_ret
        exact ⟨ret_bool (by rw [HF.out, decide_eq_true (by omega)]), hbA⟩
      · go_enter Tryd.func63, Tryd.ntmps63
        go_wp2_with (first | (go_at_call 22; refine (impl_in _ _ _ _).mono ?_; rintro e w' ⟨rfl, rfl⟩; first | rw [h1] | rw [h2]) | (go_at_call 69; refine (impl_signals _ _ true _ HV.out.1 HS.out.1 HN.out.1 HB3.out).mono ?_; rintro e w' ⟨rfl, rfl⟩) | (go_at_call 70; refine (impl_timers _ _ true _ HV.out.2 HS.out.2 HN.out.2 HB4.out).mono ?_; rintro e w' ⟨rfl, rfl⟩))
        go_ret
        exact ⟨ret_bool (by rw [HF.out, decide_eq_true (by omega)]), hbA⟩
    · have h9' : ¬ nx > 1 := h9
      rcases h5' with rfl | rfl
      · go_enter Tryd.func63, Tryd.ntmps63
        go_wp2_with (first | (go_at_call 22; refine (impl_in _ _ _ _).mono ?_; rintro e w' ⟨rfl, rfl⟩; first | rw [h1] | rw [h2]) | (go_at_call 69; refine (impl_signals _ _ true _ HV.out.1 HS.out.1 HN.out.1 HB3.out).mono ?_; rintro e w' ⟨rfl, rfl⟩) | (go_at_call 70; refine (impl_timers _ _ true _ HV.out.2 HS.out.2 HN.out.2 HB4.out).mono ?_; rintro e w' ⟨rfl, rfl⟩))
        go_ret
        exact ⟨ret_bool (by rw [HF.out, decide_eq_false (by omega)]), hbA⟩
      · go_enter Tryd.func63, Tryd.ntmps63
        go_wp2_with (first | (go_at_call 22; refine (impl_in _ _ _ _).mono ?_; rintro e w' ⟨rfl, rfl⟩; first | rw [h1] | rw [h2]) | (go_at_call 69; refine (impl_signals _ _ true _ HV.out.1 HS.out.1 HN.out.1 HB3.out).mono ?_; rintro e w' ⟨rfl, rfl⟩) | (go_at_call 70; refine (impl_timers _ _ true _ HV.out.2 HS.out.2 HN.out.2 HB4.out).mono ?_; rintro e w' ⟨rfl, rfl⟩))
        go_ret
        exact ⟨ret_bool (by rw [HF.out, decide_eq_false (by omega)]), hbA⟩
set_option maxRecDepth 20000 in
set_option maxHeartbeats 4000000 in
theorem spec_goodSt (v0 v1 : Value) (s : St) (b : Bool) (w : World) (hv : StC w v0 v1 s) (hs : ShortT s) (hn : NmT s) (hb : BP b (GoodSt s)) :
    Calls Tryd.prog 57 #[stv v0 v1 s] w fun e w' => e = .returned (.bool b) ∧ Below w.heap.size w w' := by
  obtain ⟨st, nx, ca, dn, sg, tm⟩ := s
  obtain ⟨a0, c0, rfl⟩ := hv.1.1.form
  obtain ⟨a1, c1, rfl⟩ := hv.2.1.form
  have hbA := (Below.refl w.heap.size w).alloc (Nat.le_refl _) (.cells #[.int .i64 st, .int .i64 nx, .bool ca, .int .i64 dn, .slice a0 sg.length c0, .slice a1 tm.length c1] 73)
  have HV := hide (show TxC _ (.slice a0 sg.length c0) sg ∧ TxC _ (.slice a1 tm.length c1) tm from hv.below hbA)
  have HS := hide (show sg.length ≤ 1048576 ∧ tm.length ≤ 1048576 from hs)
  have HN := hide (show (∀ x ∈ sg, x.size ≤ maxLen) ∧ ∀ x ∈ tm, x.size ≤ maxLen from hn)
  have HB := hide (show b = true ↔ ((1 ≤ nx ∧ nx ≤ 1001) ∧ (0 ≤ dn ∧ dn ≤ 1000) ∧ Nms false sg ∧ Nms true tm ∧ ((st = 0 ∧ nx = 1 ∧ ca = false ∧ dn = 0 ∧ sg = [] ∧ tm = []) ∨ ((st = 1 ∨ st = 2) ∧ 1 < nx))) from hb)
  clear hv hs hn hb
  obtain ⟨b3, hb3⟩ := bp_ex (Nms false sg)
  obtain ⟨b4, hb4⟩ := bp_ex (Nms true tm)
  have HB3 := hide hb3
  have HB4 := hide hb4
  clear hb3 hb4
  cases h1 : inB nx 1 1001
  · have HF := hide (BP.no HB.out (fun h => by have := h.1; simp only [inB, Bool.and_eq_false_iff, decide_eq_false_iff_not] at h1; omega))
    go_enter Tryd.func57, Tryd.ntmps57
    go_wp2_with (go_at_call 10; refine (spec_in _ _ _ _).mono ?_; rintro e w' ⟨rfl, rfl⟩; first | rw [h1])
    go_ret
    exact ⟨ret_bool HF.out.symm, hbA⟩
  cases h2 : inB dn 0 1000
  · have HF := hide (BP.no HB.out (fun h => by have := h.2.1; simp only [inB, Bool.and_eq_false_iff, decide_eq_false_iff_not] at h2; omega))
    go_enter Tryd.func57, Tryd.ntmps57
    go_wp2_with (go_at_call 10; refine (spec_in _ _ _ _).mono ?_; rintro e w' ⟨rfl, rfl⟩; first | rw [h1] | rw [h2])
    go_ret
    exact ⟨ret_bool HF.out.symm, hbA⟩
  cases b3 with
  | false =>
    have HF := hide (BP.no HB.out (fun h => by have := HB3.out.2 h.2.2.1; cases this))
    go_enter Tryd.func57, Tryd.ntmps57
    go_wp2_with (first | (go_at_call 10; refine (spec_in _ _ _ _).mono ?_; rintro e w' ⟨rfl, rfl⟩; first | rw [h1] | rw [h2]) | (go_at_call_of 62 (Value.bool false); refine (spec_names false _ _ false _ HV.out.1 HS.out.1 HN.out.1 HB3.out).mono ?_; rintro e w' ⟨rfl, rfl⟩))
    go_ret
    exact ⟨ret_bool HF.out.symm, hbA⟩
  | true =>
  cases b4 with
  | false =>
    have HF := hide (BP.no HB.out (fun h => by have := HB4.out.2 h.2.2.2.1; cases this))
    go_enter Tryd.func57, Tryd.ntmps57
    go_wp2_with (first | (go_at_call 10; refine (spec_in _ _ _ _).mono ?_; rintro e w' ⟨rfl, rfl⟩; first | rw [h1] | rw [h2]) | (go_at_call_of 62 (Value.bool false); refine (spec_names false _ _ true _ HV.out.1 HS.out.1 HN.out.1 HB3.out).mono ?_; rintro e w' ⟨rfl, rfl⟩) | (go_at_call_of 62 (Value.bool true); refine (spec_names true _ _ false _ HV.out.2 HS.out.2 HN.out.2 HB4.out).mono ?_; rintro e w' ⟨rfl, rfl⟩))
    go_ret
    exact ⟨ret_bool HF.out.symm, hbA⟩
  | true =>
  have HG := hide (show (b = true ↔ ((st = 0 ∧ nx = 1 ∧ ca = false ∧ dn = 0 ∧ sg = [] ∧ tm = []) ∨ ((st = 1 ∨ st = 2) ∧ 1 < nx))) from by
    simp only [inB, Bool.and_eq_true, decide_eq_true_eq] at h1 h2
    exact ⟨fun h => (HB.out.1 h).2.2.2.2, fun h => HB.out.2 ⟨h1, h2, HB3.out.1 rfl, HB4.out.1 rfl, h⟩⟩)
  have no := fun (h : ¬ ((st = 0 ∧ nx = 1 ∧ ca = false ∧ dn = 0 ∧ sg = [] ∧ tm = []) ∨ ((st = 1 ∨ st = 2) ∧ 1 < nx))) => (show b = false by
    cases hbb : b with
    | false => rfl
    | true => exact absurd (HG.out.1 hbb) h)
  have NO := hide no
  clear no
  cases h5 : inB st 0 2
  · have HF := hide (NO.out (fun h => by simp only [inB, Bool.and_eq_false_iff, decide_eq_false_iff_not] at h5; rcases h with h | h <;> omega))
    go_enter Tryd.func57, Tryd.ntmps57
    go_wp2_with (first | (go_at_call 10; refine (spec_in _ _ _ _).mono ?_; rintro e w' ⟨rfl, rfl⟩; first | rw [h1] | rw [h2] | rw [h5]) | (go_at_call_of 62 (Value.bool false); refine (spec_names false _ _ true _ HV.out.1 HS.out.1 HN.out.1 HB3.out).mono ?_; rintro e w' ⟨rfl, rfl⟩) | (go_at_call_of 62 (Value.bool true); refine (spec_names true _ _ true _ HV.out.2 HS.out.2 HN.out.2 HB4.out).mono ?_; rintro e w' ⟨rfl, rfl⟩))
    go_ret
    exact ⟨ret_bool HF.out.symm, hbA⟩
  by_cases h0 : st = 0
  · subst h0
    by_cases k1 : nx = 1
    case neg =>
      have HF := hide (NO.out (fun h => by rcases h with h | h <;> omega))
      go_enter Tryd.func57, Tryd.ntmps57
      go_wp2_with (first | (go_at_call 10; refine (spec_in _ _ _ _).mono ?_; rintro e w' ⟨rfl, rfl⟩; first | rw [h1] | rw [h2] | rw [h5]) | (go_at_call_of 62 (Value.bool false); refine (spec_names false _ _ true _ HV.out.1 HS.out.1 HN.out.1 HB3.out).mono ?_; rintro e w' ⟨rfl, rfl⟩) | (go_at_call_of 62 (Value.bool true); refine (spec_names true _ _ true _ HV.out.2 HS.out.2 HN.out.2 HB4.out).mono ?_; rintro e w' ⟨rfl, rfl⟩))
      go_ret
      exact ⟨ret_bool HF.out.symm, hbA⟩
    subst k1
    cases ca with
    | true =>
      have HF := hide (NO.out (fun h => by rcases h with h | h <;> simp at h))
      go_enter Tryd.func57, Tryd.ntmps57
      go_wp2_with (first | (go_at_call 10; refine (spec_in _ _ _ _).mono ?_; rintro e w' ⟨rfl, rfl⟩; first | rw [h1] | rw [h2] | rw [h5]) | (go_at_call_of 62 (Value.bool false); refine (spec_names false _ _ true _ HV.out.1 HS.out.1 HN.out.1 HB3.out).mono ?_; rintro e w' ⟨rfl, rfl⟩) | (go_at_call_of 62 (Value.bool true); refine (spec_names true _ _ true _ HV.out.2 HS.out.2 HN.out.2 HB4.out).mono ?_; rintro e w' ⟨rfl, rfl⟩))
      go_ret
      exact ⟨ret_bool HF.out.symm, hbA⟩
    | false =>
    by_cases k2 : dn = 0
    case neg =>
      have HF := hide (NO.out (fun h => by rcases h with h | h <;> omega))
      go_enter Tryd.func57, Tryd.ntmps57
      go_wp2_with (first | (go_at_call 10; refine (spec_in _ _ _ _).mono ?_; rintro e w' ⟨rfl, rfl⟩; first | rw [h1] | rw [h2] | rw [h5]) | (go_at_call_of 62 (Value.bool false); refine (spec_names false _ _ true _ HV.out.1 HS.out.1 HN.out.1 HB3.out).mono ?_; rintro e w' ⟨rfl, rfl⟩) | (go_at_call_of 62 (Value.bool true); refine (spec_names true _ _ true _ HV.out.2 HS.out.2 HN.out.2 HB4.out).mono ?_; rintro e w' ⟨rfl, rfl⟩))
      go_ret
      exact ⟨ret_bool HF.out.symm, hbA⟩
    subst k2
    by_cases k3 : sg = []
    case neg =>
      have HF := hide (NO.out (fun h => by rcases h with h | h <;> simp [k3] at h))
      have k3' : ¬ (sg.length : Int) = 0 := by
        have := List.length_pos_iff.2 k3
        omega
      have k3n : ¬ sg.length = 0 := by omega
      clear k3
      go_enter Tryd.func57, Tryd.ntmps57
      go_wp2_with (first | (go_at_call 10; refine (spec_in _ _ _ _).mono ?_; rintro e w' ⟨rfl, rfl⟩; first | rw [h1] | rw [h2] | rw [h5]) | (go_at_call_of 62 (Value.bool false); refine (spec_names false _ _ true _ HV.out.1 HS.out.1 HN.out.1 HB3.out).mono ?_; rintro e w' ⟨rfl, rfl⟩) | (go_at_call_of 62 (Value.bool true); refine (spec_names true _ _ true _ HV.out.2 HS.out.2 HN.out.2 HB4.out).mono ?_; rintro e w' ⟨rfl, rfl⟩))
      go_ret
      exact ⟨ret_bool HF.out.symm, hbA⟩
    subst k3
    by_cases k4 : tm = []
    case neg =>
      have HF := hide (NO.out (fun h => by rcases h with h | h <;> simp [k4] at h))
      have k4' : ¬ (tm.length : Int) = 0 := by
        have := List.length_pos_iff.2 k4
        omega
      have k4n : ¬ tm.length = 0 := by omega
      clear k4
      go_enter Tryd.func57, Tryd.ntmps57
      go_wp2_with (first | (go_at_call 10; refine (spec_in _ _ _ _).mono ?_; rintro e w' ⟨rfl, rfl⟩; first | rw [h1] | rw [h2] | rw [h5]) | (go_at_call_of 62 (Value.bool false); refine (spec_names false _ _ true _ HV.out.1 HS.out.1 HN.out.1 HB3.out).mono ?_; rintro e w' ⟨rfl, rfl⟩) | (go_at_call_of 62 (Value.bool true); refine (spec_names true _ _ true _ HV.out.2 HS.out.2 HN.out.2 HB4.out).mono ?_; rintro e w' ⟨rfl, rfl⟩))
      go_ret
      exact ⟨ret_bool (by rw [HF.out, beq_eq_false_iff_ne]; exact k4'), hbA⟩
    subst k4
    have HF := hide (HG.out.2 (.inl ⟨rfl, rfl, rfl, rfl, rfl, rfl⟩))
    go_enter Tryd.func57, Tryd.ntmps57
    go_wp2_with (first | (go_at_call 10; refine (spec_in _ _ _ _).mono ?_; rintro e w' ⟨rfl, rfl⟩; first | rw [h1] | rw [h2] | rw [h5]) | (go_at_call_of 62 (Value.bool false); refine (spec_names false _ _ true _ HV.out.1 HS.out.1 HN.out.1 HB3.out).mono ?_; rintro e w' ⟨rfl, rfl⟩) | (go_at_call_of 62 (Value.bool true); refine (spec_names true _ _ true _ HV.out.2 HS.out.2 HN.out.2 HB4.out).mono ?_; rintro e w' ⟨rfl, rfl⟩))
    go_ret
    exact ⟨ret_bool HF.out.symm, hbA⟩
  · have HF := hide (show b = decide (1 < nx) from by
      rw [Bool.eq_iff_iff, decide_eq_true_eq, HG.out]
      simp only [inB, Bool.and_eq_true, decide_eq_true_eq] at h5
      constructor
      · intro h; rcases h with h | h <;> omega
      · intro h; exact .inr ⟨by omega, h⟩)
    go_enter Tryd.func57, Tryd.ntmps57
    by_cases h9 : 1 < nx
    · have h9' : nx > 1 := h9
      go_wp2_with (first | (go_at_call 10; refine (spec_in _ _ _ _).mono ?_; rintro e w' ⟨rfl, rfl⟩; first | rw [h1] | rw [h2] | rw [h5]) | (go_at_call_of 62 (Value.bool false); refine (spec_names false _ _ true _ HV.out.1 HS.out.1 HN.out.1 HB3.out).mono ?_; rintro e w' ⟨rfl, rfl⟩) | (go_at_call_of 62 (Value.bool true); refine (spec_names true _ _ true _ HV.out.2 HS.out.2 HN.out.2 HB4.out).mono ?_; rintro e w' ⟨rfl, rfl⟩))
      all_goals (go_ret; exact ⟨ret_bool (by rw [HF.out, decide_eq_true (by omega)]), hbA⟩)
    · have h9' : ¬ nx > 1 := h9
      go_wp2_with (first | (go_at_call 10; refine (spec_in _ _ _ _).mono ?_; rintro e w' ⟨rfl, rfl⟩; first | rw [h1] | rw [h2] | rw [h5]) | (go_at_call_of 62 (Value.bool false); refine (spec_names false _ _ true _ HV.out.1 HS.out.1 HN.out.1 HB3.out).mono ?_; rintro e w' ⟨rfl, rfl⟩) | (go_at_call_of 62 (Value.bool true); refine (spec_names true _ _ true _ HV.out.2 HS.out.2 HN.out.2 HB4.out).mono ?_; rintro e w' ⟨rfl, rfl⟩))
      all_goals (go_ret; exact ⟨ret_bool (by rw [HF.out, decide_eq_false (by omega)]), hbA⟩)
end Go.Proofs.YtfkeokglifpkoaaDoor

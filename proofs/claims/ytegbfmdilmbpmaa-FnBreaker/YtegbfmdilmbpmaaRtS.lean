/-
  What a breaker does in each of its states, in the program's text: functions in the fields of a struct; what a call makes of it.
-/
import Derived.Test.YtegbfmdilmbpmaaRtG
import Derived.Laws.EntriesVeiled
namespace Go.Proofs.Ytegbfmdilmbpmaa
open Go.RowKit M
open Clk (upd upd_same upd_other)
namespace M
abbrev fnv (n : Nat) : Value := .func (.func n) #[] #[]
end M
set_option maxHeartbeats 1000000 in
theorem state_is (x : Br) (F G : Nat) (w : World) (h : (x.s = 1 ∧ F = 65 ∧ G = 66) ∨ (x.s = 2 ∧ F = 67 ∧ G = 66) ∨ (x.s = 0 ∧ F = 67 ∧ G = 68)) :
    Calls Try.prog 59 #[.agg #[.int .i64 x.l, .int .i64 x.c, .int .i64 x.s, .int .i64 x.k, .int .i64 x.o]] w fun e w' => e = .returned (.agg #[.func (.func F) #[] #[], .func (.func G) #[] #[]]) ∧ Below w.heap.size w w' := by
  obtain ⟨l, c, s, k, o⟩ := x
  simp only at h ⊢
  have hbw := fun v => ((Below.refl w.heap.size w).alloc (Nat.le_refl _) (.cells #[.int .i64 l, .int .i64 c, .int .i64 s, .int .i64 k, .int .i64 o] 37)).alloc (by simp) (.cells v 86)
  rcases h with ⟨rfl, rfl, rfl⟩ | ⟨rfl, rfl, rfl⟩ | ⟨rfl, rfl, rfl⟩
  · go_enter Try.func59, Try.ntmps59
    go_wp2
    exact bodyPost_ret (v := .agg #[fnv 65, fnv 66]) (by simp [results, Try.results59, go_sem]) rfl ⟨rfl, hbw _⟩
  · go_enter Try.func59, Try.ntmps59
    go_wp2
    exact bodyPost_ret (v := .agg #[fnv 67, fnv 66]) (by simp [results, Try.results59, go_sem]) rfl ⟨rfl, hbw _⟩
  · go_enter Try.func59, Try.ntmps59
    go_wp2
    exact bodyPost_ret (v := .agg #[fnv 67, fnv 68]) (by simp [results, Try.results59, go_sem]) rfl ⟨rfl, hbw _⟩
set_option maxHeartbeats 1000000 in
theorem cooled_is (x : Br) (n : Int) (b : Bool) (w : World) (h0 : 0 ≤ x.o + x.c) (h1 : x.o + x.c ≤ 10000000) (hb : decide (x.o + x.c ≤ n) = b) :
    Calls Try.prog 65 #[.agg #[.int .i64 x.l, .int .i64 x.c, .int .i64 x.s, .int .i64 x.k, .int .i64 x.o], .int .i64 n] w fun e w' => e = .returned (.bool b) ∧ Below w.heap.size w w' := by
  have hbw := (Below.refl w.heap.size w).alloc (Nat.le_refl _) (.cells #[.int .i64 x.l, .int .i64 x.c, .int .i64 x.s, .int .i64 x.k, .int .i64 x.o] 37)
  subst hb
  by_cases h : x.o + x.c ≤ n
  · have HE := hide (decide_eq_true h)
    go_enter Try.func65, Try.ntmps65
    go_wp2
    go_ret
    exact ⟨ret_bool (by first | exact HE.out.symm | rfl | (simp; omega)), hbw⟩
  · have HE := hide (decide_eq_false h)
    go_enter Try.func65, Try.ntmps65
    go_wp2
    go_ret
    exact ⟨ret_bool (by first | exact HE.out.symm | rfl | (simp; omega)), hbw⟩
set_option maxHeartbeats 1000000 in
theorem letsAll_is (x : Br) (n : Int) (w : World) :
    Calls Try.prog 67 #[.agg #[.int .i64 x.l, .int .i64 x.c, .int .i64 x.s, .int .i64 x.k, .int .i64 x.o], .int .i64 n] w fun e w' => e = .returned (.bool true) ∧ Below w.heap.size w w' := by
  have hbw := (Below.refl w.heap.size w).alloc (Nat.le_refl _) (.cells #[.int .i64 x.l, .int .i64 x.c, .int .i64 x.s, .int .i64 x.k, .int .i64 x.o] 37)
  go_enter Try.func67, Try.ntmps67
  go_wp2
  go_ret
  exact ⟨rfl, hbw⟩
set_option maxHeartbeats 1000000 in
theorem open_is (x : Br) (n : Int) (w : World) :
    Calls Try.prog 66 #[.agg #[.int .i64 x.l, .int .i64 x.c, .int .i64 x.s, .int .i64 x.k, .int .i64 x.o], .int .i64 n] w fun e w' => e = .returned (.agg #[.int .i64 x.l, .int .i64 x.c, .int .i64 1, .int .i64 x.k, .int .i64 n]) ∧ Below w.heap.size w w' := by
  have hbw := ((Below.refl w.heap.size w).alloc (Nat.le_refl _) (.cells #[.int .i64 x.l, .int .i64 x.c, .int .i64 1, .int .i64 x.k, .int .i64 n] 37)).alloc (by simp) (.cells #[.int .i64 x.l, .int .i64 x.c, .int .i64 1, .int .i64 x.k, .int .i64 n] 37)
  go_enter Try.func66, Try.ntmps66
  go_wp2
  exact bodyPost_ret (v := .agg #[.int .i64 x.l, .int .i64 x.c, .int .i64 1, .int .i64 x.k, .int .i64 n]) (by simp [results, Try.results66, go_sem]) rfl ⟨rfl, hbw⟩
set_option maxHeartbeats 2000000 in
theorem count_is (x : Br) (n : Int) (w : World) (hs : x.s = 0) (h0 : 0 ≤ x.k) (h1 : x.k ≤ 20) :
    Calls Try.prog 68 #[.agg #[.int .i64 x.l, .int .i64 x.c, .int .i64 x.s, .int .i64 x.k, .int .i64 x.o], .int .i64 n] w fun e w' => e = .returned (brv (flr x n)) ∧ Below w.heap.size w w' := by
  obtain ⟨l, c, s, k, o⟩ := x
  simp only at hs h0 h1 ⊢
  subst hs
  by_cases h : k + 1 = l
  · have HE := hide (show flr ⟨l, c, 0, k, o⟩ n = ⟨l, c, 1, l, n⟩ by unfold flr; rw [if_pos rfl, if_pos h]; simp only [h])
    have HK := hide h
    have hk : (k + 1 == l) = true := by simp [h]
    have hb0 := ((Below.refl w.heap.size w).alloc (Nat.le_refl _) (.cells #[.int .i64 l, .int .i64 c, .int .i64 0, .int .i64 (k + 1), .int .i64 o] 37)).alloc (by simp) (.cells #[.int .i64 0, .int .i64 0, .int .i64 0, .int .i64 0, .int .i64 0] 37)
    have HN := hide (new5 (w.alloc (.cells #[.int .i64 l, .int .i64 c, .int .i64 0, .int .i64 (k + 1), .int .i64 o] 37)) (.int .i64 0) (.int .i64 0) (.int .i64 0) (.int .i64 0) (.int .i64 0) 37)
    rw [World.size_alloc] at HN
    clear h
    go_enter Try.func68, Try.ntmps68
    go_wp2_with fail
    refine (open_is ⟨l, c, 0, k + 1, o⟩ n _).mono ?_
    rintro e w2 ⟨rfl, hb⟩
    have hb2 := hb0.trans (hb.mono hb0.size)
    have hN2 := HN.out.down hb
    obtain ⟨⟨e0, e1, e2, e3, e4⟩, t0, t1, t2, t3, t4⟩ := hN2.five
    obtain ⟨WZ, hWZ⟩ : ∃ WZ, ((((w2.setCell ⟨w.heap.size + 1, 0, none⟩ (.int .i64 l)).setCell ⟨w.heap.size + 1, 1, none⟩ (.int .i64 c)).setCell ⟨w.heap.size + 1, 2, none⟩ (.int .i64 1)).setCell ⟨w.heap.size + 1, 3, none⟩ (.int .i64 (k + 1))).setCell ⟨w.heap.size + 1, 4, none⟩ (.int .i64 n) = WZ := ⟨_, rfl⟩
    have HZ := hide (put5 hN2 hb2 (by omega) _ _ _ _ _ WZ hWZ)
    have HWZ := hide hWZ
    clear hWZ hN2 hb2 hb hb0 HN
    go_wp2
    rw [HWZ.out]
    clear e0 e1 e2 e3 e4 t0 t1 t2 t3 t4
    obtain ⟨⟨e0, e1, e2, e3, e4⟩, -⟩ := HZ.out.1.five
    exact bodyPost_ret (v := .agg #[.int .i64 l, .int .i64 c, .int .i64 1, .int .i64 (k + 1), .int .i64 n]) (by simp [results, Try.results68, go_sem, e0, e1, e2, e3, e4]) rfl ⟨by rw [HE.out, HK.out], HZ.out.2⟩
  · have HE := hide (show flr ⟨l, c, 0, k, o⟩ n = ⟨l, c, 0, k + 1, o⟩ by unfold flr; rw [if_pos rfl, if_neg h])
    have hk : (k + 1 == l) = false := by simp [h]
    have hb0 := ((Below.refl w.heap.size w).alloc (Nat.le_refl _) (.cells #[.int .i64 l, .int .i64 c, .int .i64 0, .int .i64 (k + 1), .int .i64 o] 37)).alloc (by simp) (.cells #[.int .i64 l, .int .i64 c, .int .i64 0, .int .i64 (k + 1), .int .i64 o] 37)
    clear h
    go_enter Try.func68, Try.ntmps68
    go_wp2
    exact bodyPost_ret (v := .agg #[.int .i64 l, .int .i64 c, .int .i64 0, .int .i64 (k + 1), .int .i64 o]) (by simp [results, Try.results68, go_sem]) rfl ⟨by rw [HE.out], hb0⟩
end Go.Proofs.Ytegbfmdilmbpmaa

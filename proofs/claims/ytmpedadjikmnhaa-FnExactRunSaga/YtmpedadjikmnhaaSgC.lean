/-
  The small functions of both texts: numbers and moves within bounds, the move back, copies.
-/
import Derived.Test.YtmpedadjikmnhaaSgB
import Derived.Deep.AppendLies
import Derived.Lib.SliceRun
namespace Go.Proofs.Ytmpedadjikmnhaa
open Go.RowKit M
open Clk (upd upd_same upd_other)
open Go.Sort (grow)
theorem ret_bool {a b : Bool} (h : a = b) : Ending.returned (.bool a) = Ending.returned (.bool b) := by rw [h]
theorem within_is (n lo hi : Int) (w : World) :
    Calls Try.prog 53 #[.int .i64 n, .int .i64 lo, .int .i64 hi] w fun e w' => e = .returned (.bool (decide (lo ≤ n ∧ n ≤ hi))) ∧ w' = w := by
  by_cases h1 : lo ≤ n
  · by_cases h2 : n ≤ hi
    · go_enter Try.func53, Try.ntmps53
      go_wp2
      go_ret
      exact ⟨ret_bool (by rw [Bool.eq_iff_iff]; first | (simp; done) | (simp; omega)), rfl⟩
    · go_enter Try.func53, Try.ntmps53
      go_wp2
      go_ret
      exact ⟨ret_bool (by rw [Bool.eq_iff_iff]; first | (simp; done) | (simp; omega)), rfl⟩
  · go_enter Try.func53, Try.ntmps53
    go_wp2
    go_ret
    exact ⟨ret_bool (by rw [Bool.eq_iff_iff]; first | (simp; done) | (simp; omega)), rfl⟩
theorem within_to (n lo hi : Int) (b : Bool) (w : World) (h : decide (lo ≤ n ∧ n ≤ hi) = b) :
    Calls Try.prog 53 #[.int .i64 n, .int .i64 lo, .int .i64 hi] w fun e w' => e = .returned (.bool b) ∧ w' = w := by
  subst h; exact within_is n lo hi w
theorem l1in_is (n lo hi : Int) (w : World) :
    Calls Try.prog 47 #[.int .i64 n, .int .i64 lo, .int .i64 hi] w fun e w' => e = .returned (.bool (decide (lo ≤ n ∧ n ≤ hi))) ∧ w' = w := by
  by_cases h1 : lo ≤ n
  · by_cases h2 : n ≤ hi
    · go_enter Try.func47, Try.ntmps47
      go_wp2
      go_ret
      exact ⟨ret_bool (by rw [Bool.eq_iff_iff]; first | (simp; done) | (simp; omega)), rfl⟩
    · go_enter Try.func47, Try.ntmps47
      go_wp2
      go_ret
      exact ⟨ret_bool (by rw [Bool.eq_iff_iff]; first | (simp; done) | (simp; omega)), rfl⟩
  · go_enter Try.func47, Try.ntmps47
    go_wp2
    go_ret
    exact ⟨ret_bool (by rw [Bool.eq_iff_iff]; first | (simp; done) | (simp; omega)), rfl⟩
theorem l1in_to (n lo hi : Int) (b : Bool) (w : World) (h : decide (lo ≤ n ∧ n ≤ hi) = b) :
    Calls Try.prog 47 #[.int .i64 n, .int .i64 lo, .int .i64 hi] w fun e w' => e = .returned (.bool b) ∧ w' = w := by
  subst h; exact l1in_is n lo hi w
set_option maxHeartbeats 1000000 in
theorem goodMove_to (m : Mv) (z : Int) (b : Bool) (w : World) (hz0 : 0 ≤ z) (hz1 : z ≤ 1048576) (hb : decide (GMz z m) = b) :
    Calls Try.prog 62 #[.agg #[.int .i64 m.f, .int .i64 m.t, .int .i64 m.m], .int .i64 z] w fun e w' => e = .returned (.bool b) ∧ Below w.heap.size w w' := by
  have hbw := (Below.refl w.heap.size w).alloc (Nat.le_refl _) (.cells #[.int .i64 m.f, .int .i64 m.t, .int .i64 m.m] 55)
  obtain ⟨f, t, n⟩ := m
  simp only at hbw ⊢
  obtain ⟨b0, hb0⟩ : ∃ x, decide (0 ≤ f ∧ f ≤ z - 1) = x := ⟨_, rfl⟩
  obtain ⟨b1, hb1⟩ : ∃ x, decide (0 ≤ t ∧ t ≤ z - 1) = x := ⟨_, rfl⟩
  obtain ⟨b2, hb2⟩ : ∃ x, (f != t) = x := ⟨_, rfl⟩
  obtain ⟨b3, hb3⟩ : ∃ x, decide (1 ≤ n ∧ n ≤ 1000) = x := ⟨_, rfl⟩
  have eb : b = (b0 && (b1 && (b2 && b3))) := by rw [← hb, ← hb0, ← hb1, ← hb2, ← hb3, Bool.eq_iff_iff]; simp only [Bool.and_eq_true, decide_eq_true_eq, bne_iff_ne]; exact Iff.rfl
  have B0 := hide hb0
  have B1 := hide hb1
  have B3 := hide hb3
  subst eb
  clear hb hb0 hb1 hb3
  go_enter Try.func62, Try.ntmps62
  go_wp2_with fail
  refine (within_to _ _ _ b0 _ B0.out).mono ?_
  rintro e w1 ⟨rfl, rfl⟩
  cases b0 with
  | false =>
    clear B0 B1 B3 hb2
    go_wp2
    go_ret
    exact ⟨rfl, hbw⟩
  | true =>
    go_wp2_with fail
    refine (within_to _ _ _ b1 _ B1.out).mono ?_
    rintro e w2 ⟨rfl, rfl⟩
    cases b1 with
    | false =>
      clear B0 B1 B3 hb2
      go_wp2
      go_ret
      exact ⟨rfl, hbw⟩
    | true =>
      rcases Bool.eq_false_or_eq_true b2 with h2 | h2
      · rw [h2] at hb2
        have HB := hide h2
        clear h2
        go_wp2_with fail
        refine (within_to _ _ _ b3 _ B3.out).mono ?_
        rintro e w3 ⟨rfl, rfl⟩
        clear B0 B1 B3
        go_wp2
        go_ret
        exact ⟨by rw [HB.out]; rfl, hbw⟩
      · rw [h2] at hb2
        have HB := hide h2
        clear h2
        clear B0 B1 B3
        go_wp2
        go_ret
        exact ⟨by rw [HB.out]; rfl, hbw⟩
set_option maxHeartbeats 1000000 in
theorem l9Move_to (m : Mv) (z : Int) (b : Bool) (w : World) (hz0 : 0 ≤ z) (hz1 : z ≤ 1048576) (hb : decide (GMz z m) = b) :
    Calls Try.prog 48 #[.agg #[.int .i64 m.f, .int .i64 m.t, .int .i64 m.m], .int .i64 z] w fun e w' => e = .returned (.bool b) ∧ Below w.heap.size w w' := by
  have hbw := (Below.refl w.heap.size w).alloc (Nat.le_refl _) (.cells #[.int .i64 m.f, .int .i64 m.t, .int .i64 m.m] 55)
  obtain ⟨f, t, n⟩ := m
  simp only at hbw ⊢
  obtain ⟨b0, hb0⟩ : ∃ x, decide (0 ≤ f ∧ f ≤ z - 1) = x := ⟨_, rfl⟩
  obtain ⟨b1, hb1⟩ : ∃ x, decide (0 ≤ t ∧ t ≤ z - 1) = x := ⟨_, rfl⟩
  obtain ⟨b2, hb2⟩ : ∃ x, (f != t) = x := ⟨_, rfl⟩
  obtain ⟨b3, hb3⟩ : ∃ x, decide (1 ≤ n ∧ n ≤ 1000) = x := ⟨_, rfl⟩
  have eb : b = (b0 && (b1 && (b2 && b3))) := by rw [← hb, ← hb0, ← hb1, ← hb2, ← hb3, Bool.eq_iff_iff]; simp only [Bool.and_eq_true, decide_eq_true_eq, bne_iff_ne]; exact Iff.rfl
  have B0 := hide hb0
  have B1 := hide hb1
  have B3 := hide hb3
  subst eb
  clear hb hb0 hb1 hb3
  go_enter Try.func48, Try.ntmps48
  go_wp2_with fail
  refine (l1in_to _ _ _ b0 _ B0.out).mono ?_
  rintro e w1 ⟨rfl, rfl⟩
  cases b0 with
  | false =>
    clear B0 B1 B3 hb2
    go_wp2
    go_ret
    exact ⟨rfl, hbw⟩
  | true =>
    go_wp2_with fail
    refine (l1in_to _ _ _ b1 _ B1.out).mono ?_
    rintro e w2 ⟨rfl, rfl⟩
    cases b1 with
    | false =>
      clear B0 B1 B3 hb2
      go_wp2
      go_ret
      exact ⟨rfl, hbw⟩
    | true =>
      rcases Bool.eq_false_or_eq_true b2 with h2 | h2
      · rw [h2] at hb2
        have HB := hide h2
        clear h2
        go_wp2_with fail
        refine (l1in_to _ _ _ b3 _ B3.out).mono ?_
        rintro e w3 ⟨rfl, rfl⟩
        clear B0 B1 B3
        go_wp2
        go_ret
        exact ⟨by rw [HB.out]; rfl, hbw⟩
      · rw [h2] at hb2
        have HB := hide h2
        clear h2
        clear B0 B1 B3
        go_wp2
        go_ret
        exact ⟨by rw [HB.out]; rfl, hbw⟩
set_option maxHeartbeats 1000000 in
theorem back_is (m : Mv) (w : World) :
    Calls Try.prog 63 #[.agg #[.int .i64 m.f, .int .i64 m.t, .int .i64 m.m]] w fun e w' => e = .returned (.agg #[.int .i64 (bk m).f, .int .i64 (bk m).t, .int .i64 (bk m).m]) ∧ Below w.heap.size w w' := by
  obtain ⟨f, t, n⟩ := m
  unfold bk
  simp only
  have hbA := ((Below.refl w.heap.size w).alloc (Nat.le_refl _) (.cells #[.int .i64 f, .int .i64 t, .int .i64 n] 55)).alloc (by simp) (.cells #[.int .i64 t, .int .i64 f, .int .i64 n] 55)
  go_enter Try.func63, Try.ntmps63
  go_wp2
  exact bodyPost_ret (v := .agg #[.int .i64 t, .int .i64 f, .int .i64 n]) (by simp [results, Try.results63, go_sem]) rfl ⟨rfl, hbA⟩
set_option maxHeartbeats 1000000 in
theorem l9back_is (m : Mv) (w : World) :
    Calls Try.prog 50 #[.agg #[.int .i64 m.f, .int .i64 m.t, .int .i64 m.m]] w fun e w' => e = .returned (.agg #[.int .i64 (bk m).f, .int .i64 (bk m).t, .int .i64 (bk m).m]) ∧ Below w.heap.size w w' := by
  obtain ⟨f, t, n⟩ := m
  unfold bk
  simp only
  have hbA := ((Below.refl w.heap.size w).alloc (Nat.le_refl _) (.cells #[.int .i64 f, .int .i64 t, .int .i64 n] 55)).alloc (by simp) (.cells #[.int .i64 t, .int .i64 f, .int .i64 n] 55)
  go_enter Try.func50, Try.ntmps50
  go_wp2
  exact bodyPost_ret (v := .agg #[.int .i64 t, .int .i64 f, .int .i64 n]) (by simp [results, Try.results50, go_sem]) rfl ⟨rfl, hbA⟩
namespace M
def tv3 (n : Nat) (f : Nat → Int) : List Value := (List.range (n * 3)).map (iv f)
theorem tv3_len (n : Nat) (f : Nat → Int) : (tv3 n f).length = n * 3 := by simp [tv3]
theorem tv3_get {n q : Nat} {f : Nat → Int} (h : q < n * 3) : (tv3 n f)[q]? = some (.int .i64 (f q)) := by unfold tv3; rw [List.getElem?_map, List.getElem?_range h]; rfl
theorem tv3_one {n : Nat} {f : Nat → Int} : ∀ u ∈ tv3 n f, u.oneCell' = true := by
  intro u hu
  unfold tv3 at hu
  obtain ⟨q, _, rfl⟩ := List.mem_map.1 hu
  rfl
theorem own_empty (w : World) (e size : Nat) : (w.alloc (.cells #[] e)).ownsRow w.heap.size e size (.slice (some ⟨w.heap.size, 0, none⟩) 0 0) 0 [] := by
  refine ⟨by simp, .inr ⟨w.heap.size, 0, #[], rfl, Nat.le_refl _, heap_alloc_new w _, Nat.le_refl _, Nat.zero_le _, by simp, by simp⟩⟩
def tv1 (n : Nat) (f : Nat → Int) : List Value := (List.range (n)).map (iv f)
theorem tv1_len (n : Nat) (f : Nat → Int) : (tv1 n f).length = n := by simp [tv1]
theorem tv1_get {n q : Nat} {f : Nat → Int} (h : q < n) : (tv1 n f)[q]? = some (.int .i64 (f q)) := by unfold tv1; rw [List.getElem?_map, List.getElem?_range h]; rfl
theorem tv1_one {n : Nat} {f : Nat → Int} : ∀ u ∈ tv1 n f, u.oneCell' = true := by
  intro u hu
  unfold tv1 at hu
  obtain ⟨q, _, rfl⟩ := List.mem_map.1 hu
  rfl
theorem own_V {w : World} {B n : Nat} {v : Value} {f : Nat → Int} (h : w.ownsRow B 55 3 v n (tv3 n f)) : OwnV w B w.heap.size v n f := by
  rcases h.2 with ⟨rfl, rfl⟩ | ⟨g, cap, cur, rfl, hB, hg, hc, hm, hs, ht⟩
  · exact ⟨_, _, rfl, Nat.le_refl _, fun h => absurd h (Nat.lt_irrefl _)⟩
  · have hblk : Blk w g (cap * 3) (fun i => cur.getD i undef) 55 := by
      unfold Blk
      rw [hg]
      congr 2
      apply Array.ext_getElem?
      intro j
      by_cases hj : j < cap * 3
      · rw [cf_get _ hj]
        have : j < cur.size := by omega
        simp [Array.getD, this]
      · rw [Array.getElem?_eq_none (by omega), Array.getElem?_eq_none (by rw [cf_size]; omega)]
    refine ⟨_, _, rfl, hc, fun _ => ⟨g, cap, rfl, hB, hblk.lt, hc, _, hblk, fun i hi => ?_⟩⟩
    have h1 := tv3_get (f := f) hi
    rw [← ht, List.getElem?_take_of_lt (by omega), Array.getElem?_toList] at h1
    have : i < cur.size := by omega
    simp [Array.getD, this] at h1 ⊢
    exact h1
theorem own_I {w : World} {B n : Nat} {v : Value} {f : Nat → Int} (h : w.ownsRow B 3 1 v n (tv1 n f)) : OwnI w B w.heap.size v n f := by
  rcases h.2 with ⟨rfl, rfl⟩ | ⟨g, cap, cur, rfl, hB, hg, hc, hm, hs, ht⟩
  · exact ⟨_, _, rfl, fun h => absurd h (Nat.lt_irrefl _)⟩
  · have hblk : Blk w g cap (fun i => cur.getD i undef) 3 := by
      unfold Blk
      rw [hg]
      congr 2
      apply Array.ext_getElem?
      intro j
      by_cases hj : j < cap
      · rw [cf_get _ hj]
        have : j < cur.size := by omega
        simp [Array.getD, this]
      · rw [Array.getElem?_eq_none (by omega), Array.getElem?_eq_none (by rw [cf_size]; omega)]
    refine ⟨_, _, rfl, fun _ => ⟨g, cap, rfl, hB, hblk.lt, hc, _, hblk, fun i hi => ?_⟩⟩
    have h1 := tv1_get (f := f) hi
    rw [← ht, List.getElem?_take_of_lt (by omega), Array.getElem?_toList] at h1
    have : i < cur.size := by omega
    simp [Array.getD, this] at h1 ⊢
    exact h1
end M
set_option maxRecDepth 20000 in
set_option maxHeartbeats 2000000 in
theorem clone_moves (v : Value) (n : Nat) (f : Nat → Int) (w : World) (hv : MovesOf w v n f) (hn : n ≤ 1048576) :
    Calls Try.prog 65 #[v] w fun e w' => (∃ v', e = .returned v' ∧ w'.ownsRow w.heap.size 55 3 v' n (tv3 n f)) ∧ Below w.heap.size w w' := by
  obtain ⟨i0, hi, hz0, hz1, hz2⟩ := info_parts info_move
  obtain ⟨a, cap, rfl, hr⟩ := hv
  have hq := fun (w : World) (a : Option Addr) (n c n' c' : Nat) => Lib.run_eql_slice_nil (P := Try.prog) w 25 _ a n c n' c' Try.underlying25
  cases a with
  | none =>
    have hn0 : n = 0 := by
      rcases Nat.eq_zero_or_pos n with h | h
      · exact h
      · obtain ⟨b, off, h2, _⟩ := hr h; cases h2
    subst hn0
    clear hr
    go_enter Try.func65, Try.ntmps65
    go_wp2
    go_ret
    exact ⟨⟨_, rfl, World.ownsRow_nil _ _ _ _⟩, Below.refl _ _⟩
  | some ad =>
    have hbA := (Below.refl w.heap.size w).alloc (Nat.le_refl _) (.cells #[] 55)
    have hO := own_empty w 55 3
    have hnews : ∀ j u, (tv3 n f)[j]? = some u → (w.alloc (.cells #[] 55)).cell? (ad.add j) = some u := by
      intro j u hj
      have hjn : j < n * 3 := by have := (List.getElem?_eq_some_iff.1 hj).1; rwa [tv3_len] at this
      rw [tv3_get hjn] at hj
      cases hj
      obtain ⟨b, off, h1, h2, h3⟩ := hr (by omega)
      cases h1
      rw [show (⟨b, off, none⟩ : Addr).add j = ⟨b, off + j, none⟩ by unfold Addr.add; split <;> simp_all]
      exact (hbA.cell (p := ⟨b, off + j, none⟩) h2).trans (h3 j hjn)
    have HNw := hide hnews
    have HTv := hide (tv3_len n f)
    clear hr hnews
    go_enter Try.func65, Try.ntmps65
    go_wp2_with (at_builtin; refine wpList_append_own _ rfl _ _ 25 rfl w.heap.size 55 i0 _ 3 24 Try.underlying25 hi hz0 hz1 hz2 rfl (by decide) _ 0 _ rfl hO ad n cap (tv3 n f) rfl HTv.out HNw.out tv3_one (by unfold maxLen; omega) (by omega) (by simp) ?_)
    intro v7 w7 hown7 hgrow7 _
    obtain ⟨a7, c7, rfl⟩ := own_form hown7
    have hb7 : Below w.heap.size w w7 := hbA.grown hgrow7 (by simp) (fun q hq => (hO.lt q hq).1)
    have HV := hide hown7
    clear hgrow7 hown7 hO HNw
    go_wp2
    go_ret
    exact ⟨⟨_, rfl, HV.out⟩, hb7⟩
set_option maxRecDepth 20000 in
set_option maxHeartbeats 2000000 in
theorem clone_ints (v : Value) (n : Nat) (f : Nat → Int) (w : World) (hv : IntsOf w v n f) (hn : n ≤ 1048576) :
    Calls Try.prog 64 #[v] w fun e w' => (∃ v', e = .returned v' ∧ w'.ownsRow w.heap.size 3 1 v' n (tv1 n f)) ∧ Below w.heap.size w w' := by
  obtain ⟨i0, hi, hz0, hz1, hz2⟩ := info_parts info_int
  obtain ⟨a, cap, rfl, hr⟩ := hv
  have hq := fun (w : World) (a : Option Addr) (n c n' c' : Nat) => Lib.run_eql_slice_nil (P := Try.prog) w 22 _ a n c n' c' Try.underlying22
  cases a with
  | none =>
    have hn0 : n = 0 := by
      rcases Nat.eq_zero_or_pos n with h | h
      · exact h
      · obtain ⟨b, off, h2, _⟩ := hr h; cases h2
    subst hn0
    clear hr
    go_enter Try.func64, Try.ntmps64
    go_wp2
    go_ret
    exact ⟨⟨_, rfl, World.ownsRow_nil _ _ _ _⟩, Below.refl _ _⟩
  | some ad =>
    have hbA := (Below.refl w.heap.size w).alloc (Nat.le_refl _) (.cells #[] 3)
    have hO := own_empty w 3 1
    have hnews : ∀ j u, (tv1 n f)[j]? = some u → (w.alloc (.cells #[] 3)).cell? (ad.add j) = some u := by
      intro j u hj
      have hjn : j < n := by have := (List.getElem?_eq_some_iff.1 hj).1; rwa [tv1_len] at this
      rw [tv1_get hjn] at hj
      cases hj
      obtain ⟨b, off, h1, h2, h3⟩ := hr (by omega)
      cases h1
      rw [show (⟨b, off, none⟩ : Addr).add j = ⟨b, off + j, none⟩ by unfold Addr.add; split <;> simp_all]
      exact (hbA.cell (p := ⟨b, off + j, none⟩) h2).trans (h3 j hjn)
    have HNw := hide hnews
    have HTv := hide (show (tv1 n f).length = n * 1 by rw [tv1_len, Nat.mul_one])
    clear hr hnews
    go_enter Try.func64, Try.ntmps64
    go_wp2_with (at_builtin; refine wpList_append_own _ rfl _ _ 22 rfl w.heap.size 3 i0 _ 1 8 Try.underlying22 hi hz0 hz1 hz2 rfl (by decide) _ 0 _ rfl hO ad n cap (tv1 n f) rfl HTv.out HNw.out tv1_one (by unfold maxLen; omega) (by omega) (by simp) ?_)
    intro v7 w7 hown7 hgrow7 _
    obtain ⟨a7, c7, rfl⟩ := own_form hown7
    have hb7 : Below w.heap.size w w7 := hbA.grown hgrow7 (by simp) (fun q hq => (hO.lt q hq).1)
    have HV := hide hown7
    clear hgrow7 hown7 hO HNw
    go_wp2
    go_ret
    exact ⟨⟨_, rfl, HV.out⟩, hb7⟩
end Go.Proofs.Ytmpedadjikmnhaa

/-
  NewRegion in both texts, and its law, walked: what is told holds no branch.
-/
import Derived.Test.YtoengmekbpcocaaChecked
import Derived.WalkKit
import Derived.WalkLawsBesides
import Derived.OwnWalk
import Derived.Below
import Derived.Test.YtoengmekbpcocaaSum
namespace Go.Proofs.Ytoengmekbpcocaa
open Go.RowKit M
namespace M
def inB (n lo hi : Int) : Bool := decide (lo ≤ n) && decide (n ≤ hi)
theorem ret_bool {a b : Bool} (h : a = b) : Ending.returned (.bool a) = .returned (.bool b) := by rw [h]
/-- A region's value, none told. -/
abbrev rn (i : Int) : Value := .agg #[.int .i64 i, .int .i64 0, .slice none 0 0]
abbrev nidx (id : Int) : Int := if inB id 0 9 = true then id else 0
theorem low1 (w : World) (o : Obj) : Below w.heap.size w (w.alloc o) := (Below.refl w.heap.size w).alloc (Nat.le_refl _) o
end M
theorem spec_in (n lo hi : Int) (w : World) :
    Calls Try.prog 9 #[.int .i64 n, .int .i64 lo, .int .i64 hi] w fun e w' => e = .returned (.bool (inB n lo hi)) ∧ w' = w := by
  by_cases h1 : lo ≤ n
  · by_cases h2 : n ≤ hi
    · go_enter Try.func9, Try.ntmps9
      go_wp2
      go_ret
      exact ⟨ret_bool (by simp [inB, h1, h2]), rfl⟩
    · go_enter Try.func9, Try.ntmps9
      go_wp2
      go_ret
      exact ⟨ret_bool (by simp [inB, h2]), rfl⟩
  · have hd : decide (lo ≤ n) = false := by simpa using h1
    go_enter Try.func9, Try.ntmps9
    go_wp2
    go_ret
    exact ⟨ret_bool (by simp [inB, hd]), rfl⟩
theorem impl_in (n lo hi : Int) (w : World) :
    Calls Try.prog 14 #[.int .i64 n, .int .i64 lo, .int .i64 hi] w fun e w' => e = .returned (.bool (inB n lo hi)) ∧ w' = w := by
  by_cases h1 : lo ≤ n
  · by_cases h2 : n ≤ hi
    · go_enter Try.func14, Try.ntmps14
      go_wp2
      go_ret
      exact ⟨ret_bool (by simp [inB, h1, h2]), rfl⟩
    · go_enter Try.func14, Try.ntmps14
      go_wp2
      go_ret
      exact ⟨ret_bool (by simp [inB, h2]), rfl⟩
  · have hd : decide (lo ≤ n) = false := by simpa using h1
    go_enter Try.func14, Try.ntmps14
    go_wp2
    go_ret
    exact ⟨ret_bool (by simp [inB, hd]), rfl⟩
theorem impl_rid (n : Int) (w : World) :
    Calls Try.prog 10 #[.int .i64 n] w fun e w' => e = .returned (.bool (inB n 0 9)) ∧ w' = w := by
  go_enter Try.func10, Try.ntmps10
  go_wp2_with (go_at_call 14; refine (impl_in _ _ _ _).mono ?_; rintro e w' ⟨rfl, rfl⟩)
  go_ret
  exact ⟨rfl, rfl⟩
set_option maxHeartbeats 2000000 in
theorem spec_new (id : Int) (w : World) : Calls Try.prog 4 #[.int .i64 id] w fun e w' => e = .returned (.tuple #[rn (nidx id), .bool (inB id 0 9)]) ∧ Below w.heap.size w w' := by
  cases h : inB id 0 9
  · have hn : nidx id = 0 := by simp [nidx, h]
    rw [hn]
    go_enter Try.func4, Try.ntmps4
    go_wp2_with (go_at_call 9; refine (spec_in _ _ _ _).mono ?_; rintro e w' ⟨rfl, rfl⟩; rw [h])
    exact bodyPost_ret (v := .tuple #[rn 0, .bool false]) (by simp [results, Try.results4, go_sem]) rfl ⟨rfl, low1 w _⟩
  · have hn : nidx id = id := by simp [nidx, h]
    rw [hn]
    go_enter Try.func4, Try.ntmps4
    go_wp2_with (go_at_call 9; refine (spec_in _ _ _ _).mono ?_; rintro e w' ⟨rfl, rfl⟩; rw [h])
    exact bodyPost_ret (v := .tuple #[rn id, .bool true]) (by simp [results, Try.results4, go_sem]) rfl ⟨rfl, low1 w _⟩
set_option maxHeartbeats 2000000 in
theorem impl_new (id : Int) (w : World) : Calls Try.prog 5 #[.int .i64 id] w fun e w' => e = .returned (.tuple #[rn (nidx id), .bool (inB id 0 9)]) ∧ Below w.heap.size w w' := by
  cases h : inB id 0 9
  · have hn : nidx id = 0 := by simp [nidx, h]
    rw [hn]
    go_enter Try.func5, Try.ntmps5
    go_wp2_with (go_at_call 10; refine (impl_rid _ _).mono ?_; rintro e w' ⟨rfl, rfl⟩; rw [h])
    exact bodyPost_ret (v := .tuple #[rn 0, .bool false]) (by simp [results, Try.results5, go_sem]) rfl ⟨rfl, low1 w _⟩
  · have hn : nidx id = id := by simp [nidx, h]
    rw [hn]
    go_enter Try.func5, Try.ntmps5
    go_wp2_with (go_at_call 10; refine (impl_rid _ _).mono ?_; rintro e w' ⟨rfl, rfl⟩; rw [h])
    exact bodyPost_ret (v := .tuple #[rn id, .bool true]) (by simp [results, Try.results5, go_sem]) rfl ⟨rfl, low1 w _⟩
theorem eq_brs (w : World) : Calls Try.prog 15 #[.slice none 0 0, .slice none 0 0] w fun e w' => e = .returned (.bool true) ∧ w' = w := by
  go_enter Try.func15, Try.ntmps15
  go_wp2
  go_loopw [5] (fun i wr => i = .int .i64 0 ∧ wr = w) (fun _ _ => 0)
  case atStart => exact ⟨rfl, rfl⟩
  case round =>
    obtain ⟨rfl, rfl⟩ := hrel
    go_wp2
    go_ret
    exact ⟨rfl, rfl⟩
theorem mark_brs (k : Int) (w : World) : Calls Try.prog 16 #[.slice none 0 0, .int .i64 k] w fun e w' => e = .returned (.int .i64 k) ∧ w' = w := by
  go_enter Try.func16, Try.ntmps16
  go_wp2
  go_loopw [1, 5] (fun j i wr => j = .int .i64 k ∧ i = .int .i64 0 ∧ wr = w) (fun _ _ _ => 0)
  case atStart => exact ⟨rfl, rfl, rfl⟩
  case round =>
    obtain ⟨rfl, rfl, rfl⟩ := hrel
    go_wp2
    go_ret
    exact ⟨rfl, rfl⟩
theorem held_brs (k : Int) (w : World) : Calls Try.prog 17 #[.slice none 0 0, .int .i64 k] w fun e w' => e = .returned (.int .i64 k) ∧ w' = w := by
  go_enter Try.func17, Try.ntmps17
  go_wp2
  go_loopw [1, 5] (fun j i wr => j = .int .i64 k ∧ i = .int .i64 0 ∧ wr = w) (fun _ _ _ => 0)
  case atStart => exact ⟨rfl, rfl, rfl⟩
  case round =>
    obtain ⟨rfl, rfl, rfl⟩ := hrel
    go_wp2
    go_ret
    exact ⟨rfl, rfl⟩
theorem eq_tel (w : World) : Calls Try.prog 11 #[.agg #[.slice none 0 0], .agg #[.slice none 0 0]] w fun e w' => e = .returned (.bool true) ∧ Below w.heap.size w w' := by
  have hb := (low1 w (.cells #[.slice none 0 0] 24)).alloc (by simp) (.cells #[.slice none 0 0] 24)
  go_enter Try.func11, Try.ntmps11
  go_wp2_with (go_at_call 15; refine (eq_brs _).mono ?_; rintro e w' ⟨rfl, rfl⟩)
  go_ret
  exact ⟨rfl, hb⟩
theorem eq_reg (i : Int) (w : World) : Calls Try.prog 6 #[rn i, rn i] w fun e w' => e = .returned (.bool true) ∧ Below w.heap.size w w' := by
  have hb : Below w.heap.size w (((w.alloc (.cells #[.int .i64 i, .int .i64 0, .slice none 0 0] 26)).alloc (.cells #[.int .i64 i, .int .i64 0, .slice none 0 0] 26))) := (low1 w _).alloc (by simp) _
  have hne : (i != i) = false := by simp
  go_enter Try.func6, Try.ntmps6
  go_wp2_with fail
  refine (eq_tel _).mono ?_
  rintro e w1 ⟨rfl, hb1⟩
  have hbz := hb.trans (hb1.mono hb.size)
  clear hb hb1
  go_wp2
  go_ret
  exact ⟨rfl, hbz⟩
theorem mark_tel (k : Int) (w : World) : Calls Try.prog 12 #[.agg #[.slice none 0 0], .int .i64 k] w fun e w' => e = .returned (.int .i64 k) ∧ Below w.heap.size w w' := by
  have hb := low1 w (.cells #[.slice none 0 0] 24)
  go_enter Try.func12, Try.ntmps12
  go_wp2_with (go_at_call 16; refine (mark_brs _ _).mono ?_; rintro e w' ⟨rfl, rfl⟩)
  go_ret
  exact ⟨rfl, hb⟩
theorem mark_reg (i k : Int) (w : World) : Calls Try.prog 7 #[rn i, .int .i64 k] w fun e w' => e = .returned (.int .i64 k) ∧ Below w.heap.size w w' := by
  have hb : Below w.heap.size w (w.alloc (.cells #[.int .i64 i, .int .i64 0, .slice none 0 0] 26)) := low1 w _
  go_enter Try.func7, Try.ntmps7
  go_wp2_with fail
  refine (mark_tel k _).mono ?_
  rintro e w1 ⟨rfl, hb1⟩
  have hbz := hb.trans (hb1.mono hb.size)
  clear hb hb1
  go_wp2
  go_ret
  exact ⟨rfl, hbz⟩
theorem held_tel (k : Int) (w : World) (hk : 0 ≤ k) : Calls Try.prog 13 #[.agg #[.slice none 0 0], .int .i64 k] w fun e w' => e = .returned (.int .i64 k) ∧ Below w.heap.size w w' := by
  have hb := low1 w (.cells #[.slice none 0 0] 24)
  have hlt : ¬ (k < 0) := by omega
  go_enter Try.func13, Try.ntmps13
  go_wp2_with (go_at_call 17; refine (held_brs _ _).mono ?_; rintro e w' ⟨rfl, rfl⟩)
  go_ret
  exact ⟨rfl, hb⟩
theorem held_reg (i k : Int) (w : World) (hk : 0 ≤ k) : Calls Try.prog 8 #[rn i, .int .i64 k] w fun e w' => e = .returned (.int .i64 k) ∧ Below w.heap.size w w' := by
  have hb : Below w.heap.size w (w.alloc (.cells #[.int .i64 i, .int .i64 0, .slice none 0 0] 26)) := low1 w _
  have hlt : ¬ (k < 0) := by omega
  go_enter Try.func8, Try.ntmps8
  go_wp2_with fail
  refine (held_tel k _ hk).mono ?_
  rintro e w1 ⟨rfl, hb1⟩
  have hbz := hb.trans (hb1.mono hb.size)
  clear hb hb1
  go_wp2
  go_ret
  exact ⟨rfl, hbz⟩
namespace M
def RB (w : World) (g : Nat) (i : Int) : Prop := w.heap[g]? = some (.cells #[.int .i64 i, .int .i64 0, .slice none 0 0] 26 (0, 0))
theorem RB.lt {w : World} {g : Nat} {i : Int} (h : RB w g i) : g < w.heap.size := by
  unfold RB at h
  rcases Nat.lt_or_ge g w.heap.size with hl | hl
  · exact hl
  · rw [Array.getElem?_eq_none hl] at h; cases h
theorem RB.down {w w' : World} {g : Nat} {i : Int} (h : RB w g i) (hb : Below w.heap.size w w') : RB w' g i := by
  unfold RB; rw [hb.block g h.lt]; exact h
theorem RB.new (w : World) (i : Int) : RB (w.alloc (.cells #[.int .i64 i, .int .i64 0, .slice none 0 0] 26)) w.heap.size i := heap_alloc_new w _
theorem RB.tri {w : World} {g : Nat} {i : Int} (h : RB w g i) : w.cell? ⟨g, 0, none⟩ = some (.int .i64 i) ∧ w.cell? ⟨g, 1, none⟩ = some (.int .i64 0) ∧ w.cell? ⟨g, 2, none⟩ = some (.slice none 0 0) :=
  ⟨by simp [World.cell?, show w.heap[g]? = _ from h], by simp [World.cell?, show w.heap[g]? = _ from h], by simp [World.cell?, show w.heap[g]? = _ from h]⟩
/-- A law's world: two boxes that stay, and nothing that was there turned. -/
def N2 (w W : World) (g1 g2 : Nat) (i : Int) : Prop := Below w.heap.size w W ∧ RB W g1 i ∧ RB W g2 i
theorem N2.down {w W W' : World} {g1 g2 : Nat} {i : Int} (h : N2 w W g1 g2 i) (hb : Below W.heap.size W W') : N2 w W' g1 g2 i := ⟨h.1.trans (hb.mono h.1.size), h.2.1.down hb, h.2.2.down hb⟩
end M
set_option maxRecDepth 20000 in
set_option maxHeartbeats 4000000 in
theorem law_newReg (id : Int) (w : World) : Calls Try.prog 3 #[.int .i64 id] w fun e w' => e = .returned (.bool true) ∧ Below w.heap.size w w' := by
  have HS := hide (spec_new id)
  have HI := hide (impl_new id)
  obtain ⟨i, hi⟩ : ∃ i, nidx id = i := ⟨_, rfl⟩
  obtain ⟨b, hbb⟩ : ∃ b, inB id 0 9 = b := ⟨_, rfl⟩
  rw [hi, hbb] at HS HI
  clear hi hbb
  have hne : (b != b) = false := by cases b <;> rfl
  have hlt : ¬ ((1 : Int) < 0) := by decide
  go_enter Try.func3, Try.ntmps3
  go_wp2_with fail
  refine (HS.out _).mono ?_
  rintro e w1 ⟨rfl, hb1⟩
  have hd1 := low1 w1 (.cells #[.int .i64 i, .int .i64 0, .slice none 0 0] 26)
  have HB1 := hide (RB.new w1 i)
  have hb2 := hb1.trans (hd1.mono hb1.size)
  clear hb1 hd1
  go_wp2_with fail
  refine (HI.out _).mono ?_
  rintro e w2 ⟨rfl, hb3⟩
  have HN := hide (show N2 w (w2.alloc (.cells #[.int .i64 i, .int .i64 0, .slice none 0 0] 26)) w1.heap.size w2.heap.size i from by
    have hd := low1 w2 (.cells #[.int .i64 i, .int .i64 0, .slice none 0 0] 26)
    have h := hb2.trans (hb3.mono hb2.size)
    exact ⟨h.trans (hd.mono h.size), (HB1.out.down hb3).down hd, RB.new w2 i⟩)
  obtain ⟨W, hW⟩ : ∃ W, w2.alloc (.cells #[.int .i64 i, .int .i64 0, .slice none 0 0] 26) = W := ⟨_, rfl⟩
  obtain ⟨⟨d0, d1, d2⟩, e0, e1, e2⟩ : (_ ∧ _ ∧ _) ∧ (_ ∧ _ ∧ _) := ⟨HN.out.2.1.tri, HN.out.2.2.tri⟩
  have HWW := hide hW
  clear hb3 hb2 HB1 hW
  go_wp2_with fail
  rw [HWW.out] at HN ⊢
  clear d0 d1 d2 e0 e1 e2 HWW
  refine (eq_reg i _).mono ?_
  rintro e w3 ⟨rfl, hb⟩
  have HN3 := hide (HN.out.down hb)
  clear hb HN
  obtain ⟨e0, e1, e2⟩ := HN3.out.2.2.tri
  go_wp2_with fail
  refine (mark_reg i 1 _).mono ?_
  rintro e w4 ⟨rfl, hb⟩
  have HN4 := hide (HN3.out.down hb)
  clear hb HN3 e0 e1 e2
  obtain ⟨e0, e1, e2⟩ := HN4.out.2.2.tri
  go_wp2_with fail
  refine (held_reg i 1 _ (by decide)).mono ?_
  rintro e w5 ⟨rfl, hb⟩
  have HN5 := hide (HN4.out.down hb)
  clear hb HN4 e0 e1 e2
  go_wp2_with fail
  refine (HI.out _).mono ?_
  rintro e w6 ⟨rfl, hb⟩
  have hd := low1 w6 (.cells #[.int .i64 i, .int .i64 0, .slice none 0 0] 26)
  have HN6 := hide ((HN5.out.down hb).down hd)
  have HX6 := hide (RB.new w6 i)
  obtain ⟨d0, d1, d2⟩ := HN6.out.2.1.tri
  obtain ⟨e0, e1, e2⟩ := HX6.out.tri
  clear hb HN5 hd
  go_wp2_with fail
  refine (eq_reg i _).mono ?_
  rintro e w7 ⟨rfl, hb⟩
  have HN7 := hide (HN6.out.down hb)
  clear hb HN6 HX6 d0 d1 d2 e0 e1 e2
  obtain ⟨e0, e1, e2⟩ := HN7.out.2.2.tri
  go_wp2_with fail
  refine (held_reg i 1 _ (by decide)).mono ?_
  rintro e w8 ⟨rfl, hb⟩
  have hbz := (HN7.out.down hb).1
  clear hb HN7 e0 e1 e2
  go_wp2
  go_ret
  exact ⟨rfl, hbz⟩
end Go.Proofs.Ytoengmekbpcocaa

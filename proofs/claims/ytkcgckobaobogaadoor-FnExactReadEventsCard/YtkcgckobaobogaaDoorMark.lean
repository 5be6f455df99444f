/-
  The law's marks on a slice of events in new memory: what is written there, and that it is found there again.
-/
import Derived.Test.YtkcgckobaobogaaDoorMarkText
import Derived.Test.YtkcgckobaobogaaDoorToAll
namespace Go.Proofs.YtkcgckobaobogaaDoor
open Go.RowKit M
open Go.Sort (grow)
namespace M
def markAt (i : Nat) : Ev := ⟨((4 * i + 1 : Nat) : Int), ((4 * i + 1 : Nat) : Int) + 1, ((4 * i + 1 : Nat) : Int) + 1 + 1, mt (4 * i + 1 + 3)⟩
def marks (n : Nat) : List Ev := (List.range n).map markAt
theorem marks_len (n : Nat) : (marks n).length = n := by simp [marks]
theorem marks_at {n i : Nat} (h : i < n) : (marks n)[i]? = some (markAt i) := by simp [marks, h]
theorem marks_take (n k : Nat) (h : k < n) : (marks n).take (k + 1) = (marks n).take k ++ [markAt k] := by
  rw [List.take_succ_eq_append_getElem (by rw [marks_len]; exact h)]
  simp [marks]
theorem mark_cells (n k q : Nat) (h : k < n) (hq : q = 4 * k + 1) : cellsE ((marks n).take (k + 1)) = cellsE ((marks n).take k) ++ [.int .i64 (q : Int), .int .i64 ((q : Int) + 1), .int .i64 ((q : Int) + 1 + 1), .string (mt (q + 3))] := by
  subst hq
  rw [marks_take n k h, cellsE_append]; rfl
theorem gb_set {w w1 : World} {g o : Nat} {v : Value} (h : w.grownBy w1 (some g)) : w.grownBy (w1.setCell ⟨g, o, none⟩ v) (some g) :=
  ⟨h.os, h.tape, h.output, by rw [World.size_setCell]; exact h.size, fun k hk hne => by rw [heap_setCell_other _ _ _ _ (fun e => hne (by rw [e]))]; exact h.block k hk hne⟩
theorem gb_below {w w1 w2 : World} {g : Nat} (h : w.grownBy w1 (some g)) (hb : Below w1.heap.size w1 w2) : w.grownBy w2 (some g) :=
  ⟨hb.os.trans h.os, hb.tape.trans h.tape, hb.output.trans h.output, Nat.le_trans h.size hb.size, fun k hk hne => by rw [hb.block k (Nat.lt_of_lt_of_le hk h.size)]; exact h.block k hk hne⟩
theorem set3 (A R : List Value) (x0 x1 x2 x3 y0 y1 y2 : Value) (o : Nat) (ho : o = A.length) :
    (((A ++ x0 :: x1 :: x2 :: x3 :: R).toArray.setIfInBounds o y0).setIfInBounds (o + 1) y1).setIfInBounds (o + 2) y2 = (A ++ y0 :: y1 :: y2 :: x3 :: R).toArray := by
  subst ho
  simp
theorem set1 (A R : List Value) (x0 x1 x2 x3 y3 : Value) (o : Nat) (ho : o = A.length) :
    (A ++ x0 :: x1 :: x2 :: x3 :: R).toArray.setIfInBounds (o + 3) y3 = (A ++ x0 :: x1 :: x2 :: y3 :: R).toArray := by
  subst ho
  simp
end M

set_option maxHeartbeats 1600000 in
theorem mark_all (g cap : Nat) (es : List Ev) (rest : List Value) (w : World) (hg : w.heap[g]? = some (.cells (cellsE es ++ rest).toArray 26 (0, 0))) (h60 : es.length ≤ 60) :
    Calls Tryd.prog 24 #[.slice (some ⟨g, 0, none⟩) es.length cap, .int .i64 1] w fun e w' => e = .returned (.int .i64 ((4 * es.length + 1 : Nat) : Int)) ∧ w'.heap[g]? = some (.cells (cellsE (marks es.length) ++ rest).toArray 26 (0, 0)) ∧ w.grownBy w' (some g) := by
  have HG := hide hg
  have hlg : g < w.heap.size := by
    rcases Nat.lt_or_ge g w.heap.size with h' | h'
    · exact h'
    · rw [Array.getElem?_eq_none h'] at hg; cases hg
  clear hg
  go_enter Tryd.func24, Tryd.ntmps24
  go_wp2
  go_loopw [1, 5] (fun x i wr => ∃ k q : Nat, k ≤ es.length ∧ i = .int .i64 k ∧ x = .int .i64 q ∧ Hid (q = 4 * k + 1) ∧ q ≤ 241 ∧ Hid (wr.heap[g]? = some (.cells (cellsE ((marks es.length).take k) ++ (cellsE (es.drop k) ++ rest)).toArray 26 (0, 0))) ∧ w.grownBy wr (some g)) (fun _ i _ => es.length - (intOf i).toNat)
  case atStart => exact ⟨0, 1, Nat.zero_le _, rfl, rfl, hide rfl, by omega, HG, ⟨rfl, rfl, rfl, Nat.le_refl _, fun _ _ _ => rfl⟩⟩
  case round =>
    obtain ⟨k, q, hk, rfl, rfl, HQ, hq, HB, hgb⟩ := hrel
    by_cases hlt : k < es.length
    · have hB := HB.out
      rw [List.drop_eq_getElem_cons hlt] at hB
      have hAl : k * 4 = (cellsE ((marks es.length).take k)).length := by rw [cellsE_len, List.length_take, marks_len]; omega
      have hB' : wr.heap[g]? = some (.cells (cellsE ((marks es.length).take k) ++ .int .i64 es[k].id :: .int .i64 es[k].ver :: .int .i64 es[k].kind :: .string es[k].name :: (cellsE (es.drop (k + 1)) ++ rest)).toArray 26 (0, 0)) := hB
      obtain ⟨⟨f0, f1, f2, f3⟩, d0, d1, d2, d3⟩ := there4 hB' hAl
      have h1 := heap_setCell_same _ g (k * 4) _ 26 (.int .i64 (q : Int)) hB'
      have h2 := heap_setCell_same _ g (k * 4 + 1) _ 26 (.int .i64 ((q : Int) + 1)) h1
      have h3 := heap_setCell_same _ g (k * 4 + 2) _ 26 (.int .i64 ((q : Int) + 1 + 1)) h2
      rw [set3 _ _ _ _ _ _ _ _ _ _ hAl] at h3
      have HB3 := hide h3
      have hgb3 := gb_set (o := k * 4 + 2) (v := .int .i64 ((q : Int) + 1 + 1)) (gb_set (o := k * 4 + 1) (v := .int .i64 ((q : Int) + 1)) (gb_set (o := k * 4) (v := .int .i64 (q : Int)) hgb))
      have HAL := hide hAl
      have hq1 := HQ.out
      have hq2 : q ≤ 237 := by omega
      clear hB hB' h1 h2 h3 hAl hq1 HB
      go_wp2_with fail
      rw [show ((q : Int) + 1 + 1 + 1) = ((q + 3 : Nat) : Int) by omega]
      refine (mark_text (q + 3) _ (by omega) (by omega)).mono ?_
      rintro e' w4 ⟨rfl, hb4⟩
      have hB4 := blk_below HB3.out hb4
      obtain ⟨⟨i0, i1, i2, i3⟩, j0, j1, j2, j3⟩ := there4 hB4 HAL.out
      have h5 := heap_setCell_same _ g (k * 4 + 3) _ 26 (.string (mt (q + 3))) hB4
      rw [set1 _ _ _ _ _ _ _ _ HAL.out] at h5
      have HB5 := hide h5
      have hgb5 := gb_set (o := k * 4 + 3) (v := .string (mt (q + 3))) (gb_below hgb3 hb4)
      have HM := hide (mark_cells es.length k q hlt HQ.out)
      have HQ2 := hide (show q + 4 = 4 * (k + 1) + 1 by have := HQ.out; omega)
      clear hB4 h5 hb4 hgb hgb3 HB3 f0 f1 f2 f3 d0 d1 d2 d3
      go_wp2
      exact ⟨⟨k + 1, q + 4, by omega, by go_num, by go_num, HQ2, by omega, hide (by rw [HM.out, List.append_assoc]; exact HB5.out), hgb5⟩, by simp [intOf]; omega⟩
    · have hke : k = es.length := by omega
      subst hke
      have hB := HB.out
      rw [List.drop_length, List.take_of_length_le (by rw [marks_len]; omega)] at hB
      have HB2 := hide (show wr.heap[g]? = some (.cells (cellsE (marks es.length) ++ rest).toArray 26 (0, 0)) from hB)
      clear hB HB
      go_wp2
      go_ret
      exact ⟨ret_int (by have := HQ.out; omega), HB2.out, hgb⟩

set_option maxHeartbeats 1600000 in
theorem held_all (v : Value) (n : Nat) (w : World) (hv : SliceOf w v (marks n)) (h60 : n ≤ 60) :
    Calls Tryd.prog 25 #[v, .int .i64 1] w fun e w' => e = .returned (.int .i64 ((4 * n + 1 : Nat) : Int)) ∧ Below w.heap.size w w' := by
  obtain ⟨a, cap, rfl, hr⟩ := hv
  rw [marks_len]
  by_cases he : n = 0
  · subst he
    clear hr
    go_enter Tryd.func25, Tryd.ntmps25
    go_wp2
    refine wp_loop_rounds 1 ?_; rw [rounds_succ]
    go_wp2
    go_ret
    exact ⟨rfl, Below.refl _ _⟩
  · obtain ⟨b, off, rfl, hlt, hrow⟩ := hr (by intro h; have := congrArg List.length h; rw [marks_len] at this; exact he this)
    clear hr he
    go_enter Tryd.func25, Tryd.ntmps25
    go_wp2
    go_loopw [1, 5] (fun x i wr => ∃ k q : Nat, k ≤ n ∧ i = .int .i64 k ∧ x = .int .i64 q ∧ Hid (q = 4 * k + 1) ∧ q ≤ 241 ∧ Below w.heap.size w wr) (fun _ i _ => n - (intOf i).toNat)
    case atStart => exact ⟨0, 1, Nat.zero_le _, rfl, rfl, hide rfl, by omega, Below.refl _ _⟩
    case round =>
      obtain ⟨k, q, hk, rfl, rfl, HQ, hq, hbw⟩ := hrel
      by_cases hlt2 : k < n
      · have hat := (hrow k _ (marks_at hlt2)).below hbw hlt
        unfold markAt at hat
        rw [← HQ.out] at hat
        obtain ⟨c0, c1, c2, c3⟩ := hat
        simp only at c0 c1 c2 c3
        have hq1 := HQ.out
        have hq2 : q ≤ 237 := by omega
        have HQ2 := hide (show q + 4 = 4 * (k + 1) + 1 by omega)
        have k0 := cell_regrown c0
        have k3 := cell_regrown c3
        have hi0 : (0 : Int) ≤ (k : Int) := by omega
        have hi1 : (k : Int) < (n : Int) := by omega
        have cE : ∀ d os, Calls Tryd.prog 44 #[.int .i64 ((q + 3 : Nat) : Int)] (grow (redrawn wr d) os) fun e w'' => e = .returned (.string (mt (q + 3))) ∧ ∃ p : Regrown, w'' = grow (redrawn wr p.d) p.os := fun d os => Calls.regrown_of (mark_text (q + 3) _ (by omega) (by omega))
        rw [show ((q + 3 : Nat) : Int) = (q : Int) + 1 + 1 + 1 by omega] at cE
        have HE := hide cE
        clear cE hq1
        go_wp2
        refine wp_region_quiet_below (by kernel_rfl) (by kernel_rfl) ?_
        repeat (quiet_step (exact HE.out _ _))
        refine wpQuiet_nil ?_
        intro _ hw'
        obtain ⟨⟨dq, osq⟩, hw''⟩ := hw'
        subst hw''
        have hbw2 := hbw.trans ((below_regrown wr dq osq).mono hbw.size)
        go_wp2
        go_roundw
        case rel => exact ⟨k + 1, q + 4, by omega, by go_num, by go_num, HQ2, by omega, hbw2⟩
        case measure => simp [intOf]; omega
      · have hke : k = n := by omega
        subst hke
        go_wp2
        go_ret
        exact ⟨ret_int (by have := HQ.out; omega), hbw⟩
end Go.Proofs.YtkcgckobaobogaaDoor

/-
  The law's helpers on slices of events: a copy in new memory, and that two slices of the same events are told alike.
-/
import Derived.Test.YtfkeokglifpkoaaDoorJoin3
import Derived.Lib.QuietBelow
import Derived.BigQuiet
namespace Go.Proofs.YtfkeokglifpkoaaDoor
open Go.RowKit M
open Go.Sort (grow)
namespace M
def e0 : Ev := ⟨0, 0, 0, ⟨#[]⟩⟩
theorem made_zero (n : Nat) : madeCells #[.int .i64 0, .int .i64 0, .int .i64 0, .string ⟨#[]⟩] (n * 4) = (cellsE (List.replicate n e0)).toArray := by
  apply Array.ext_getElem?
  intro i
  by_cases hi : i < n * 4
  · have h1 : (madeCells #[.int .i64 0, .int .i64 0, .int .i64 0, .string ⟨#[]⟩] (n * 4))[i]? = some (#[(.int .i64 0 : Value), .int .i64 0, .int .i64 0, .string ⟨#[]⟩][i % 4]!) := by
      simp [madeCells, hi]
    rw [h1, List.getElem?_toArray]
    obtain ⟨a, b, c, d⟩ := cellsE_at (List.replicate n e0) (i / 4) e0 (by rw [List.getElem?_replicate, if_pos (by omega)])
    rcases (show i % 4 = 0 ∨ i % 4 = 1 ∨ i % 4 = 2 ∨ i % 4 = 3 by omega) with h | h | h | h
    · rw [h, show i = i / 4 * 4 by omega, a]; rfl
    · rw [h, show i = i / 4 * 4 + 1 by omega, b]; rfl
    · rw [h, show i = i / 4 * 4 + 2 by omega, c]; rfl
    · rw [h, show i = i / 4 * 4 + 3 by omega, d]; rfl
  · rw [Array.getElem?_eq_none (by rw [size_madeCells]; omega), Array.getElem?_eq_none (by rw [List.size_toArray, cellsE_len, List.length_replicate]; omega)]
theorem set4 (A R : List Value) (x0 x1 x2 x3 y0 y1 y2 y3 : Value) (o : Nat) (ho : o = A.length) :
    ((((A ++ x0 :: x1 :: x2 :: x3 :: R).toArray.setIfInBounds o y0).setIfInBounds (o + 1) y1).setIfInBounds (o + 2) y2).setIfInBounds (o + 3) y3 = (A ++ y0 :: y1 :: y2 :: y3 :: R).toArray := by
  subst ho
  simp
/-- Behind the store of an event into a row that is known whole. -/
theorem store4 {w : World} {b o : Nat} {A R : List Value} {x0 x1 x2 x3 : Value} {t : TypeId} (h : w.heap[b]? = some (.cells (A ++ x0 :: x1 :: x2 :: x3 :: R).toArray t (0, 0))) (ho : o = A.length) (y0 y1 y2 y3 : Value) :
    ((((w.setCell ⟨b, o, none⟩ y0).setCell ⟨b, o + 1, none⟩ y1).setCell ⟨b, o + 2, none⟩ y2).setCell ⟨b, o + 3, none⟩ y3).heap[b]? = some (.cells (A ++ y0 :: y1 :: y2 :: y3 :: R).toArray t (0, 0)) := by
  have h1 := heap_setCell_same _ b o _ t y0 h
  have h2 := heap_setCell_same _ b (o + 1) _ t y1 h1
  have h3 := heap_setCell_same _ b (o + 2) _ t y2 h2
  have h4 := heap_setCell_same _ b (o + 3) _ t y3 h3
  rw [h4, set4 A R x0 x1 x2 x3 y0 y1 y2 y3 o ho]
theorem there4 {w : World} {b o : Nat} {A R : List Value} {x0 x1 x2 x3 : Value} {t : TypeId} (h : w.heap[b]? = some (.cells (A ++ x0 :: x1 :: x2 :: x3 :: R).toArray t (0, 0))) (ho : o = A.length) :
    (w.cell? ⟨b, o, none⟩ = some x0 ∧ w.cell? ⟨b, o + 1, none⟩ = some x1 ∧ w.cell? ⟨b, o + 2, none⟩ = some x2 ∧ w.cell? ⟨b, o + 3, none⟩ = some x3) ∧
      (w.frozen? ⟨b, o, none⟩ = false ∧ w.frozen? ⟨b, o + 1, none⟩ = false ∧ w.frozen? ⟨b, o + 2, none⟩ = false ∧ w.frozen? ⟨b, o + 3, none⟩ = false) := by
  subst ho
  refine ⟨⟨?_, ?_, ?_, ?_⟩, ?_, ?_, ?_, ?_⟩
  all_goals simp [World.cell?, World.frozen?, h]
theorem cellsE_split (es : List Ev) (k : Nat) (e : Ev) (h : es[k]? = some e) : cellsE (es.take (k + 1)) = cellsE (es.take k) ++ [.int .i64 e.id, .int .i64 e.ver, .int .i64 e.kind, .string e.name] := by
  have hk : k < es.length := by
    rcases Nat.lt_or_ge k es.length with h' | h'
    · exact h'
    · rw [List.getElem?_eq_none h'] at h; cases h
  rw [List.take_succ_eq_append_getElem hk, cellsE_append]
  have : es[k] = e := by rw [List.getElem?_eq_getElem hk] at h; simpa using h
  rw [this]; rfl
end M

theorem info_ev : (Tryd.prog.info? 45).map (fun i => (i.zero, i.size, i.bytes)) = some (some (.agg #[.int .i64 0, .int .i64 0, .int .i64 0, .string ⟨#[]⟩]), 4, 40) := by kernel_rfl

theorem make_ev (n : Nat) (h : n ≤ 1048576) (w : World) : (Instr.makeSlice 41 (.int .i64 (n : Int)) (.int .i64 (n : Int))).run Tryd.prog w = .ok (.slice (some ⟨w.heap.size, 0, none⟩) n n) (w.alloc (.cells (cellsE (List.replicate n e0)).toArray 45)) := by
  obtain ⟨i, hi, hz0, hz1, hz2⟩ := info_parts info_ev
  have hr := run_make (P := Tryd.prog) w 41 45 i _ Tryd.underlying41 hi hz0 .i64 .i64 (n : Int) (n : Int) (by omega) (Int.le_refl _) (by rw [hz2]; omega) (by omega)
  rw [hr, hz1]
  simp only [Int.toNat_natCast]
  rw [← made_zero]
  rfl

set_option maxHeartbeats 1000000 in
theorem to_all (v : Value) (es : List Ev) (w : World) (hv : SliceOf w v es) (hlen : es.length ≤ 1048576) :
    Calls Tryd.prog 39 #[v] w fun e w' => (∃ v', e = .returned v' ∧ SliceOf w' v' es) ∧ Below w.heap.size w w' := by
  obtain ⟨a, cap, rfl, hr⟩ := hv
  by_cases he : es = []
  · subst he
    have hmk : ∀ w : World, (Instr.makeSlice 41 (.int .i64 0) (.int .i64 0)).run Tryd.prog w = .ok (.slice (some ⟨w.heap.size, 0, none⟩) 0 0) (w.alloc (.cells #[] 45)) := make_ev 0 (by omega)
    clear hr
    go_enter Tryd.func39, Tryd.ntmps39
    go_wp2
    refine wp_loop_rounds 1 ?_; rw [rounds_succ]
    go_wp2
    go_ret
    exact ⟨⟨_, rfl, _, _, rfl, fun h => absurd rfl h⟩, (Below.refl _ _).alloc (Nat.le_refl _) _⟩
  · have hmk := make_ev es.length hlen
    obtain ⟨b, off, rfl, hlt, hrow⟩ := hr he
    clear hr
    go_enter Tryd.func39, Tryd.ntmps39
    go_wp2
    go_loopw [4] (fun i wr => ∃ k : Nat, k ≤ es.length ∧ i = .int .i64 k ∧ Hid (wr.heap[w.heap.size]? = some (.cells (cellsE (es.take k) ++ cellsE (List.replicate (es.length - k) e0)).toArray 45 (0, 0))) ∧ Below w.heap.size w wr) (fun i _ => es.length - (intOf i).toNat)
    case atStart => exact ⟨0, Nat.zero_le _, rfl, hide (heap_alloc_new w _), (Below.refl _ _).alloc (Nat.le_refl _) _⟩
    case round =>
      obtain ⟨k, hk, rfl, HB, hbw⟩ := hrel
      by_cases hlt2 : k < es.length
      · obtain ⟨e, he⟩ : ∃ e, es[k]? = some e := ⟨es[k], List.getElem?_eq_getElem hlt2⟩
        obtain ⟨c0, c1, c2, c3⟩ := (hrow k e he).below hbw hlt
        have HS := hide (cellsE_split es k e he)
        go_wp2_with fail
        refine (to_event _ _ _ _ _).mono ?_
        rintro e' w2 ⟨rfl, hb2⟩
        have hbw2 := hbw.trans (hb2.mono hbw.size)
        have hB0 := HB.out
        have hlt3 : w.heap.size < wr.heap.size := by
          rcases Nat.lt_or_ge w.heap.size wr.heap.size with h' | h'
          · exact h'
          · rw [Array.getElem?_eq_none h'] at hB0; cases hB0
        have hB2 : w2.heap[w.heap.size]? = some (.cells (cellsE (es.take k) ++ .int .i64 0 :: .int .i64 0 :: .int .i64 0 :: .string ⟨#[]⟩ :: cellsE (List.replicate (es.length - (k + 1)) e0)).toArray 45 (0, 0)) := by
          rw [hb2.block _ hlt3, hB0, show es.length - k = (es.length - (k + 1)) + 1 by omega, List.replicate_succ]
          rfl
        have hAl : k * 4 = (cellsE (es.take k)).length := by rw [cellsE_len, List.length_take]; omega
        obtain ⟨⟨f0, f1, f2, f3⟩, d0, d1, d2, d3⟩ := there4 hB2 hAl
        have HB2 := hide (store4 hB2 hAl (.int .i64 e.id) (.int .i64 e.ver) (.int .i64 e.kind) (.string e.name))
        clear hB2 hB0 hb2 c0 c1 c2 c3 HB hAl
        go_wp2
        exact ⟨⟨k + 1, by omega, by go_num, hide (by rw [HS.out, List.append_assoc]; exact HB2.out), (((hbw2.setCell (Nat.le_refl _) _).setCell (Nat.le_refl _) _).setCell (Nat.le_refl _) _).setCell (Nat.le_refl _) _⟩, by simp [intOf]; omega⟩
      · have hB := HB.out
        have hlt3 : w.heap.size < wr.heap.size := by
          rcases Nat.lt_or_ge w.heap.size wr.heap.size with h' | h'
          · exact h'
          · rw [Array.getElem?_eq_none h'] at hB; cases hB
        rw [List.take_of_length_le (by omega)] at hB
        have HR := hide (row_of_block hB)
        clear hB HB
        go_wp2
        go_ret
        exact ⟨⟨_, rfl, _, _, rfl, fun _ => ⟨w.heap.size, 0, rfl, hlt3, HR.out⟩⟩, hbw⟩

set_option maxHeartbeats 1000000 in
theorem eq_all (v u : Value) (es : List Ev) (w : World) (hv : SliceOf w v es) (hu : SliceOf w u es) (hlen : es.length ≤ 1048576)
    (heq : ∀ (e : Ev) (w : World), Calls Tryd.prog 52 #[e.v, e.v] w fun e w' => e = .returned (.bool true) ∧ Below w.heap.size w w') :
    Calls Tryd.prog 44 #[v, u] w fun e w' => e = .returned (.bool true) ∧ Below w.heap.size w w' := by
  obtain ⟨a, cap, rfl, hr⟩ := hv
  obtain ⟨a2, cap2, rfl, hr2⟩ := hu
  have HEQ := hide heq
  clear heq
  by_cases he : es = []
  · subst he
    clear hr hr2
    go_enter Tryd.func44, Tryd.ntmps44
    go_wp2
    refine wp_loop_rounds 1 ?_; rw [rounds_succ]
    go_wp2
    go_ret
    exact ⟨rfl, Below.refl _ _⟩
  · obtain ⟨b, off, rfl, hlt, hrow⟩ := hr he
    obtain ⟨b2, off2, rfl, hlt2, hrow2⟩ := hr2 he
    clear hr hr2 he
    go_enter Tryd.func44, Tryd.ntmps44
    go_wp2
    go_loopw [5] (fun i wr => ∃ k : Nat, k ≤ es.length ∧ i = .int .i64 k ∧ Below w.heap.size w wr) (fun i _ => es.length - (intOf i).toNat)
    case atStart => exact ⟨0, Nat.zero_le _, rfl, Below.refl _ _⟩
    case round =>
      obtain ⟨k, hk, rfl, hbw⟩ := hrel
      by_cases hlt3 : k < es.length
      · obtain ⟨e, he⟩ : ∃ e, es[k]? = some e := ⟨es[k], List.getElem?_eq_getElem hlt3⟩
        obtain ⟨c0, c1, c2, c3⟩ := (hrow k e he).below hbw hlt
        obtain ⟨f0, f1, f2, f3⟩ := (hrow2 k e he).below hbw hlt2
        have k0 := cell_regrown c0
        have k1 := cell_regrown c1
        have k2 := cell_regrown c2
        have k3 := cell_regrown c3
        have g0 := cell_regrown f0
        have g1 := cell_regrown f1
        have g2 := cell_regrown f2
        have g3 := cell_regrown f3
        have hi0 : (0 : Int) ≤ (k : Int) := by omega
        have hi1 : (k : Int) < (es.length : Int) := by omega
        have cE : ∀ d os, Calls Tryd.prog 52 #[e.v, e.v] (grow (redrawn wr d) os) fun e w'' => e = .returned (.bool true) ∧ ∃ p : Regrown, w'' = grow (redrawn wr p.d) p.os := fun d os => Calls.regrown_of (HEQ.out e _)
        have HE := hide cE
        clear cE c0 c1 c2 c3 f0 f1 f2 f3
        go_wp2
        refine wp_region_quiet_below (by kernel_rfl) (by kernel_rfl) ?_
        repeat (quiet_step (exact HE.out _ _))
        refine wpQuiet_nil ?_
        intro _ hw'
        obtain ⟨⟨dq, osq⟩, hw''⟩ := hw'
        subst hw''
        have hbw2 := hbw.trans ((below_regrown wr dq osq).mono hbw.size)
        go_wp2
        go_roundw
        case rel => exact ⟨k + 1, by omega, by go_num, hbw2⟩
        case measure => simp [intOf]; omega
      · go_wp2
        go_ret
        exact ⟨rfl, hbw⟩
end Go.Proofs.YtfkeokglifpkoaaDoor

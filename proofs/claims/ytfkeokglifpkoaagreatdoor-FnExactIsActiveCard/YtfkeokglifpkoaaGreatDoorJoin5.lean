/-
  Texts that follow one another, joined: ToAll, Clock, Mem.
-/
import Derived.Test.YtfkeokglifpkoaaGreatDoorJoin2
import Derived.Lib.QuietBelow
import Derived.BigQuiet
import Derived.RowKit
import Derived.Test.YtfkeokglifpkoaaGreatDoorChecked
import Derived.WalkKit
import Derived.WalkLawsBesides
import Derived.OwnWalk
import Derived.Below
import Derived.Laws.CopyOwn
import Derived.Laws.MakeOwn
import Derived.Test.YtfkeokglifpkoaaGreatDoorJoin1
/-
  The law's helpers on slices of events: a copy in new memory, and that two slices of the same events are told alike.
-/
namespace Go.Proofs.YtfkeokglifpkoaaGreatDoor
open Go.RowKit M
open Go.Sort (grow)
namespace M
def e0 : Ev := ⟨0, 0, 0, ⟨#[]⟩⟩
theorem made_zero (n : Nat) : madeCells #[.int .i64 0, .int .i64 0, .int .i64 0, .string ⟨#[]⟩] (n * 4) = (cellsE (List.replicate n e0)).toArray := by
  apply Array.ext_getElem?
  intro i
  by_cases hi : i < n * 4
  · have h1 : (madeCells #[.int .i64 0, .int .i64 0, .int .i64 0, .string ⟨#[]⟩] (n * 4))[i]? = some (#[(.int .i64 0 : Value), .int .i64 0, .int .i64 0, .string ⟨#[]⟩][i % 4]!) := by
      simp [madeCells, hi]
    rw [h1, List.getElem?_toArray]
    obtain ⟨a, b, c, d⟩ := cellsE_at (List.replicate n e0) (i / 4) e0 (by rw [List.getElem?_replicate, if_pos (by omega)])
    rcases (show i % 4 = 0 ∨ i % 4 = 1 ∨ i % 4 = 2 ∨ i % 4 = 3 by omega) with h | h | h | h
    · rw [h, show i = i / 4 * 4 by omega, a]; rfl
    · rw [h, show i = i / 4 * 4 + 1 by omega, b]; rfl
    · rw [h, show i = i / 4 * 4 + 2 by omega, c]; rfl
    · rw [h, show i = i / 4 * 4 + 3 by omega, d]; rfl
  · rw [Array.getElem?_eq_none (by rw [size_madeCells]; omega), Array.getElem?_eq_none (by rw [List.size_toArray, cellsE_len, List.length_replicate]; omega)]
theorem set4 (A R : List Value) (x0 x1 x2 x3 y0 y1 y2 y3 : Value) (o : Nat) (ho : o = A.length) :
    ((((A ++ x0 :: x1 :: x2 :: x3 :: R).toArray.setIfInBounds o y0).setIfInBounds (o + 1) y1).setIfInBounds (o + 2) y2).setIfInBounds (o + 3) y3 = (A ++ y0 :: y1 :: y2 :: y3 :: R).toArray := by
  subst ho
  simp
/-- Behind the store of an event into a row that is known whole. -/
theorem store4 {w : World} {b o : Nat} {A R : List Value} {x0 x1 x2 x3 : Value} {t : TypeId} (h : w.heap[b]? = some (.cells (A ++ x0 :: x1 :: x2 :: x3 :: R).toArray t (0, 0))) (ho : o = A.length) (y0 y1 y2 y3 : Value) :
    ((((w.setCell ⟨b, o, none⟩ y0).setCell ⟨b, o + 1, none⟩ y1).setCell ⟨b, o + 2, none⟩ y2).setCell ⟨b, o + 3, none⟩ y3).heap[b]? = some (.cells (A ++ y0 :: y1 :: y2 :: y3 :: R).toArray t (0, 0)) := by
  have h1 := heap_setCell_same _ b o _ t y0 h
  have h2 := heap_setCell_same _ b (o + 1) _ t y1 h1
  have h3 := heap_setCell_same _ b (o + 2) _ t y2 h2
  have h4 := heap_setCell_same _ b (o + 3) _ t y3 h3
  rw [h4, set4 A R x0 x1 x2 x3 y0 y1 y2 y3 o ho]
theorem there4 {w : World} {b o : Nat} {A R : List Value} {x0 x1 x2 x3 : Value} {t : TypeId} (h : w.heap[b]? = some (.cells (A ++ x0 :: x1 :: x2 :: x3 :: R).toArray t (0, 0))) (ho : o = A.length) :
    (w.cell? ⟨b, o, none⟩ = some x0 ∧ w.cell? ⟨b, o + 1, none⟩ = some x1 ∧ w.cell? ⟨b, o + 2, none⟩ = some x2 ∧ w.cell? ⟨b, o + 3, none⟩ = some x3) ∧
      (w.frozen? ⟨b, o, none⟩ = false ∧ w.frozen? ⟨b, o + 1, none⟩ = false ∧ w.frozen? ⟨b, o + 2, none⟩ = false ∧ w.frozen? ⟨b, o + 3, none⟩ = false) := by
  subst ho
  refine ⟨⟨?_, ?_, ?_, ?_⟩, ?_, ?_, ?_, ?_⟩
  all_goals simp [World.cell?, World.frozen?, h]
theorem cellsE_split (es : List Ev) (k : Nat) (e : Ev) (h : es[k]? = some e) : cellsE (es.take (k + 1)) = cellsE (es.take k) ++ [.int .i64 e.id, .int .i64 e.ver, .int .i64 e.kind, .string e.name] := by
  have hk : k < es.length := by
    rcases Nat.lt_or_ge k es.length with h' | h'
    · exact h'
    · rw [List.getElem?_eq_none h'] at h; cases h
  rw [List.take_succ_eq_append_getElem hk, cellsE_append]
  have : es[k] = e := by rw [List.getElem?_eq_getElem hk] at h; simpa using h
  rw [this]; rfl
end M

theorem info_ev : (Tryz.prog.info? 74).map (fun i => (i.zero, i.size, i.bytes)) = some (some (.agg #[.int .i64 0, .int .i64 0, .int .i64 0, .string ⟨#[]⟩]), 4, 40) := by kernel_rfl

theorem make_ev (n : Nat) (h : n ≤ 1048576) (w : World) : (Instr.makeSlice 69 (.int .i64 (n : Int)) (.int .i64 (n : Int))).run Tryz.prog w = .ok (.slice (some ⟨w.heap.size, 0, none⟩) n n) (w.alloc (.cells (cellsE (List.replicate n e0)).toArray 74)) := by
  obtain ⟨i, hi, hz0, hz1, hz2⟩ := info_parts info_ev
  have hr := run_make (P := Tryz.prog) w 69 74 i _ Tryz.underlying69 hi hz0 .i64 .i64 (n : Int) (n : Int) (by omega) (Int.le_refl _) (by rw [hz2]; omega) (by omega)
  rw [hr, hz1]
  simp only [Int.toNat_natCast]
  rw [← made_zero]
  rfl

set_option maxHeartbeats 1000000 in
theorem to_all (v : Value) (es : List Ev) (w : World) (hv : SliceOf w v es) (hlen : es.length ≤ 1048576) :
    Calls Tryz.prog 176 #[v] w fun e w' => (∃ v', e = .returned v' ∧ SliceOf w' v' es) ∧ Below w.heap.size w w' := by
  obtain ⟨a, cap, rfl, hr⟩ := hv
  by_cases he : es = []
  · subst he
    have hmk : ∀ w : World, (Instr.makeSlice 69 (.int .i64 0) (.int .i64 0)).run Tryz.prog w = .ok (.slice (some ⟨w.heap.size, 0, none⟩) 0 0) (w.alloc (.cells #[] 74)) := make_ev 0 (by omega)
    clear hr
    go_enter Tryz.func176, Tryz.ntmps176
    go_wp2
    refine wp_loop_rounds 1 ?_; rw [rounds_succ]
    go_wp2
    go_ret
    exact ⟨⟨_, rfl, _, _, rfl, fun h => absurd rfl h⟩, (Below.refl _ _).alloc (Nat.le_refl _) _⟩
  · have hmk := make_ev es.length hlen
    obtain ⟨b, off, rfl, hlt, hrow⟩ := hr he
    clear hr
    go_enter Tryz.func176, Tryz.ntmps176
    go_wp2
    go_loopw [4] (fun i wr => ∃ k : Nat, k ≤ es.length ∧ i = .int .i64 k ∧ Hid (wr.heap[w.heap.size]? = some (.cells (cellsE (es.take k) ++ cellsE (List.replicate (es.length - k) e0)).toArray 74 (0, 0))) ∧ Below w.heap.size w wr) (fun i _ => es.length - (intOf i).toNat)
    case atStart => exact ⟨0, Nat.zero_le _, rfl, hide (heap_alloc_new w _), (Below.refl _ _).alloc (Nat.le_refl _) _⟩
    case round =>
      obtain ⟨k, hk, rfl, HB, hbw⟩ := hrel
      by_cases hlt2 : k < es.length
      · obtain ⟨e, he⟩ : ∃ e, es[k]? = some e := ⟨es[k], List.getElem?_eq_getElem hlt2⟩
        obtain ⟨c0, c1, c2, c3⟩ := (hrow k e he).below hbw hlt
        have HS := hide (cellsE_split es k e he)
        go_wp2_with fail
        refine (to_event _ _ _ _ _).mono ?_
        rintro e' w2 ⟨rfl, hb2⟩
        have hbw2 := hbw.trans (hb2.mono hbw.size)
        have hB0 := HB.out
        have hlt3 : w.heap.size < wr.heap.size := by
          rcases Nat.lt_or_ge w.heap.size wr.heap.size with h' | h'
          · exact h'
          · rw [Array.getElem?_eq_none h'] at hB0; cases hB0
        have hB2 : w2.heap[w.heap.size]? = some (.cells (cellsE (es.take k) ++ .int .i64 0 :: .int .i64 0 :: .int .i64 0 :: .string ⟨#[]⟩ :: cellsE (List.replicate (es.length - (k + 1)) e0)).toArray 74 (0, 0)) := by
          rw [hb2.block _ hlt3, hB0, show es.length - k = (es.length - (k + 1)) + 1 by omega, List.replicate_succ]
          rfl
        have hAl : k * 4 = (cellsE (es.take k)).length := by rw [cellsE_len, List.length_take]; omega
        obtain ⟨⟨f0, f1, f2, f3⟩, d0, d1, d2, d3⟩ := there4 hB2 hAl
        have HB2 := hide (store4 hB2 hAl (.int .i64 e.id) (.int .i64 e.ver) (.int .i64 e.kind) (.string e.name))
        clear hB2 hB0 hb2 c0 c1 c2 c3 HB hAl
        go_wp2
        exact ⟨⟨k + 1, by omega, by go_num, hide (by rw [HS.out, List.append_assoc]; exact HB2.out), (((hbw2.setCell (Nat.le_refl _) _).setCell (Nat.le_refl _) _).setCell (Nat.le_refl _) _).setCell (Nat.le_refl _) _⟩, by simp [intOf]; omega⟩
      · have hB := HB.out
        have hlt3 : w.heap.size < wr.heap.size := by
          rcases Nat.lt_or_ge w.heap.size wr.heap.size with h' | h'
          · exact h'
          · rw [Array.getElem?_eq_none h'] at hB; cases hB
        rw [List.take_of_length_le (by omega)] at hB
        have HR := hide (row_of_block hB)
        clear hB HB
        go_wp2
        go_ret
        exact ⟨⟨_, rfl, _, _, rfl, fun _ => ⟨w.heap.size, 0, rfl, hlt3, HR.out⟩⟩, hbw⟩

set_option maxHeartbeats 1000000 in
theorem eq_all (v u : Value) (es : List Ev) (w : World) (hv : SliceOf w v es) (hu : SliceOf w u es) (hlen : es.length ≤ 1048576)
    (heq : ∀ (e : Ev) (w : World), Calls Tryz.prog 200 #[e.v, e.v] w fun e w' => e = .returned (.bool true) ∧ Below w.heap.size w w') :
    Calls Tryz.prog 177 #[v, u] w fun e w' => e = .returned (.bool true) ∧ Below w.heap.size w w' := by
  obtain ⟨a, cap, rfl, hr⟩ := hv
  obtain ⟨a2, cap2, rfl, hr2⟩ := hu
  have HEQ := hide heq
  clear heq
  by_cases he : es = []
  · subst he
    clear hr hr2
    go_enter Tryz.func177, Tryz.ntmps177
    go_wp2
    refine wp_loop_rounds 1 ?_; rw [rounds_succ]
    go_wp2
    go_ret
    exact ⟨rfl, Below.refl _ _⟩
  · obtain ⟨b, off, rfl, hlt, hrow⟩ := hr he
    obtain ⟨b2, off2, rfl, hlt2, hrow2⟩ := hr2 he
    clear hr hr2 he
    go_enter Tryz.func177, Tryz.ntmps177
    go_wp2
    go_loopw [5] (fun i wr => ∃ k : Nat, k ≤ es.length ∧ i = .int .i64 k ∧ Below w.heap.size w wr) (fun i _ => es.length - (intOf i).toNat)
    case atStart => exact ⟨0, Nat.zero_le _, rfl, Below.refl _ _⟩
    case round =>
      obtain ⟨k, hk, rfl, hbw⟩ := hrel
      by_cases hlt3 : k < es.length
      · obtain ⟨e, he⟩ : ∃ e, es[k]? = some e := ⟨es[k], List.getElem?_eq_getElem hlt3⟩
        obtain ⟨c0, c1, c2, c3⟩ := (hrow k e he).below hbw hlt
        obtain ⟨f0, f1, f2, f3⟩ := (hrow2 k e he).below hbw hlt2
        have k0 := cell_regrown c0
        have k1 := cell_regrown c1
        have k2 := cell_regrown c2
        have k3 := cell_regrown c3
        have g0 := cell_regrown f0
        have g1 := cell_regrown f1
        have g2 := cell_regrown f2
        have g3 := cell_regrown f3
        have hi0 : (0 : Int) ≤ (k : Int) := by omega
        have hi1 : (k : Int) < (es.length : Int) := by omega
        have cE : ∀ d os, Calls Tryz.prog 200 #[e.v, e.v] (grow (redrawn wr d) os) fun e w'' => e = .returned (.bool true) ∧ ∃ p : Regrown, w'' = grow (redrawn wr p.d) p.os := fun d os => Calls.regrown_of (HEQ.out e _)
        have HE := hide cE
        clear cE c0 c1 c2 c3 f0 f1 f2 f3
        go_wp2
        refine wp_region_quiet_below (by kernel_rfl) (by kernel_rfl) ?_
        repeat (quiet_step (exact HE.out _ _))
        refine wpQuiet_nil ?_
        intro _ hw'
        obtain ⟨⟨dq, osq⟩, hw''⟩ := hw'
        subst hw''
        have hbw2 := hbw.trans ((below_regrown wr dq osq).mono hbw.size)
        go_wp2
        go_roundw
        case rel => exact ⟨k + 1, by omega, by go_num, hbw2⟩
        case measure => simp [intOf]; omega
      · go_wp2
        go_ret
        exact ⟨rfl, hbw⟩
end Go.Proofs.YtfkeokglifpkoaaGreatDoor

/-
  Clocks: acts of processes, what is ahead of what, vectors, Lamport numbers, cuts. Plain mathematics over any processes P and any messages F that come from earlier acts.
-/
namespace Go.Proofs.YtfkeokglifpkoaaGreatDoor
namespace M
namespace Clk
variable (P : Nat → Nat) (F : Nat → Option Nat)
def upd {α : Type} (f : Nat → α) (i : Nat) (v : α) : Nat → α := fun j => if j = i then v else f j
theorem upd_same {α : Type} (f : Nat → α) (i : Nat) (v : α) : upd f i v i = v := by simp [upd]
theorem upd_other {α : Type} (f : Nat → α) (i j : Nat) (v : α) (h : j ≠ i) : upd f i v j = f j := by simp [upd, h]
/-- The vector of act i, from those of the acts ahead (s.1) and the latest of each process (s.2). -/
def vec (i : Nat) (s : (Nat → Nat → Nat) × (Nat → Nat → Nat)) (q : Nat) : Nat :=
  max (s.2 (P i) q) (match F i with | none => 0 | some k => s.1 k q) + if q = P i then 1 else 0
def st : Nat → (Nat → Nat → Nat) × (Nat → Nat → Nat)
  | 0 => (fun _ _ => 0, fun _ _ => 0)
  | i + 1 => (upd (st i).1 i (vec P F i (st i)), upd (st i).2 (P i) (vec P F i (st i)))
def V (i q : Nat) : Nat := vec P F i (st P F i) q
def Lat (i p q : Nat) : Nat := (st P F i).2 p q
def C : Nat → Nat → Nat
  | 0, _ => 0
  | i + 1, p => C i p + if p = P i then 1 else 0
def A (i k : Nat) : Prop := k < i ∧ C P k (P k) + 1 ≤ V P F i (P k)
instance (i k : Nat) : Decidable (A P F i k) := by unfold A; infer_instance
theorem st_fst (n k : Nat) (h : k < n) (q : Nat) : (st P F n).1 k q = V P F k q := by
  induction n with
  | zero => omega
  | succ n ih =>
    by_cases hk : k = n
    · subst hk; simp [st, upd, V]
    · simp only [st]; rw [upd_other _ _ _ _ hk]; exact ih (by omega)
theorem Lat_zero (p q : Nat) : Lat P F 0 p q = 0 := rfl
theorem Lat_succ (i p q : Nat) : Lat P F (i + 1) p q = if p = P i then V P F i q else Lat P F i p q := by
  unfold Lat V
  simp only [st, upd]
  split <;> rfl
variable (hF : ∀ i k, F i = some k → k < i)
include hF
omit hF in
theorem V_none (i q : Nat) (h : F i = none) : V P F i q = Lat P F i (P i) q + if q = P i then 1 else 0 := by
  unfold V vec Lat; rw [h]; simp
theorem V_some (i q k : Nat) (h : F i = some k) : V P F i q = max (Lat P F i (P i) q) (V P F k q) + if q = P i then 1 else 0 := by
  rw [show V P F i q = vec P F i (st P F i) q from rfl]
  unfold vec Lat; rw [h]; simp only [st_fst P F i k (hF i k h)]
omit hF in
theorem C_mono (p : Nat) {i j : Nat} (h : i ≤ j) : C P i p ≤ C P j p := by
  induction j with
  | zero => have : i = 0 := by omega
            subst this; exact Nat.le_refl _
  | succ j ih =>
    by_cases hk : i = j + 1
    · subst hk; exact Nat.le_refl _
    · have := ih (by omega); simp only [C]; omega
omit hF in
theorem C_own (k : Nat) : C P (k + 1) (P k) = C P k (P k) + 1 := by simp [C]
theorem bound (n : Nat) : (∀ p q, Lat P F n p q ≤ C P n q) ∧ (∀ p, Lat P F n p p = C P n p) ∧ ∀ k, k < n → (∀ q, V P F k q ≤ C P (k + 1) q) ∧ V P F k (P k) = C P k (P k) + 1 := by
  induction n with
  | zero => exact ⟨fun p q => by simp [Lat_zero], fun p => by simp [Lat_zero, C], fun k hk => absurd hk (by omega)⟩
  | succ n ih =>
    obtain ⟨h1, h2, h3⟩ := ih
    have hv : (∀ q, V P F n q ≤ C P (n + 1) q) ∧ V P F n (P n) = C P n (P n) + 1 := by
      cases hf : F n with
      | none =>
        refine ⟨fun q => ?_, ?_⟩
        · rw [V_none P F n q hf]; have := h1 (P n) q; simp only [C]; omega
        · rw [V_none P F n _ hf, h2]; simp
      | some k =>
        have hk := hF n k hf
        refine ⟨fun q => ?_, ?_⟩
        · rw [V_some P F hF n q k hf]
          have a := h1 (P n) q
          have b := (h3 k hk).1 q
          have c := C_mono P q (show k + 1 ≤ n by omega)
          simp only [C]; omega
        · rw [V_some P F hF n _ k hf, h2]
          have b := (h3 k hk).1 (P n)
          have c := C_mono P (P n) (show k + 1 ≤ n by omega)
          simp only [if_true]; omega
    refine ⟨fun p q => ?_, fun p => ?_, fun k hk => ?_⟩
    · rw [Lat_succ]
      split
      · exact hv.1 q
      · have := h1 p q; simp only [C]; omega
    · rw [Lat_succ]
      split
      next h => subst h; rw [hv.2]; simp [C]
      next h => rw [h2]; simp [C, h]
    · by_cases hkn : k = n
      · subst hkn; exact hv
      · exact h3 k (by omega)
theorem V_le_C (k q : Nat) : V P F k q ≤ C P (k + 1) q := ((bound P F hF (k + 1)).2.2 k (by omega)).1 q
theorem V_own (k : Nat) : V P F k (P k) = C P k (P k) + 1 := ((bound P F hF (k + 1)).2.2 k (by omega)).2
theorem Lat_le_C (n p q : Nat) : Lat P F n p q ≤ C P n q := (bound P F hF n).1 p q
theorem Lat_le_V (i q : Nat) : Lat P F i (P i) q ≤ V P F i q := by
  cases hf : F i with
  | none => rw [V_none P F i q hf]; omega
  | some k => rw [V_some P F hF i q k hf]; omega
theorem F_le_V (i k q : Nat) (h : F i = some k) : V P F k q ≤ V P F i q := by
  rw [V_some P F hF i q k h]; omega
theorem V_le_Lat (i p q k : Nat) (hk : k < i) (hp : P k = p) : V P F k q ≤ Lat P F i p q := by
  induction i with
  | zero => omega
  | succ i ih =>
    rw [Lat_succ]
    by_cases hki : k = i
    · subst hki; simp [hp]
    · have h := ih (by omega)
      split
      next hpi => subst hpi; exact Nat.le_trans h (Lat_le_V P F hF i q)
      next => exact h
omit hF in
theorem Lat_is (i p : Nat) : (∀ q, Lat P F i p q = 0) ∨ ∃ k, k < i ∧ P k = p ∧ ∀ q, Lat P F i p q = V P F k q := by
  induction i with
  | zero => exact .inl fun q => rfl
  | succ i ih =>
    by_cases hp : p = P i
    · exact .inr ⟨i, by omega, hp.symm, fun q => by rw [Lat_succ, if_pos hp]⟩
    · rcases ih with h | ⟨k, hk, hkp, h⟩
      · exact .inl fun q => by rw [Lat_succ, if_neg hp]; exact h q
      · exact .inr ⟨k, by omega, hkp, fun q => by rw [Lat_succ, if_neg hp]; exact h q⟩
/-- What stands right ahead of act i: the acts of its process, and the one that its message comes from. -/
def Dir (i k : Nat) : Prop := k < i ∧ (P k = P i ∨ F i = some k)
omit hF in
theorem Dir.lt {i k : Nat} (h : Dir P F i k) : k < i := h.1
theorem Dir.le {i k : Nat} (h : Dir P F i k) (q : Nat) : V P F k q ≤ V P F i q := by
  rcases h with ⟨hk, hp | hf⟩
  · exact Nat.le_trans (V_le_Lat P F hF i (P i) q k hk hp) (Lat_le_V P F hF i q)
  · exact F_le_V P F hF i k q hf
theorem not_late {k j : Nat} (h : C P k (P k) + 1 ≤ V P F j (P k)) : k ≤ j := by
  rcases Nat.lt_or_ge j k with hlt | hge
  · have a := V_le_C P F hF j (P k)
    have b := C_mono P (P k) (show j + 1 ≤ k by omega)
    omega
  · exact hge
theorem A_iff (i k : Nat) : A P F i k ↔ ∃ d, Dir P F i d ∧ (k = d ∨ A P F d k) := by
  constructor
  · rintro ⟨hk, hr⟩
    by_cases hp : P k = P i
    · exact ⟨k, ⟨hk, .inl hp⟩, .inl rfl⟩
    · have key : ∀ d, Dir P F i d → C P k (P k) + 1 ≤ V P F d (P k) → ∃ d, Dir P F i d ∧ (k = d ∨ A P F d k) := fun d hd h => by
        have := not_late P F hF h
        by_cases he : k = d
        · exact ⟨d, hd, .inl he⟩
        · exact ⟨d, hd, .inr ⟨by omega, h⟩⟩
      have lat : C P k (P k) + 1 ≤ Lat P F i (P i) (P k) → ∃ d, Dir P F i d ∧ (k = d ∨ A P F d k) := fun h => by
        rcases Lat_is P F i (P i) with h0 | ⟨d, hd, hdp, hl⟩
        · rw [h0] at h; omega
        · rw [hl] at h; exact key d ⟨hd, .inl hdp⟩ h
      cases hf : F i with
      | none => rw [V_none P F i _ hf, if_neg hp] at hr; exact lat (by omega)
      | some f =>
        rw [V_some P F hF i _ f hf, if_neg hp] at hr
        rcases Nat.le_total (Lat P F i (P i) (P k)) (V P F f (P k)) with hm | hm
        · exact key f ⟨hF i f hf, .inr hf⟩ (by omega)
        · exact lat (by omega)
  · rintro ⟨d, hd, h⟩
    have hle := Dir.le P F hF hd (P k)
    rcases h with rfl | ⟨hkd, h⟩
    · exact ⟨hd.1, by rw [V_own P F hF k] at hle; exact hle⟩
    · exact ⟨Nat.lt_trans hkd hd.1, Nat.le_trans h hle⟩
theorem A_le {i k : Nat} (h : A P F i k) (q : Nat) : V P F k q ≤ V P F i q := by
  induction i using Nat.strongRecOn with
  | _ i ih =>
    obtain ⟨d, hd, h⟩ := (A_iff P F hF i k).1 h
    have hle := Dir.le P F hF hd q
    rcases h with rfl | h
    · exact hle
    · exact Nat.le_trans (ih d hd.1 h) hle
/-- Fidge; Mattern: k is ahead of i just where its vector is at most that of i, and it is another. -/
theorem A_iff_le (i k m : Nat) (hk : P k < m) : A P F i k ↔ k ≠ i ∧ ∀ q, q < m → V P F k q ≤ V P F i q := by
  constructor
  · intro h; exact ⟨by have := h.1; omega, fun q _ => A_le P F hF h q⟩
  · rintro ⟨hne, h⟩
    have hr := h (P k) hk
    rw [V_own P F hF k] at hr
    have := not_late P F hF hr
    exact ⟨by omega, hr⟩
theorem rank_le_iff (i k : Nat) (hk : k ≤ i) : (k = i ∨ A P F i k) ↔ C P k (P k) + 1 ≤ V P F i (P k) := by
  constructor
  · rintro (rfl | h)
    · exact Nat.le_of_eq (V_own P F hF k).symm
    · exact h.2
  · intro h
    by_cases he : k = i
    · exact .inl he
    · exact .inr ⟨by omega, h⟩
/-- How many of the first n acts of process q stand ahead of i, or are it. -/
def cnt (i n q : Nat) : Nat := min (V P F i q) (C P n q)
omit hF in
theorem cnt_zero (i q : Nat) : cnt P F i 0 q = 0 := by simp [cnt, C]
theorem cnt_all (i q : Nat) : cnt P F i (i + 1) q = V P F i q := by
  have := V_le_C P F hF i q
  unfold cnt; omega
theorem cnt_yes (i k : Nat) (hk : k ≤ i) (h : k = i ∨ A P F i k) : cnt P F i (k + 1) (P k) = cnt P F i k (P k) + 1 := by
  have := (rank_le_iff P F hF i k hk).1 h
  unfold cnt; rw [C_own]; omega
theorem cnt_no (i k : Nat) (hk : k ≤ i) (h : ¬ (k = i ∨ A P F i k)) : cnt P F i (k + 1) (P k) = cnt P F i k (P k) := by
  have := mt (rank_le_iff P F hF i k hk).2 h
  unfold cnt; rw [C_own]; omega
omit hF in
theorem cnt_other (i k q : Nat) (h : q ≠ P k) : cnt P F i (k + 1) q = cnt P F i k q := by
  unfold cnt; simp [C, h]
/- Lamport's numbers. -/
def num (i : Nat) (s : (Nat → Nat) × (Nat → Nat)) : Nat :=
  max (s.2 (P i)) (match F i with | none => 0 | some k => s.1 k) + 1
def sn : Nat → (Nat → Nat) × (Nat → Nat)
  | 0 => (fun _ => 0, fun _ => 0)
  | i + 1 => (upd (sn i).1 i (num P F i (sn i)), upd (sn i).2 (P i) (num P F i (sn i)))
def N (i : Nat) : Nat := num P F i (sn P F i)
def LN (i p : Nat) : Nat := (sn P F i).2 p
omit hF in
theorem sn_fst (n k : Nat) (h : k < n) : (sn P F n).1 k = N P F k := by
  induction n with
  | zero => omega
  | succ n ih =>
    by_cases hk : k = n
    · subst hk; simp [sn, upd, N]
    · simp only [sn]; rw [upd_other _ _ _ _ hk]; exact ih (by omega)
omit hF in
theorem LN_succ (i p : Nat) : LN P F (i + 1) p = if p = P i then N P F i else LN P F i p := by
  unfold LN N
  simp only [sn, upd]
omit hF in
theorem N_none (i : Nat) (h : F i = none) : N P F i = LN P F i (P i) + 1 := by
  unfold N num LN; rw [h]; simp
theorem N_some (i k : Nat) (h : F i = some k) : N P F i = max (LN P F i (P i)) (N P F k) + 1 := by
  rw [show N P F i = num P F i (sn P F i) from rfl]
  unfold num LN; rw [h]; simp only [sn_fst P F i k (hF i k h)]
theorem LN_lt_N (i : Nat) : LN P F i (P i) < N P F i := by
  cases hf : F i with
  | none => rw [N_none P F i hf]; omega
  | some k => rw [N_some P F hF i k hf]; omega
theorem N_le_LN (i p k : Nat) (hk : k < i) (hp : P k = p) : N P F k ≤ LN P F i p := by
  induction i with
  | zero => omega
  | succ i ih =>
    rw [LN_succ]
    by_cases hki : k = i
    · subst hki; simp [hp]
    · have h := ih (by omega)
      split
      next hpi => subst hpi; have := LN_lt_N P F hF i; omega
      next => exact h
omit hF in
theorem LN_is (i p : Nat) : LN P F i p = 0 ∨ ∃ k, k < i ∧ P k = p ∧ LN P F i p = N P F k := by
  induction i with
  | zero => exact .inl rfl
  | succ i ih =>
    by_cases hp : p = P i
    · exact .inr ⟨i, by omega, hp.symm, by rw [LN_succ, if_pos hp]⟩
    · rcases ih with h | ⟨k, hk, hkp, h⟩
      · exact .inl (by rw [LN_succ, if_neg hp]; exact h)
      · exact .inr ⟨k, by omega, hkp, by rw [LN_succ, if_neg hp]; exact h⟩
theorem Dir.N_lt {i k : Nat} (h : Dir P F i k) : N P F k < N P F i := by
  rcases h with ⟨hk, hp | hf⟩
  · have a := N_le_LN P F hF i (P i) k hk hp
    have b := LN_lt_N P F hF i
    omega
  · rw [N_some P F hF i k hf]; omega
theorem A_N_lt {i k : Nat} (h : A P F i k) : N P F k < N P F i := by
  induction i using Nat.strongRecOn with
  | _ i ih =>
    obtain ⟨d, hd, h⟩ := (A_iff P F hF i k).1 h
    have hl := Dir.N_lt P F hF hd
    rcases h with rfl | h
    · exact hl
    · exact Nat.lt_trans (ih d hd.1 h) hl
theorem N_pos (i : Nat) : 1 ≤ N P F i := by have := LN_lt_N P F hF i; omega
/-- One more than the greatest of those ahead is Lamport's number. -/
theorem N_least (i n : Nat) (h1 : 1 ≤ n) (h2 : n ≤ N P F i) (h : ∀ k, k < i → A P F i k → N P F k < n) : n = N P F i := by
  have dir : ∀ d, Dir P F i d → N P F d < n := fun d hd => h d hd.1 ((A_iff P F hF i d).2 ⟨d, hd, .inl rfl⟩)
  have lat : LN P F i (P i) < n := by
    rcases LN_is P F i (P i) with h0 | ⟨k, hk, hp, he⟩
    · omega
    · rw [he]; exact dir k ⟨hk, .inl hp⟩
  cases hf : F i with
  | none => rw [N_none P F i hf] at h2 ⊢; omega
  | some k =>
    have := dir k ⟨hF i k hf, .inr hf⟩
    rw [N_some P F hF i k hf] at h2 ⊢; omega
theorem N_le (i : Nat) : N P F i ≤ i + 1 := by
  have key : ∀ n, (∀ p, LN P F n p ≤ n) ∧ ∀ k, k < n → N P F k ≤ k + 1 := fun n => by
    induction n with
    | zero => exact ⟨fun p => by simp [LN, sn], fun k hk => absurd hk (by omega)⟩
    | succ n ih =>
      have hv : N P F n ≤ n + 1 := by
        have a := ih.1 (P n)
        cases hf : F n with
        | none => rw [N_none P F n hf]; omega
        | some k => have := hF n k hf; have := ih.2 k this; rw [N_some P F hF n k hf]; omega
      refine ⟨fun p => ?_, fun k hk => ?_⟩
      · rw [LN_succ]; split
        · exact hv
        · have := ih.1 p; omega
      · by_cases hkn : k = n
        · subst hkn; exact hv
        · exact ih.2 k (by omega)
  exact (key (i + 1)).2 i (by omega)
omit hF in
theorem C_le (n p : Nat) : C P n p ≤ n := by
  induction n with
  | zero => simp [C]
  | succ n ih => simp only [C]; split <;> omega
theorem V_le (i q : Nat) : V P F i q ≤ i + 1 := Nat.le_trans (V_le_C P F hF i q) (C_le P (i + 1) q)
/- Cuts. -/
omit hF in
theorem C_onto (q m n : Nat) (h1 : 1 ≤ m) (h2 : m ≤ C P n q) : ∃ k, k < n ∧ P k = q ∧ C P k q + 1 = m := by
  induction n with
  | zero => simp [C] at h2; omega
  | succ n ih =>
    by_cases h : m ≤ C P n q
    · obtain ⟨k, hk, a, b⟩ := ih h; exact ⟨k, by omega, a, b⟩
    · by_cases hp : q = P n
      · refine ⟨n, by omega, hp.symm, ?_⟩
        simp only [C, if_pos hp] at h2; omega
      · simp only [C, if_neg hp] at h2; omega
/-- Act i lies in the cut. -/
def In (cut : Nat → Nat) (i : Nat) : Prop := C P i (P i) + 1 ≤ cut (P i)
instance (cut : Nat → Nat) (i : Nat) : Decidable (In P cut i) := by unfold In; infer_instance
def Whole (cut : Nat → Nat) (n : Nat) : Prop := ∀ i, i < n → In P cut i → ∀ k, A P F i k → In P cut k
theorem in_iff_le (cut : Nat → Nat) (i m : Nat) (hP : ∀ k, k ≤ i → P k < m) : (∀ k, A P F i k → In P cut k) ∧ In P cut i ↔ ∀ q, q < m → V P F i q ≤ cut q := by
  constructor
  · rintro ⟨h, hi⟩ q hq
    rcases Nat.eq_zero_or_pos (V P F i q) with h0 | h0
    · omega
    · obtain ⟨k, hk, hp, hc⟩ := C_onto P q (V P F i q) (i + 1) h0 (V_le_C P F hF i q)
      subst hp
      have : In P cut k := by
        rcases (rank_le_iff P F hF i k (by omega)).2 (by omega) with rfl | ha
        · exact hi
        · exact h k ha
      unfold In at this; omega
  · intro h
    have hi := h (P i) (hP i (Nat.le_refl _))
    rw [V_own P F hF i] at hi
    exact ⟨fun k hk => Nat.le_trans hk.2 (h (P k) (hP k (Nat.le_of_lt hk.1))), hi⟩
theorem whole_iff (cut : Nat → Nat) (n m : Nat) (hP : ∀ k, k < n → P k < m) : Whole P F cut n ↔ ∀ i, i < n → In P cut i → ∀ q, q < m → V P F i q ≤ cut q := by
  constructor
  · intro h i hi hin; exact (in_iff_le P F hF cut i m (fun k hk => hP k (by omega))).1 ⟨h i hi hin, hin⟩
  · intro h i hi hin; exact ((in_iff_le P F hF cut i m (fun k hk => hP k (by omega))).2 (h i hi hin)).1
/-- A cut is whole just where no message comes to it from without. -/
theorem whole_iff_from (cut : Nat → Nat) (n : Nat) : Whole P F cut n ↔ ∀ i, i < n → In P cut i → ∀ k, F i = some k → In P cut k := by
  constructor
  · intro h i hi hin k hk
    exact h i hi hin k ((A_iff P F hF i k).2 ⟨k, ⟨hF i k hk, .inr hk⟩, .inl rfl⟩)
  · intro h i
    induction i using Nat.strongRecOn with
    | _ i ih =>
      intro hi hin k hk
      obtain ⟨d, hd, hkd⟩ := (A_iff P F hF i k).1 hk
      have hdin : In P cut d := by
        rcases hd with ⟨hlt, hp | hf⟩
        · have := C_mono P (P i) (show d ≤ i by omega)
          unfold In at hin ⊢; rw [hp]; omega
        · exact h i hi hin d hf
      rcases hkd with rfl | hkd
      · exact hdin
      · exact ih d hd.1 (by have := hd.1; omega) hdin k hkd
theorem past_whole (j n m : Nat) (hP : ∀ k, k < n → P k < m) : Whole P F (V P F j) n := by
  rw [whole_iff P F hF _ n m hP]
  intro i _ hin q _
  have := not_late P F hF hin
  by_cases he : i = j
  · subst he; exact Nat.le_refl _
  · exact A_le P F hF ⟨by omega, hin⟩ q
end Clk
end M
end Go.Proofs.YtfkeokglifpkoaaGreatDoor

/-
  Blocks of memory that are known whole, by a function from places to values; slices of numbers and of acts that are read; arrays of six numbers as values.
-/
namespace Go.Proofs.YtfkeokglifpkoaaGreatDoor
open Go.RowKit
namespace M
open Clk (upd upd_same upd_other)
def cf (n : Nat) (f : Nat → Value) : Array Value := ((List.range n).map f).toArray
theorem cf_size (n : Nat) (f : Nat → Value) : (cf n f).size = n := by simp [cf]
theorem cf_get {n i : Nat} (f : Nat → Value) (h : i < n) : (cf n f)[i]? = some (f i) := by simp [cf, h]
theorem cf_ext {n : Nat} {f g : Nat → Value} (h : ∀ i, i < n → f i = g i) : cf n f = cf n g := by
  unfold cf; congr 1; exact List.map_congr_left fun i hi => h i (List.mem_range.1 hi)
theorem cf_set (n i : Nat) (f : Nat → Value) (v : Value) : (cf n f).setIfInBounds i v = cf n (upd f i v) := by
  apply Array.ext_getElem?
  intro j
  rw [Array.getElem?_setIfInBounds]
  by_cases hj : j < n
  · rw [cf_get (upd f i v) hj]
    by_cases hij : i = j
    · subst hij; rw [if_pos rfl, cf_size, if_pos hj, upd_same]
    · rw [if_neg hij, cf_get _ hj, upd_other _ _ _ _ (fun h => hij h.symm)]
  · have h1 : (cf n (upd f i v))[j]? = none := Array.getElem?_eq_none (by rw [cf_size]; omega)
    have h2 : (cf n f)[j]? = none := Array.getElem?_eq_none (by rw [cf_size]; omega)
    rw [h1, h2]; split
    · rw [cf_size, if_neg (by omega)]
    · rfl
theorem cf_made (z : Value) (n : Nat) : madeCells #[z] n = cf n (fun _ => z) := by
  apply Array.ext_getElem?
  intro j
  by_cases hj : j < n
  · rw [cf_get _ hj]; simp [madeCells, hj, Nat.mod_one]
  · rw [Array.getElem?_eq_none (by rw [size_madeCells]; omega), Array.getElem?_eq_none (by rw [cf_size]; omega)]
/-- Block g is whole: n cells, that of place i holding f i. -/
def Blk (w : World) (g n : Nat) (f : Nat → Value) (t : TypeId) : Prop := w.heap[g]? = some (.cells (cf n f) t (0, 0))
theorem Blk.lt {w : World} {g n : Nat} {f : Nat → Value} {t : TypeId} (h : Blk w g n f t) : g < w.heap.size := by
  rcases Nat.lt_or_ge g w.heap.size with h' | h'
  · exact h'
  · unfold Blk at h; rw [Array.getElem?_eq_none h'] at h; cases h
theorem Blk.cell {w : World} {g n : Nat} {f : Nat → Value} {t : TypeId} (h : Blk w g n f t) {i : Nat} (hi : i < n) : w.cell? ⟨g, i, none⟩ = some (f i) := by
  unfold Blk at h
  simp [World.cell?, h, cf_get f hi]
theorem Blk.thaw {w : World} {g n : Nat} {f : Nat → Value} {t : TypeId} (h : Blk w g n f t) (i : Nat) : w.frozen? ⟨g, i, none⟩ = false := by
  unfold Blk at h
  simp [World.frozen?, h]
theorem Blk.set {w : World} {g n : Nat} {f : Nat → Value} {t : TypeId} (h : Blk w g n f t) (i : Nat) (v : Value) : Blk (w.setCell ⟨g, i, none⟩ v) g n (upd f i v) t := by
  have h1 := Go.heap_setCell_same _ g i _ t v h
  rw [cf_set] at h1
  exact h1
theorem Blk.set_other {w : World} {g n : Nat} {f : Nat → Value} {t : TypeId} (h : Blk w g n f t) {g' : Nat} (hne : g ≠ g') (i : Nat) (v : Value) : Blk (w.setCell ⟨g', i, none⟩ v) g n f t := by
  unfold Blk; rw [Go.heap_setCell_other _ _ _ _ hne]; exact h
theorem Blk.alloc {w : World} {g n : Nat} {f : Nat → Value} {t : TypeId} (h : Blk w g n f t) (o : Obj) : Blk (w.alloc o) g n f t := by
  unfold Blk; rw [Below.heap_alloc w o g h.lt]; exact h
theorem Blk.below {w w' : World} {g n B : Nat} {f : Nat → Value} {t : TypeId} (h : Blk w g n f t) (hb : Below B w w') (hB : g < B) : Blk w' g n f t := by
  unfold Blk; rw [hb.block g hB]; exact h
theorem Blk.down {w w' : World} {g n : Nat} {f : Nat → Value} {t : TypeId} (h : Blk w g n f t) (hb : Below w.heap.size w w') : Blk w' g n f t := h.below hb h.lt
theorem Blk.drew {w : World} {g n : Nat} {f : Nat → Value} {t : TypeId} (h : Blk w g n f t) : Blk w.drew g n f t := h
theorem Blk.ext {w : World} {g n : Nat} {f f' : Nat → Value} {t : TypeId} (h : Blk w g n f t) (he : ∀ i, i < n → f i = f' i) : Blk w g n f' t := by
  unfold Blk; rw [← cf_ext he]; exact h
theorem Blk.new (w : World) (n : Nat) (f : Nat → Value) (t : TypeId) : Blk (w.alloc (.cells (cf n f) t)) w.heap.size n f t := heap_alloc_new w _
theorem Blk.fresh (w : World) (cs : Array Value) (n : Nat) (f : Nat → Value) (t : TypeId) (h : cs = cf n f) : Blk (w.alloc (.cells cs t)) w.heap.size n f t := by subst h; exact heap_alloc_new w _
theorem Blk.ne {w : World} {g g' n n' : Nat} {f f' : Nat → Value} {t t' : TypeId} (h : Blk w g n f t) (hg' : ¬ g' < w.heap.size) (_ : Blk w g n' f' t') : g ≠ g' := fun e => by subst e; exact hg' h.lt
/-- A slice of numbers that is read. -/
def IntsOf (w : World) (v : Value) (n : Nat) (f : Nat → Int) : Prop :=
  ∃ a cap, v = .slice a n cap ∧ (0 < n → ∃ b off, a = some ⟨b, off, none⟩ ∧ b < w.heap.size ∧ ∀ i, i < n → w.cell? ⟨b, off + i, none⟩ = some (.int .i64 (f i)))
theorem IntsOf.below {w w' : World} {v : Value} {n : Nat} {f : Nat → Int} (h : IntsOf w v n f) (hb : Below w.heap.size w w') : IntsOf w' v n f := by
  obtain ⟨a, cap, hv, hr⟩ := h
  refine ⟨a, cap, hv, fun hn => ?_⟩
  obtain ⟨b, off, ha, hlt, hrow⟩ := hr hn
  exact ⟨b, off, ha, Nat.lt_of_lt_of_le hlt hb.size, fun i hi => (hb.cell (p := ⟨b, off + i, none⟩) hlt).trans (hrow i hi)⟩
theorem IntsOf.form {w : World} {v : Value} {n : Nat} {f : Nat → Int} (h : IntsOf w v n f) : ∃ a cap, v = .slice a n cap := by
  obtain ⟨a, cap, hv, _⟩ := h; exact ⟨a, cap, hv⟩
def iv (f : Nat → Int) : Nat → Value := fun i => .int .i64 (f i)
theorem Blk.ints {w : World} {g n cap : Nat} {f : Nat → Int} {t : TypeId} (h : Blk w g n (iv f) t) : IntsOf w (.slice (some ⟨g, 0, none⟩) n cap) n f :=
  ⟨_, _, rfl, fun _ => ⟨g, 0, rfl, h.lt, fun i hi => by rw [Nat.zero_add]; exact h.cell hi⟩⟩
/-- An act, and a slice of acts that is read: l names the processes and the sources. -/
structure Ac where
  proc : Int
  frm : Int
abbrev Ac.v (a : Ac) : Value := .agg #[.int .i64 a.proc, .int .i64 a.frm]
def ActsOf (w : World) (v : Value) (n : Nat) (l : Nat → Ac) : Prop :=
  ∃ a cap, v = .slice a n cap ∧ (0 < n → ∃ b off, a = some ⟨b, off, none⟩ ∧ b < w.heap.size ∧ ∀ i, i < n → w.cell? ⟨b, off + i * 2, none⟩ = some (.int .i64 (l i).proc) ∧ w.cell? ⟨b, off + i * 2 + 1, none⟩ = some (.int .i64 (l i).frm))
theorem ActsOf.below {w w' : World} {v : Value} {n : Nat} {l : Nat → Ac} (h : ActsOf w v n l) (hb : Below w.heap.size w w') : ActsOf w' v n l := by
  obtain ⟨a, cap, hv, hr⟩ := h
  refine ⟨a, cap, hv, fun hn => ?_⟩
  obtain ⟨b, off, ha, hlt, hrow⟩ := hr hn
  exact ⟨b, off, ha, Nat.lt_of_lt_of_le hlt hb.size, fun i hi => ⟨(hb.cell (p := ⟨b, off + i * 2, none⟩) hlt).trans (hrow i hi).1, (hb.cell (p := ⟨b, off + i * 2 + 1, none⟩) hlt).trans (hrow i hi).2⟩⟩
theorem ActsOf.form {w : World} {v : Value} {n : Nat} {l : Nat → Ac} (h : ActsOf w v n l) : ∃ a cap, v = .slice a n cap := by
  obtain ⟨a, cap, hv, _⟩ := h; exact ⟨a, cap, hv⟩
def av (l : Nat → Ac) : Nat → Value := fun j => if j % 2 = 0 then .int .i64 (l (j / 2)).proc else .int .i64 (l (j / 2)).frm
theorem av_even (l : Nat → Ac) (i : Nat) : av l (i * 2) = .int .i64 (l i).proc := by
  unfold av; rw [if_pos (by omega), show i * 2 / 2 = i by omega]
theorem av_odd (l : Nat → Ac) (i : Nat) : av l (i * 2 + 1) = .int .i64 (l i).frm := by
  unfold av; rw [if_neg (by omega), show (i * 2 + 1) / 2 = i by omega]
theorem Blk.acts {w : World} {g n cap m : Nat} {l : Nat → Ac} {t : TypeId} (h : Blk w g m (av l) t) (hm : m = n * 2) : ActsOf w (.slice (some ⟨g, 0, none⟩) n cap) n l := by
  subst hm
  refine ⟨_, _, rfl, fun _ => ⟨g, 0, rfl, h.lt, fun i hi => ?_⟩⟩
  rw [Nat.zero_add, ← av_even l i, ← av_odd l i]
  exact ⟨h.cell (by omega), h.cell (by omega)⟩
/-- Six numbers as one value. -/
abbrev vecV (v : Nat → Int) : Value := .agg #[.int .i64 (v 0), .int .i64 (v 1), .int .i64 (v 2), .int .i64 (v 3), .int .i64 (v 4), .int .i64 (v 5)]
theorem cf6 (v : Nat → Int) : #[(.int .i64 (v 0) : Value), .int .i64 (v 1), .int .i64 (v 2), .int .i64 (v 3), .int .i64 (v 4), .int .i64 (v 5)] = cf 6 (iv v) := rfl
theorem Blk.cell_ints {w : World} {g n : Nat} {f : Nat → Int} {t : TypeId} (h : Blk w g n (iv f) t) {i : Nat} (hi : i < n) : w.cell? ⟨g, i, none⟩ = some (.int .i64 (f i)) := h.cell hi
theorem Blk.six {w : World} {g : Nat} {v : Nat → Int} {t : TypeId} (h : Blk w g 6 (iv v) t) :
    w.cell? ⟨g, 0, none⟩ = some (.int .i64 (v 0)) ∧ w.cell? ⟨g, 1, none⟩ = some (.int .i64 (v 1)) ∧ w.cell? ⟨g, 2, none⟩ = some (.int .i64 (v 2)) ∧ w.cell? ⟨g, 3, none⟩ = some (.int .i64 (v 3)) ∧ w.cell? ⟨g, 4, none⟩ = some (.int .i64 (v 4)) ∧ w.cell? ⟨g, 5, none⟩ = some (.int .i64 (v 5)) :=
  ⟨h.cell (by omega), h.cell (by omega), h.cell (by omega), h.cell (by omega), h.cell (by omega), h.cell (by omega)⟩
theorem iv_upd (f : Nat → Int) (i : Nat) (x : Int) : upd (iv f) i (.int .i64 x) = iv (upd f i x) := by
  funext j; unfold iv upd; split <;> rfl
theorem Blk.set_int {w : World} {g n : Nat} {f : Nat → Int} {t : TypeId} (h : Blk w g n (iv f) t) (i : Nat) (x : Int) : Blk (w.setCell ⟨g, i, none⟩ (.int .i64 x)) g n (iv (upd f i x)) t := by
  rw [← iv_upd]; exact h.set i _
end M
theorem info_int : (Tryz.prog.info? 3).map (fun i => (i.zero, i.size, i.bytes)) = some (some (.int .i64 0), 1, 8) := by kernel_rfl
theorem make_ints (n : Nat) (h : n ≤ 1048576) (w : World) : (Instr.makeSlice 163 (.int .i64 (n : Int)) (.int .i64 (n : Int))).run Tryz.prog w = .ok (.slice (some ⟨w.heap.size, 0, none⟩) n n) (w.alloc (.cells (M.cf n (M.iv fun _ => 0)) 3)) := by
  obtain ⟨i, hi, hz0, hz1, hz2⟩ := info_parts info_int
  have hr := run_make (P := Tryz.prog) w 163 3 i _ Tryz.underlying163 hi hz0 .i64 .i64 (n : Int) (n : Int) (by omega) (Int.le_refl _) (by rw [hz2]; omega) (by omega)
  rw [hr, hz1]
  simp only [Int.toNat_natCast, Nat.mul_one]
  rw [← show madeCells #[(.int .i64 0 : Value)] n = M.cf n (M.iv fun _ => 0) from M.cf_made _ n]
  rfl
end Go.Proofs.YtfkeokglifpkoaaGreatDoor

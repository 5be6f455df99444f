/-
  Texts that follow one another, joined: Rows4, StM.
-/
import Derived.Test.YtfkeokglifpkoaaDoorJoin2
/-
  Slices of events in memory: what their cells hold, and what keeps them.
-/
namespace Go.Proofs.YtfkeokglifpkoaaDoor
open Go.RowKit M
namespace M
structure Ev where
  id : Int
  ver : Int
  kind : Int
  name : ByteArray
def Ev.v (e : Ev) : Value := ev e.id e.ver e.kind e.name
def EvAt (w : World) (b o : Nat) (e : Ev) : Prop :=
  w.cell? ⟨b, o, none⟩ = some (.int .i64 e.id) ∧ w.cell? ⟨b, o + 1, none⟩ = some (.int .i64 e.ver) ∧ w.cell? ⟨b, o + 2, none⟩ = some (.int .i64 e.kind) ∧ w.cell? ⟨b, o + 3, none⟩ = some (.string e.name)
def Row (w : World) (b off : Nat) (es : List Ev) : Prop := ∀ i e, es[i]? = some e → EvAt w b (off + i * 4) e
def SliceOf (w : World) (v : Value) (es : List Ev) : Prop :=
  ∃ a cap, v = .slice a es.length cap ∧ (es ≠ [] → ∃ b off, a = some ⟨b, off, none⟩ ∧ b < w.heap.size ∧ Row w b off es)
theorem EvAt.below {w w' : World} {b o B : Nat} {e : Ev} (h : EvAt w b o e) (hb : Below B w w') (hB : b < B) : EvAt w' b o e := by
  obtain ⟨h0, h1, h2, h3⟩ := h
  exact ⟨(hb.cell hB).trans h0, (hb.cell hB).trans h1, (hb.cell hB).trans h2, (hb.cell hB).trans h3⟩
theorem Row.below {w w' : World} {b off B : Nat} {es : List Ev} (h : Row w b off es) (hb : Below B w w') (hB : b < B) : Row w' b off es :=
  fun i e hi => (h i e hi).below hb hB
theorem SliceOf.below {w w' : World} {v : Value} {es : List Ev} (h : SliceOf w v es) (hb : Below w.heap.size w w') : SliceOf w' v es := by
  obtain ⟨a, cap, hv, hr⟩ := h
  refine ⟨a, cap, hv, fun hne => ?_⟩
  obtain ⟨b, off, ha, hlt, hrow⟩ := hr hne
  exact ⟨b, off, ha, Nat.lt_of_lt_of_le hlt hb.size, hrow.below hb hlt⟩
def tot : List Ev → Nat
  | [] => 0
  | e :: r => e.name.size + tot r
theorem tot_take : ∀ (es : List Ev) (k : Nat) (e : Ev), es[k]? = some e → tot (es.take (k + 1)) = tot (es.take k) + e.name.size
  | [], k, e, h => by simp at h
  | x :: r, 0, e, h => by simp at h; subst h; simp [tot]
  | x :: r, k + 1, e, h => by
    have := tot_take r k e (by simpa using h)
    simp only [List.take_succ_cons, tot]
    omega
theorem tot_take_le : ∀ (es : List Ev) (k : Nat), tot (es.take k) ≤ tot es
  | [], k => by simp [tot]
  | x :: r, 0 => by simp [tot]
  | x :: r, k + 1 => by
    have := tot_take_le r k
    simp only [List.take_succ_cons, tot]
    omega
end M

set_option maxHeartbeats 1000000 in
theorem sz_all_yes (v : Value) (es : List Ev) (w : World) (hv : SliceOf w v es) (hl : es.length + tot es ≤ 1048576) :
    Calls Tryd.prog 37 #[v, .int .i64 1048576] w fun e w' => e = .returned (.int .i64 (1048576 - (es.length : Int) - (tot es : Nat))) ∧ Below w.heap.size w w' := by
  obtain ⟨a, cap, rfl, hr⟩ := hv
  have hge : ¬ (1048576 - (es.length : Int) < 0) := by omega
  by_cases he : es = []
  · subst he
    go_enter Tryd.func37, Tryd.ntmps37
    go_wp2
    refine wp_loop_rounds 1 ?_; rw [rounds_succ]
    go_wp2
    go_ret
    exact ⟨rfl, Below.refl _ _⟩
  · obtain ⟨b, off, rfl, hlt, hrow⟩ := hr he
    clear hr he
    go_enter Tryd.func37, Tryd.ntmps37
    go_wp2
    go_loopw [1, 5] (fun x i wr => ∃ k : Nat, k ≤ es.length ∧ i = .int .i64 k ∧ x = .int .i64 (1048576 - (es.length : Int) - (tot (es.take k) : Nat)) ∧ Below w.heap.size w wr) (fun _ i _ => es.length - (intOf i).toNat)
    case atStart => exact ⟨0, Nat.zero_le _, rfl, by simp [tot], Below.refl _ _⟩
    case round =>
      obtain ⟨k, hk, rfl, rfl, hbw⟩ := hrel
      by_cases hlt2 : k < es.length
      · obtain ⟨e, he⟩ : ∃ e, es[k]? = some e := ⟨es[k], List.getElem?_eq_getElem hlt2⟩
        obtain ⟨c0, c1, c2, c3⟩ := (hrow k e he).below hbw hlt
        have ht := tot_take es k e he
        have htl := tot_take_le es (k + 1)
        have HT := hide ht
        have hge2 : ¬ (1048576 - (es.length : Int) - ((tot (es.take k) : Nat) : Int) - (e.name.size : Int) < 0) := by omega
        go_wp2_with fail
        refine (sz_yes _ _ _ _ _ _ (by omega) (by omega) (by omega)).mono ?_
        rintro e' w2 ⟨rfl, hb2⟩
        have hbw2 := hbw.trans (hb2.mono hbw.size)
        clear hb2 c0 c1 c2 c3 ht
        go_wp2
        go_roundw
        case rel => exact ⟨k + 1, by omega, by go_num, by rw [HT.out]; go_num, hbw2⟩
        case measure => simp [intOf]; omega
      · go_wp2
        go_ret
        exact ⟨ret_int (by rw [List.take_of_length_le (by omega)]), hbw⟩

set_option maxHeartbeats 1000000 in
theorem sz_all_no (v : Value) (es : List Ev) (w : World) (hv : SliceOf w v es) (hlen : es.length ≤ maxLen) (hnm : ∀ e ∈ es, e.name.size ≤ maxLen) (hl : 1048576 < es.length + tot es) :
    Calls Tryd.prog 37 #[v, .int .i64 1048576] w fun e w' => e = .returned (.int .i64 (-1)) ∧ Below w.heap.size w w' := by
  obtain ⟨a, cap, rfl, hr⟩ := hv
  have hlen' := hlen
  unfold maxLen at hlen
  by_cases hbig : 1048576 < es.length
  · have hge : (1048576 - (es.length : Int) < 0) := by omega
    go_enter Tryd.func37, Tryd.ntmps37
    go_wp2
    go_ret
    exact ⟨rfl, Below.refl _ _⟩
  · have hge : ¬ (1048576 - (es.length : Int) < 0) := by omega
    have he : es ≠ [] := by intro h; subst h; simp [tot] at hl
    obtain ⟨b, off, rfl, hlt, hrow⟩ := hr he
    clear hr he
    go_enter Tryd.func37, Tryd.ntmps37
    go_wp2
    go_loopw [1, 5] (fun x i wr => ∃ k : Nat, k ≤ es.length ∧ i = .int .i64 k ∧ x = .int .i64 (1048576 - (es.length : Int) - (tot (es.take k) : Nat)) ∧ es.length + tot (es.take k) ≤ 1048576 ∧ Below w.heap.size w wr) (fun _ i _ => es.length - (intOf i).toNat)
    case atStart => exact ⟨0, Nat.zero_le _, rfl, by simp [tot], by simp [tot]; omega, Below.refl _ _⟩
    case round =>
      obtain ⟨k, hk, rfl, rfl, hfit, hbw⟩ := hrel
      by_cases hlt2 : k < es.length
      · obtain ⟨e, he⟩ : ∃ e, es[k]? = some e := ⟨es[k], List.getElem?_eq_getElem hlt2⟩
        obtain ⟨c0, c1, c2, c3⟩ := (hrow k e he).below hbw hlt
        have HT := hide (tot_take es k e he)
        have hne := hnm e (List.mem_of_getElem? he)
        by_cases hfit2 : es.length + tot (es.take k) + e.name.size ≤ 1048576
        · have hge2 : ¬ (1048576 - (es.length : Int) - ((tot (es.take k) : Nat) : Int) - (e.name.size : Int) < 0) := by omega
          go_wp2_with fail
          refine (sz_yes _ _ _ _ _ _ (by omega) (by omega) (by omega)).mono ?_
          rintro e' w2 ⟨rfl, hb2⟩
          have hbw2 := hbw.trans (hb2.mono hbw.size)
          clear hb2 c0 c1 c2 c3
          go_wp2
          go_roundw
          case rel => exact ⟨k + 1, by omega, by go_num, by rw [HT.out]; go_num, by rw [HT.out]; omega, hbw2⟩
          case measure => simp [intOf]; omega
        · have hm1 : ((-1 : Int) < 0) := by omega
          go_wp2_with fail
          refine (sz_no _ _ _ _ _ _ hne (by omega) (by omega) (by omega)).mono ?_
          rintro e' w2 ⟨rfl, hb2⟩
          have hbw2 := hbw.trans (hb2.mono hbw.size)
          clear hb2 c0 c1 c2 c3
          go_wp2
          go_ret
          exact ⟨rfl, hbw2⟩
      · exfalso
        rw [List.take_of_length_le (by omega)] at hfit
        omega

namespace M
/-- The cells of some events, one behind the other. -/
def cellsE : List Ev → List Value
  | [] => []
  | e :: r => .int .i64 e.id :: .int .i64 e.ver :: .int .i64 e.kind :: .string e.name :: cellsE r
theorem cellsE_len : ∀ es : List Ev, (cellsE es).length = es.length * 4
  | [] => rfl
  | e :: r => by simp [cellsE, cellsE_len r]; omega
theorem cellsE_at : ∀ (es : List Ev) (i : Nat) (e : Ev), es[i]? = some e → (cellsE es)[i * 4]? = some (.int .i64 e.id) ∧ (cellsE es)[i * 4 + 1]? = some (.int .i64 e.ver) ∧ (cellsE es)[i * 4 + 2]? = some (.int .i64 e.kind) ∧ (cellsE es)[i * 4 + 3]? = some (.string e.name)
  | [], i, e, h => by simp at h
  | x :: r, 0, e, h => by simp at h; subst h; simp [cellsE]
  | x :: r, i + 1, e, h => by
    obtain ⟨a, b, c, d⟩ := cellsE_at r i e (by simpa using h)
    have q : (i + 1) * 4 = i * 4 + 1 + 1 + 1 + 1 := by omega
    rw [q]
    simp only [cellsE, List.getElem?_cons_succ, a, b, c, d, and_self]
theorem cellsE_append : ∀ a b : List Ev, cellsE (a ++ b) = cellsE a ++ cellsE b
  | [], b => rfl
  | e :: r, b => by simp [cellsE, cellsE_append r b]
theorem row_of_block {w : World} {b : Nat} {es : List Ev} {rest : List Value} {t : TypeId} {fr : Nat × Nat} (h : w.heap[b]? = some (.cells (cellsE es ++ rest).toArray t fr)) : Row w b 0 es := by
  intro i e hi
  obtain ⟨a, b', c, d⟩ := cellsE_at es i e hi
  have hil : i < es.length := by
    rcases Nat.lt_or_ge i es.length with h' | h'
    · exact h'
    · rw [List.getElem?_eq_none h'] at hi; cases hi
  have hl := cellsE_len es
  have q : ∀ j, i * 4 + j < es.length * 4 → w.cell? ⟨b, 0 + i * 4 + j, none⟩ = (cellsE es)[i * 4 + j]? := fun j hj => by
    simp only [World.cell?, h, Nat.zero_add, List.getElem?_toArray]
    rw [List.getElem?_append_left (by omega)]; rfl
  exact ⟨(q 0 (by omega)).trans a, (q 1 (by omega)).trans b', (q 2 (by omega)).trans c, (q 3 (by omega)).trans d⟩
end M
end Go.Proofs.YtfkeokglifpkoaaDoor

/-
  The mathematics of states that events make: what an event makes of a state, whether it may come, and how many events may.
-/
namespace Go.Proofs.YtfkeokglifpkoaaDoor
open Go.RowKit M
namespace M
/-- What an event makes of a state, where it may come. -/
def raw (s : St) (e : Ev) : St :=
  if e.kind = 1 then ⟨1, s.nx + 1, s.ca, s.dn, s.sg, s.tm⟩
  else if e.kind = 2 then ⟨s.st, s.nx + 1, s.ca, s.dn, s.sg ++ [e.name], s.tm⟩
  else if e.kind = 3 then ⟨s.st, s.nx + 1, s.ca, s.dn + 1, s.sg, s.tm⟩
  else if e.kind = 4 then ⟨s.st, s.nx + 1, s.ca, s.dn, s.sg, tog s.tm e.name⟩
  else if e.kind = 5 then ⟨s.st, s.nx + 1, true, s.dn, s.sg, s.tm⟩
  else ⟨2, s.nx + 1, s.ca, s.dn, s.sg, []⟩
def Ev.gd (e : Ev) : Bool := goodB e.id e.ver e.kind e.name
def May (s : St) (e : Ev) : Prop := e.gd = true ∧ e.id = s.nx ∧ s.st = (if e.kind = 1 then 0 else 1) ∧ (e.kind = 5 → s.ca = false) ∧ GoodSt (raw s e)
/-- The state behind the first k events. -/
def sk (es : List Ev) (k : Nat) : St := (es.take k).foldl raw st0
theorem sk_zero (es : List Ev) : sk es 0 = st0 := rfl
theorem sk_succ {es : List Ev} {k : Nat} {e : Ev} (h : es[k]? = some e) : sk es (k + 1) = raw (sk es k) e := by
  have hk : k < es.length := by
    rcases Nat.lt_or_ge k es.length with h' | h'
    · exact h'
    · rw [List.getElem?_eq_none h'] at h; cases h
  rw [List.getElem?_eq_getElem hk] at h
  simp only [Option.some.injEq] at h
  unfold sk
  rw [List.take_succ_eq_append_getElem hk, List.foldl_append, h]; rfl
def AllM (es : List Ev) (k : Nat) : Prop := ∀ i e, i < k → es[i]? = some e → May (sk es i) e
theorem AllM.succ {es : List Ev} {k : Nat} {e : Ev} (h : AllM es k) (he : es[k]? = some e) (hm : May (sk es k) e) : AllM es (k + 1) := fun i x hi hx => by
  by_cases c : i = k
  · subst c; rw [he] at hx; simp at hx; subst hx; exact hm
  · exact h i x (by omega) hx
theorem AllM.good {es : List Ev} : ∀ {k : Nat}, AllM es k → k ≤ es.length → GoodSt (sk es k)
  | 0, _, _ => good0
  | k + 1, h, hk => by
    have he : es[k]? = some es[k] := List.getElem?_eq_getElem (by omega)
    rw [sk_succ he]
    exact (h k _ (by omega) he).2.2.2.2
/-- Just k events may come. -/
def End (es : List Ev) (k : Nat) : Prop := k ≤ es.length ∧ AllM es k ∧ ∀ e, es[k]? = some e → ¬ May (sk es k) e
theorem End.uniq {es : List Ev} {k j : Nat} (h : End es k) (h2 : End es j) : k = j := by
  have key : ∀ {k j : Nat}, End es k → End es j → ¬ k < j := fun {k j} h h2 c => by
    have hk : k < es.length := by have := h2.1; omega
    have he : es[k]? = some es[k] := List.getElem?_eq_getElem hk
    exact h.2.2 _ he (h2.2.1 k _ c he)
  have a := key h h2
  have b := key h2 h
  omega
theorem End.ex (es : List Ev) : ∃ k, End es k := by
  have key : ∀ d k, k + d = es.length → AllM es k → ∃ k, End es k := fun d => by
    induction d with
    | zero => exact fun k hk h => ⟨k, by omega, h, fun e he => by rw [List.getElem?_eq_none (by omega)] at he; cases he⟩
    | succ d ih =>
      intro k hk h
      have he : es[k]? = some es[k] := List.getElem?_eq_getElem (by omega)
      by_cases c : May (sk es k) es[k]
      · exact ih (k + 1) (by omega) (h.succ he c)
      · exact ⟨k, by omega, h, fun e h' => by rw [he] at h'; simp at h'; subst h'; exact c⟩
  exact key es.length 0 (by omega) (fun i e hi => by omega)
/-- Versions that do not fall. -/
def Vup (es : List Ev) (n : Nat) : Prop := ∀ i d e, i + 1 < n → es[i]? = some d → es[i + 1]? = some e → d.ver ≤ e.ver
def Hist (es : List Ev) : Prop := es.length ≤ 60 ∧ End es es.length ∧ Vup es es.length
end M
end Go.Proofs.YtfkeokglifpkoaaDoor

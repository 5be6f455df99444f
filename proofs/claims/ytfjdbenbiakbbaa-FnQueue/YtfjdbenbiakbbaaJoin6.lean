/-
  A queue over a line that loses: which queues are good, what a step makes of one, what draining makes of one: plain mathematics.
-/
import Derived.Test.YtfjdbenbiakbbaaJoin3
namespace Go.Proofs.Ytfjdbenbiakbbaa
open Go.RowKit M
namespace M
structure Pk where
  ack : Bool
  no : Int
  tx : ByteArray
abbrev Pks := List Pk
structure Qu where
  win : Int
  sent : Txs
  base : Int
  got : Txs
  line : Pks
structure Lst where
  kind : Int
  k : Int
  tx : ByteArray
abbrev Lsts := List Lst
def qu0 : Qu := ⟨0, [], 0, [], []⟩
/-- A packet is as said. -/
def PkOk (q : Qu) (p : Pk) : Prop :=
  (p.ack = true ∧ 0 ≤ p.no ∧ p.no ≤ q.got.length ∧ p.tx = ⟨#[]⟩) ∨ (p.ack = false ∧ 0 ≤ p.no ∧ p.no < q.sent.length ∧ p.no < q.base + q.win ∧ q.sent[p.no.toNat]? = some p.tx)
structure GoodQ (q : Qu) : Prop where
  w0 : 1 ≤ q.win
  w1 : q.win ≤ 10
  s40 : q.sent.length ≤ 40
  gs : q.got.length ≤ q.sent.length
  b0 : 0 ≤ q.base
  bg : q.base ≤ q.got.length
  l40 : q.line.length ≤ 40
  tx : ∀ (i : Nat) (s : ByteArray), q.sent[i]? = some s → s.size ≤ 12
  beg : ∀ (i : Nat) (s : ByteArray), i < q.got.length → q.sent[i]? = some s → q.got[i]? = some s
  pk : ∀ (i : Nat) (p : Pk), q.line[i]? = some p → PkOk q p
def newQ (w : Int) : Qu := ⟨w, [], 0, [], []⟩
theorem good_new {w : Int} (h0 : 1 ≤ w) (h1 : w ≤ 10) : GoodQ (newQ w) :=
  ⟨h0, h1, by simp [newQ], by simp [newQ], by simp [newQ], by simp [newQ], by simp [newQ], by simp [newQ], by simp [newQ], by simp [newQ]⟩
def putQ (q : Qu) (p : Pk) : Qu := { q with line := q.line ++ [p] }
theorem PkOk.put {q : Qu} {p x : Pk} (h : PkOk q x) : PkOk (putQ q p) x := h
theorem good_put {q : Qu} {p : Pk} (h : GoodQ q) (hl : q.line.length ≠ 40) (hp : PkOk q p) : GoodQ (putQ q p) := by
  refine ⟨h.w0, h.w1, h.s40, h.gs, h.b0, h.bg, ?_, h.tx, h.beg, ?_⟩
  · have := h.l40
    simp only [putQ, List.length_append, List.length_cons, List.length_nil]; omega
  · intro i x hx
    simp only [putQ] at hx
    rw [List.getElem?_append] at hx
    split at hx
    · exact (h.pk i x hx).put
    · have : x = p := by
        generalize i - q.line.length = j at hx
        match j, hx with
        | 0, hx => simp at hx; exact hx.symm
      subst this
      exact PkOk.put hp
/-- A text is put behind what was sent. -/
def sendQ (q : Qu) (t : ByteArray) : Qu := { q with sent := q.sent ++ [t] }
theorem good_send {q : Qu} {t : ByteArray} (h : GoodQ q) (hl : q.sent.length ≠ 40) (ht : t.size ≤ 12) : GoodQ (sendQ q t) := by
  have hs := h.s40
  have hg := h.gs
  refine ⟨h.w0, h.w1, ?_, ?_, h.b0, h.bg, h.l40, ?_, ?_, ?_⟩
  · simp only [sendQ, List.length_append, List.length_cons, List.length_nil]; omega
  · simp only [sendQ, List.length_append, List.length_cons, List.length_nil]; omega
  · intro i s hi
    simp only [sendQ] at hi
    rw [List.getElem?_append] at hi
    split at hi
    · exact h.tx i s hi
    · generalize i - q.sent.length = j at hi
      match j, hi with
      | 0, hi => simp at hi; subst hi; exact ht
  · intro i s hi hx
    simp only [sendQ] at hi hx ⊢
    rw [List.getElem?_append_left (by omega)] at hx
    exact h.beg i s hi hx
  · intro i p hp
    simp only [sendQ] at hp
    rcases h.pk i p hp with ⟨a, b, c, d⟩ | ⟨a, b, c, d, e⟩
    · exact .inl ⟨a, b, c, d⟩
    · refine .inr ⟨a, b, ?_, d, ?_⟩
      · simp only [sendQ, List.length_append, List.length_cons, List.length_nil]; omega
      · simp only [sendQ]
        rw [List.getElem?_append_left (by omega)]
        exact e
/-- A packet leaves the line. -/
def outQ (q : Qu) (k : Nat) : Qu := { q with line := q.line.take k ++ q.line.drop (k + 1) }
theorem out_len {q : Qu} {k : Nat} (hk : k < q.line.length) : (outQ q k).line.length + 1 = q.line.length := by
  simp only [outQ, List.length_append, List.length_take, List.length_drop]; omega
theorem good_out {q : Qu} {k : Nat} (h : GoodQ q) (hk : k < q.line.length) : GoodQ (outQ q k) := by
  have hl := out_len hk
  have h40 := h.l40
  refine ⟨h.w0, h.w1, h.s40, h.gs, h.b0, h.bg, by omega, h.tx, h.beg, ?_⟩
  intro i p hp
  have hm : p ∈ q.line := by
    have : p ∈ q.line.take k ++ q.line.drop (k + 1) := List.mem_of_getElem? hp
    rcases List.mem_append.1 this with h' | h'
    · exact List.mem_of_mem_take h'
    · exact List.mem_of_mem_drop h'
  obtain ⟨j, hj⟩ := List.getElem?_of_mem hm
  exact h.pk j p hj
/-- What an Ack tells. -/
def ackQ (q : Qu) (n : Int) : Qu := { q with base := if q.base < n then n else q.base }
theorem ack_le (q : Qu) (n : Int) : q.base ≤ (ackQ q n).base := by simp only [ackQ]; split <;> omega
theorem good_ack {q : Qu} {n : Int} (h : GoodQ q) (hn : n ≤ q.got.length) : GoodQ (ackQ q n) := by
  have hb := ack_le q n
  have h0 := h.b0
  have hg := h.bg
  refine ⟨h.w0, h.w1, h.s40, h.gs, by omega, ?_, h.l40, h.tx, h.beg, ?_⟩
  · simp only [ackQ]; split <;> omega
  · intro i p hp
    rcases h.pk i p hp with ⟨a, b, c, d⟩ | ⟨a, b, c, d, e⟩
    · exact .inl ⟨a, b, c, d⟩
    · exact .inr ⟨a, b, c, by have : (ackQ q n).win = q.win := rfl; omega, e⟩
/-- A text comes. -/
def gotQ (q : Qu) (p : Pk) : Qu := if p.no = q.got.length then { q with got := q.got ++ [p.tx] } else q
theorem got_le (q : Qu) (p : Pk) : q.got.length ≤ (gotQ q p).got.length := by
  unfold gotQ; split
  · simp
  · exact Nat.le_refl _
theorem good_got {q : Qu} {p : Pk} (h : GoodQ q) (hp : PkOk q p) (ha : p.ack = false) : GoodQ (gotQ q p) := by
  unfold gotQ
  split
  · rename_i hno
    rcases hp with ⟨a, _⟩ | ⟨_, b, c, d, e⟩
    · rw [ha] at a; cases a
    · have hg : q.got.length < q.sent.length := by omega
      have hb := h.bg
      have e' : q.sent[q.got.length]? = some p.tx := by rw [hno] at e; simpa using e
      refine ⟨h.w0, h.w1, h.s40, ?_, h.b0, ?_, h.l40, h.tx, ?_, ?_⟩
      · simp only [List.length_append, List.length_cons, List.length_nil]; omega
      · simp only [List.length_append, List.length_cons, List.length_nil]; omega
      · intro i s hi hs
        simp only [List.length_append, List.length_cons, List.length_nil] at hi
        dsimp only
        by_cases hlt : i < q.got.length
        · rw [List.getElem?_append_left hlt]; exact h.beg i s hlt hs
        · obtain rfl : i = q.got.length := by omega
          have hs' : q.sent[q.got.length]? = some s := hs
          rw [e'] at hs'
          cases hs'
          simp
      · intro i x hx
        rcases h.pk i x hx with ⟨a, b, c, d⟩ | r
        · exact .inl ⟨a, b, by simp only [List.length_append, List.length_cons, List.length_nil]; omega, d⟩
        · exact .inr r
  · exact h
def kAt (q : Qu) (k : Int) : Option Pk := if 0 ≤ k then q.line[k.toNat]? else none
def sAt (q : Qu) (k : Int) : Option ByteArray := if q.base ≤ k ∧ k < q.base + q.win then q.sent[k.toNat]? else none
/-- What taking a packet does. -/
def takeQ (q : Qu) (k : Nat) (p : Pk) : Qu :=
  if p.ack = true then ackQ (outQ q k) p.no else putQ (gotQ (outQ q k) p) ⟨true, ((gotQ (outQ q k) p).got.length : Nat), ⟨#[]⟩⟩
/-- A step; none where nothing can be done. -/
def stp (q : Qu) (s : Lst) : Option Qu :=
  if s.kind = 1 then (if q.sent.length = 40 ∨ 12 < s.tx.size then none else some (sendQ q s.tx))
  else if s.kind = 2 then (match sAt q s.k with
    | none => none
    | some t => if q.line.length = 40 then none else some (putQ q ⟨false, s.k, t⟩))
  else match kAt q s.k with
    | none => none
    | some p =>
      if s.kind = 5 then (if q.line.length = 40 then none else some (putQ q p))
      else if s.kind = 3 then some (takeQ q s.k.toNat p)
      else if s.kind = 4 then some (outQ q s.k.toNat)
      else none
theorem kAt_some {q : Qu} {k : Int} {p : Pk} (h : kAt q k = some p) : 0 ≤ k ∧ q.line[k.toNat]? = some p ∧ k.toNat < q.line.length := by
  unfold kAt at h
  split at h
  · exact ⟨by assumption, h, (List.getElem?_eq_some_iff.1 h).1⟩
  · cases h
theorem sAt_some {q : Qu} {k : Int} {t : ByteArray} (h : sAt q k = some t) : q.base ≤ k ∧ k < q.base + q.win ∧ q.sent[k.toNat]? = some t ∧ k.toNat < q.sent.length := by
  unfold sAt at h
  split at h
  · rename_i hc; exact ⟨hc.1, hc.2, h, (List.getElem?_eq_some_iff.1 h).1⟩
  · cases h
theorem outQ_ok {q : Qu} {k : Nat} {p : Pk} (h : PkOk q p) : PkOk (outQ q k) p := h
theorem good_take {q : Qu} {k : Nat} {p : Pk} (h : GoodQ q) (hp : q.line[k]? = some p) : GoodQ (takeQ q k p) ∧ q.got.length ≤ (takeQ q k p).got.length ∧ q.base ≤ (takeQ q k p).base := by
  have hk : k < q.line.length := (List.getElem?_eq_some_iff.1 hp).1
  have hok := h.pk k p hp
  have ho := good_out h hk
  have hl := out_len hk
  have h40 := h.l40
  unfold takeQ
  split
  · rename_i ha
    rcases hok with ⟨_, b, c, d⟩ | ⟨a, _⟩
    · exact ⟨good_ack ho c, Nat.le_refl _, ack_le (outQ q k) p.no⟩
    · rw [ha] at a; cases a
  · rename_i ha
    have ha' : p.ack = false := by simpa using ha
    have hg := good_got ho (outQ_ok (k := k) hok) ha'
    have hgl : (gotQ (outQ q k) p).line.length = (outQ q k).line.length := by unfold gotQ; split <;> rfl
    have hgb : (gotQ (outQ q k) p).base = q.base := by unfold gotQ; split <;> rfl
    refine ⟨good_put hg (by omega) (.inl ⟨rfl, by dsimp only; omega, by dsimp only; omega, rfl⟩), got_le (outQ q k) p, ?_⟩
    show q.base ≤ (gotQ (outQ q k) p).base
    omega
theorem good_stp {q q' : Qu} {s : Lst} (h : GoodQ q) (hs : stp q s = some q') : GoodQ q' ∧ q.got.length ≤ q'.got.length ∧ q.base ≤ q'.base := by
  unfold stp at hs
  split at hs
  · split at hs
    · cases hs
    · rename_i hc
      cases hs
      exact ⟨good_send h (by omega) (by omega), Nat.le_refl _, Int.le_refl _⟩
  · split at hs
    · split at hs
      · cases hs
      · rename_i t ht
        obtain ⟨a, b, c, d⟩ := sAt_some ht
        have h0 := h.b0
        split at hs
        · cases hs
        · cases hs
          exact ⟨good_put h (by assumption) (.inr ⟨rfl, by dsimp only; omega, by dsimp only; omega, b, c⟩), Nat.le_refl _, Int.le_refl _⟩
    · split at hs
      · cases hs
      · rename_i p hp
        obtain ⟨a, b, c⟩ := kAt_some hp
        split at hs
        · split at hs
          · cases hs
          · cases hs
            exact ⟨good_put h (by assumption) (h.pk _ p b), Nat.le_refl _, Int.le_refl _⟩
        · split at hs
          · cases hs
            exact good_take h b
          · split at hs
            · cases hs
              exact ⟨good_out h c, Nat.le_refl _, Int.le_refl _⟩
            · cases hs
end M
end Go.Proofs.Ytfjdbenbiakbbaa

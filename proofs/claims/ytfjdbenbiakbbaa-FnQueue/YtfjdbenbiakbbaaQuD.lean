/-
  A queue that is played and one that is drained: plain mathematics.
-/
import Derived.Test.YtfjdbenbiakbbaaQuM
namespace Go.Proofs.Ytfjdbenbiakbbaa
open Go.RowKit M
namespace M
theorem good_empty {q : Qu} (h : GoodQ q) : GoodQ { q with line := [] } :=
  ⟨h.w0, h.w1, h.s40, h.gs, h.b0, h.bg, by simp, h.tx, h.beg, by simp⟩
/-- Whose beginning has come has come whole when it is as long. -/
theorem got_all {q : Qu} (h : GoodQ q) (he : q.got.length = q.sent.length) : q.got = q.sent := by
  apply List.ext_getElem?
  intro i
  by_cases hi : i < q.got.length
  · have h2 : i < q.sent.length := by omega
    have := h.beg i _ hi (List.getElem?_eq_getElem h2)
    rw [this, List.getElem?_eq_getElem h2]
  · rw [List.getElem?_eq_none (by omega), List.getElem?_eq_none (by omega)]
theorem got_take {q : Qu} (h : GoodQ q) : q.got = q.sent.take q.got.length := by
  apply List.ext_getElem?
  intro i
  have hgs := h.gs
  by_cases hi : i < q.got.length
  · have h2 : i < q.sent.length := by omega
    have := h.beg i _ hi (List.getElem?_eq_getElem h2)
    rw [this, List.getElem?_take_of_lt hi, List.getElem?_eq_getElem h2]
  · rw [List.getElem?_eq_none (by omega), List.getElem?_eq_none (by rw [List.length_take]; omega)]
/-- What has come behind one try of the text t, that has the number Base. -/
def gotT (q : Qu) (t : ByteArray) : Txs := if q.base = q.got.length then q.got ++ [t] else q.got
/-- One try on an empty line. -/
def rndQ (q : Qu) (t : ByteArray) : Qu := ⟨q.win, q.sent, ((gotT q t).length : Nat), gotT q t, []⟩
theorem gotT_gt {q : Qu} (h : GoodQ q) (t : ByteArray) : q.base < ((gotT q t).length : Nat) := by
  have := h.bg
  unfold gotT
  split
  · simp only [List.length_append, List.length_cons, List.length_nil]; omega
  · omega
/-- The three steps of a try. -/
theorem try_send {q : Qu} {t x : ByteArray} (h : GoodQ q) (ht : q.sent[q.base.toNat]? = some t) : stp { q with line := [] } ⟨2, q.base, x⟩ = some { q with line := [⟨false, q.base, t⟩] } := by
  have h0 := h.w0
  have hs : sAt { q with line := [] } q.base = some t := by
    unfold sAt
    rw [if_pos ⟨Int.le_refl _, by dsimp only; omega⟩]
    exact ht
  unfold stp
  rw [if_neg (by dsimp only; omega), if_pos rfl]
  dsimp only
  rw [hs]
  simp [putQ]
theorem try_take {q : Qu} {t x : ByteArray} : stp { q with line := [⟨false, q.base, t⟩] } ⟨3, 0, x⟩ = some { q with got := gotT q t, line := [⟨true, ((gotT q t).length : Nat), ⟨#[]⟩⟩] } := by
  unfold stp
  rw [if_neg (by dsimp only; omega), if_neg (by dsimp only; omega)]
  simp only [kAt, Int.le_refl, if_true, Int.toNat_zero, List.getElem?_cons_zero]
  rw [if_neg (by decide)]
  simp only [takeQ, outQ, Bool.false_eq_true, if_false, List.take_zero, List.drop_succ_cons, List.drop_zero, List.append_nil]
  unfold gotQ gotT
  dsimp only
  split <;> simp [putQ]
theorem try_ack {q : Qu} {t x : ByteArray} (h : GoodQ q) : stp { q with got := gotT q t, line := [⟨true, ((gotT q t).length : Nat), ⟨#[]⟩⟩] } ⟨3, 0, x⟩ = some (rndQ q t) := by
  have hg := gotT_gt h t
  unfold stp
  rw [if_neg (by dsimp only; omega), if_neg (by dsimp only; omega)]
  simp only [kAt, Int.le_refl, if_true, Int.toNat_zero, List.getElem?_cons_zero]
  rw [if_neg (by decide)]
  simp only [if_true, takeQ, outQ, ackQ, List.take_zero, List.drop_succ_cons, List.drop_zero, List.nil_append]
  rw [if_pos hg]
  rfl
theorem good_rnd {q : Qu} {t : ByteArray} (h : GoodQ q) (ht : q.sent[q.base.toNat]? = some t) : GoodQ (rndQ q t) := by
  have e := good_empty h
  have a := (good_stp e (try_send (x := ⟨#[]⟩) h ht)).1
  have b := (good_stp a (try_take (x := ⟨#[]⟩))).1
  exact (good_stp b (try_ack (x := ⟨#[]⟩) h)).1
/-- Draining, f tries at most. -/
def drn : Nat → Qu → Qu × Nat
  | 0, q => (q, 0)
  | f + 1, q => match q.sent[q.base.toNat]? with
    | none => (q, 0)
    | some t => ((drn f (rndQ q t)).1, (drn f (rndQ q t)).2 + 1)
theorem drn_sent : ∀ (f : Nat) (q : Qu), (drn f q).1.sent = q.sent ∧ (drn f q).1.win = q.win
  | 0, q => ⟨rfl, rfl⟩
  | f + 1, q => by
    unfold drn
    split
    · exact ⟨rfl, rfl⟩
    · exact drn_sent f _
theorem drn_end : ∀ (f : Nat) (q : Qu), GoodQ q → (q.sent.length : Int) - q.base ≤ f → GoodQ (drn f q).1 ∧ (drn f q).1.base = q.sent.length ∧ ((drn f q).2 : Int) ≤ q.sent.length - q.base
  | 0, q, h, hf => by
    have := h.bg
    have := h.gs
    exact ⟨h, by show q.base = _; omega, by show ((0 : Nat) : Int) ≤ _; omega⟩
  | f + 1, q, h, hf => by
    have hb := h.bg
    have hgs := h.gs
    have h0 := h.b0
    unfold drn
    split
    · rename_i hn
      have : q.sent.length ≤ q.base.toNat := by
        rcases Nat.lt_or_ge q.base.toNat q.sent.length with h' | h'
        · rw [List.getElem?_eq_getElem h'] at hn; cases hn
        · exact h'
      exact ⟨h, by show q.base = _; omega, by show ((0 : Nat) : Int) ≤ _; omega⟩
    · rename_i t ht
      have hr := good_rnd h ht
      have hg := gotT_gt h t
      have hs : (rndQ q t).sent = q.sent := rfl
      have hbb : (rndQ q t).base = ((gotT q t).length : Nat) := rfl
      obtain ⟨a, b, c⟩ := drn_end f (rndQ q t) hr (by rw [hs, hbb]; omega)
      rw [hs] at b c
      rw [hbb] at c
      exact ⟨a, b, by dsimp only; omega⟩
/-- Drained: all has come. -/
theorem drained {f : Nat} {q : Qu} (h : GoodQ q) (hf : (q.sent.length : Int) - q.base ≤ f) : (drn f q).1.got = q.sent := by
  obtain ⟨a, b, c⟩ := drn_end f q h hf
  have hs := (drn_sent f q).1
  have h1 := a.bg
  have h2 := a.gs
  have := got_all a (by rw [hs] at h2 ⊢; omega)
  rw [this, hs]
/-- Steps that are played: the queue, and whether each was done. -/
def ply (q : Qu) : List Lst → Qu × List Bool
  | [] => (q, [])
  | s :: l => match stp q s with
    | none => ((ply q l).1, false :: (ply q l).2)
    | some q' => ((ply q' l).1, true :: (ply q' l).2)
theorem ply_len : ∀ (l : List Lst) (q : Qu), (ply q l).2.length = l.length
  | [], q => rfl
  | s :: l, q => by
    unfold ply
    split <;> simp [ply_len l]
theorem good_ply : ∀ (l : List Lst) (q : Qu), GoodQ q → GoodQ (ply q l).1
  | [], q, h => h
  | s :: l, q, h => by
    unfold ply
    split
    · exact good_ply l q h
    · rename_i q' hq
      exact good_ply l q' (good_stp h hq).1
theorem ply_snoc : ∀ (l : List Lst) (q : Qu) (s : Lst), ply q (l ++ [s]) = match stp (ply q l).1 s with
    | none => ((ply q l).1, (ply q l).2 ++ [false])
    | some q' => (q', (ply q l).2 ++ [true])
  | [], q, s => by
    simp only [List.nil_append, ply]
  | a :: l, q, s => by
    rw [List.cons_append]
    cases hq : stp q a with
    | none =>
      have e1 : ∀ m, ply q (a :: m) = ((ply q m).1, false :: (ply q m).2) := fun m => by rw [ply]; simp only [hq]
      rw [e1, e1, ply_snoc l q s]
      dsimp only
      cases stp (ply q l).1 s <;> rfl
    | some q' =>
      have e1 : ∀ m, ply q (a :: m) = ((ply q' m).1, true :: (ply q' m).2) := fun m => by rw [ply]; simp only [hq]
      rw [e1, e1, ply_snoc l q' s]
      dsimp only
      cases stp (ply q' l).1 s <;> rfl
/-- The texts that were put. -/
def putsOf : List Lst → List Bool → Txs
  | s :: l, d :: ds => if d = true ∧ s.kind = 1 then s.tx :: putsOf l ds else putsOf l ds
  | _, _ => []
theorem stp_sent {q q' : Qu} {s : Lst} (h : stp q s = some q') : q'.sent = q.sent ++ (if s.kind = 1 then [s.tx] else []) := by
  unfold stp at h
  split at h
  · rename_i hk
    rw [if_pos hk]
    split at h
    · cases h
    · cases h; rfl
  · rename_i hk
    rw [if_neg hk, List.append_nil]
    split at h
    · split at h
      · cases h
      · split at h
        · cases h
        · cases h; rfl
    · split at h
      · cases h
      · split at h
        · split at h
          · cases h
          · cases h; rfl
        · split at h
          · cases h
            unfold takeQ
            split
            · rfl
            · unfold gotQ; split <;> rfl
          · split at h
            · cases h; rfl
            · cases h
theorem ply_sent : ∀ (l : List Lst) (q : Qu), (ply q l).1.sent = q.sent ++ putsOf l (ply q l).2
  | [], q => by simp [ply, putsOf]
  | s :: l, q => by
    unfold ply
    split
    · rw [ply_sent l q]
      simp [putsOf]
    · rename_i q' hq
      rw [ply_sent l q', stp_sent hq]
      by_cases hk : s.kind = 1 <;> simp [putsOf, hk]
end M
end Go.Proofs.Ytfjdbenbiakbbaa

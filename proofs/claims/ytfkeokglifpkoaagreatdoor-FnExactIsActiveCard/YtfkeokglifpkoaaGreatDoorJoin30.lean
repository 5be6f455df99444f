/-
  Texts that follow one another, joined: SgRp, RgK.
-/
import Derived.Test.YtfkeokglifpkoaaGreatDoorJoin29
import Derived.Test.YtfkeokglifpkoaaGreatDoorJoin24
import Derived.Test.YtfkeokglifpkoaaGreatDoorJoin27
import Derived.Test.YtfkeokglifpkoaaGreatDoorJoin19
import Derived.Lib.QuietBelow
import Derived.BigQuiet
import Derived.Deep.RegionWith
/-
  A region that draws its order, reads, and ends in one operation that stands behind all others, be it a deferred call.
-/
namespace Go.Proofs.YtfkeokglifpkoaaGreatDoor
open Go.RowKit
open Go.Sort (grow)
namespace M
section
variable {P : Program} {C : World → Prop}
/-- No operation is guarded, and each stands behind earlier ones alone. -/
def sOkP (l : List Oper) : Bool := (List.range l.length).all fun i => match l[i]? with
  | some o => o.guard.isNone && o.after.all fun e => !Region.binds .any e || decide (e.on < i)
  | none => false
/-- The shape that both theorems speak of. -/
structure Shape3 (ops ops' : Array Oper) (s : Nat) (st : Oper) : Prop where
  size : ops'.size = ops.size
  top : s + 1 = ops.size
  same : ∀ i, i < s → ops'[i]? = ops[i]?
  at_ : ops[s]? = some st
  at' : ops'[s]? = some (noop st)
  ok : ∀ i o, ops[i]? = some o → o.guard = none ∧ ∀ e ∈ o.after, Region.binds .any e = true → e.on < i
  last : ∀ j, j < s → ∃ k o, j < k ∧ ops[k]? = some o ∧ ∃ e ∈ o.after, Region.binds .any e = true ∧ e.on = j
theorem Shape3.ready {ops ops' : Array Oper} {s : Nat} {st : Oper} (h : Shape3 ops ops' s st) {listed : Array Bool} {i : Nat} : i ∈ Region.ready .any ops' listed ↔ i ∈ Region.ready .any ops listed := by
  rw [mem_ready, mem_ready, h.size]
  refine and_congr_right fun hi => and_congr_right fun _ => ?_
  by_cases hs : i < s
  · rw [h.same i hs]
  · obtain rfl : i = s := by have := h.top; omega
    rw [h.at_, h.at']
    constructor
    · rintro ⟨o, ho, hh⟩; cases ho; exact ⟨st, rfl, hh⟩
    · rintro ⟨o, ho, hh⟩; cases ho; exact ⟨noop st, rfl, hh⟩
/-- As long as the last one is left something may come up. -/
theorem Shape3.some_ready {ops ops' : Array Oper} {s : Nat} {st : Oper} (h : Shape3 ops ops' s st) {listed : Array Bool} (hl : listed.size = ops.size) (hs : listed.getD s true = false) : ∃ i, i ∈ Region.ready .any ops listed := by
  have htop := h.top
  have key : ∀ n, n ≤ s → (∃ i, i ∈ Region.ready .any ops listed) ∨ ∀ j, j < n → listed.getD j true = true := by
    intro n
    induction n with
    | zero => intro _; exact .inr fun j hj => absurd hj (by omega)
    | succ n ih =>
      intro hn
      rcases ih (by omega) with h1 | h1
      · exact .inl h1
      · cases hd : listed.getD n true with
        | true =>
          refine .inr fun j hj => ?_
          rcases (show j < n ∨ j = n by omega) with h2 | h2
          · exact h1 j h2
          · subst h2; exact hd
        | false =>
          refine .inl ⟨n, mem_ready.2 ⟨by omega, hd, ops[n]'(by omega), by simp, fun e he hb => ?_⟩⟩
          have := (h.ok n (ops[n]'(by omega)) (by simp)).2 e he hb
          have h3 := h1 e.on this
          rw [Array.getD_eq_getD_getElem?] at h3 ⊢
          rw [Array.getElem?_eq_getElem (by omega)] at h3 ⊢
          exact h3
  rcases key s (Nat.le_refl _) with h1 | h1
  · exact h1
  · refine ⟨s, mem_ready.2 ⟨by omega, hs, st, h.at_, fun e he hb => ?_⟩⟩
    have := (h.ok s st h.at_).2 e he hb
    have h3 := h1 e.on this
    rw [Array.getD_eq_getD_getElem?] at h3 ⊢
    rw [Array.getElem?_eq_getElem (by omega)] at h3 ⊢
    exact h3
theorem any_storeP {ops ops' : Array Oper} {s : Nat} {st : Oper} (h : Shape3 ops ops' s st) {Qa : Act → Prop} {Q : Exit → Act → World → Prop} (hst : ∀ a w, C w → Qa a → wpList P #[st] Q [st] a w) :
    ∀ (fuel : Nat) (listed : Array Bool) (a : Act) (w : World), listed.size = ops.size → LstD ops listed → listed.getD s true = false → C w → wpAnyQ P .any ops' C Qa fuel listed a → wpAny P .any ops Q fuel listed a w
  | 0, listed, a, w, hl, _, hs, hw, hq => by
    obtain ⟨i, hi⟩ := h.some_ready hl hs
    have := h.ready.2 hi
    rw [hq.1] at this; cases this
  | fuel + 1, listed, a, w, hl, hL, hs, hw, hq => by
    refine ⟨fun h0 => ?_, fun i hi => ?_⟩
    · obtain ⟨i, hi⟩ := h.some_ready hl hs
      rw [h0] at hi; cases hi
    · have hq2 := hq.2 i (h.ready.2 hi)
      obtain ⟨hi1, hi2, o, ho, hi3⟩ := mem_ready.1 hi
      obtain ⟨hg, hon⟩ := h.ok i o ho
      have hli : i < listed.size := by omega
      have hwant : ∀ (ops : Array Oper) (o : Oper), o.guard = none → Region.wanted o (yielded ops a.tmps) = true := fun ops o hg => by simp [Region.wanted, hg]
      by_cases his : i < s
      · have ho' : ops'[i]? = some o := by rw [h.same i his]; exact ho
        unfold qOp at hq2
        simp only [ho', hwant _ o hg, if_true] at hq2
        unfold wpOp
        simp only [ho, hwant _ o hg, if_true]
        refine .inl (Oper.wp_of_quiet hw (fun a' w' hw' hk => any_storeP h hst fuel _ a' w' (by simp [hl]) (hL.set hli fun o' ho' e he hb => by rw [ho] at ho'; cases ho'; exact hi3 e he hb) ?_ hw' hk) hq2)
        rw [getD_set hli, if_neg (by omega)]; exact hs
      · obtain rfl : i = s := by have := h.top; omega
        obtain rfl : o = st := by rw [h.at_] at ho; cases ho; rfl
        have hgn : (noop o).guard = none := hg
        unfold qOp at hq2
        simp only [h.at', hwant _ _ hgn, if_true] at hq2
        obtain ⟨v, _, hk⟩ := hq2
        have hput : a.put (noop o).dst v = a := rfl
        rw [hput] at hk
        have hnone : ∀ j, j ∉ Region.ready .any ops (listed.setIfInBounds i true) := fun j hj => by
          obtain ⟨h1, h2, _⟩ := mem_ready.1 hj
          rw [getD_set hli] at h2
          by_cases hji : j = i
          · rw [if_pos hji] at h2; cases h2
          · rw [if_neg hji] at h2
            have key : ∀ n j, j < i → i - j ≤ n → listed.getD j false = true := by
              intro n
              induction n with
              | zero => intro j hj hn; omega
              | succ n ih =>
                intro j hj hn
                obtain ⟨k, ok, hjk, hok, e, he, hb, heq⟩ := h.last j hj
                have hkt : k < ops.size := (Array.getElem?_eq_some_iff.1 hok).1
                rw [← heq]
                by_cases hki : k = i
                · subst hki; rw [ho] at hok; cases hok; exact hi3 e he hb
                · exact hL k ok hok (ih k (by have := h.top; omega) (by omega)) e he hb
            have := key (i - j) j (by have := h.top; omega) (Nat.le_refl _)
            rw [Array.getD_eq_getD_getElem?] at this h2
            rw [Array.getElem?_eq_getElem (by omega)] at this h2
            simp only [Option.getD_some] at this h2
            rw [this] at h2; cases h2
        have hn0 : Region.ready .any ops (listed.setIfInBounds i true) = [] := List.eq_nil_iff_forall_not_mem.2 hnone
        have hn0' : Region.ready .any ops' (listed.setIfInBounds i true) = [] := List.eq_nil_iff_forall_not_mem.2 fun j hj => hnone j (h.ready.1 hj)
        have hQa : Qa a := by
          cases fuel with
          | zero => exact hk.2
          | succ f => exact hk.1 hn0'
        unfold wpOp
        simp only [h.at_, hwant _ o hg, if_true]
        have q2 := hst a w hw hQa
        have hK : (fun a' w' => Q .normal a' w') = wpAny P .any ops Q fuel (listed.setIfInBounds i true) := by
          funext a' w'
          cases fuel with
          | zero => exact propext ⟨fun hh => ⟨hn0, hh⟩, fun hh => hh.2⟩
          | succ f => exact propext ⟨fun hh => ⟨fun _ => hh, fun j hj => absurd hj (hnone j)⟩, fun hh => hh.1 hn0⟩
        unfold wpList at q2
        rw [if_pos (by simp [Region.wanted, hg])] at q2
        rcases q2 with q2 | q2
        · refine .inl ?_
          rw [← hK]; exact q2
        · exact .inr q2
theorem shape_of3 {l : List Oper} {st : Oper} (hl : l.getLast? = some st) (h1 : sOkP l = true) (h2 : lastOk2 l = true) : Shape3 l.toArray (still l).toArray (l.length - 1) st := by
  have hne : l ≠ [] := fun e => by rw [e] at hl; cases hl
  have hpos : 0 < l.length := List.length_pos_iff.2 hne
  have hstill : still l = l.dropLast ++ [noop st] := by unfold still; rw [hl]; rfl
  have hlen : (still l).length = l.length := by rw [hstill]; simp; omega
  refine ⟨by simp [hlen], by simp; omega, fun i hi => ?_, ?_, ?_, fun i o ho => ?_, fun j hj => ?_⟩
  · rw [List.getElem?_toArray, List.getElem?_toArray, hstill, List.getElem?_append_left (by simp; omega), List.getElem?_dropLast, if_pos hi]
  · rw [List.getElem?_toArray, ← List.getLast?_eq_getElem?]; exact hl
  · rw [List.getElem?_toArray, hstill, List.getElem?_append_right (by simp)]; simp
  · rw [List.getElem?_toArray] at ho
    have hi : i < l.length := (List.getElem?_eq_some_iff.1 ho).1
    unfold sOkP at h1
    rw [List.all_eq_true] at h1
    have := h1 i (List.mem_range.2 hi)
    rw [ho] at this
    simp only [Bool.and_eq_true, Option.isNone_iff_eq_none, Array.all_eq_true_iff_forall_mem] at this
    refine ⟨this.1, fun e he hb => ?_⟩
    have h3 := this.2 e he
    rw [hb] at h3
    simpa using h3
  · unfold lastOk2 at h2
    rw [List.all_eq_true] at h2
    have := h2 j (List.mem_range.2 hj)
    rw [List.any_eq_true] at this
    obtain ⟨k, _, hk⟩ := this
    rw [Bool.and_eq_true, decide_eq_true_eq] at hk
    obtain ⟨hjk, hk⟩ := hk
    cases ho : l[k]? with
    | none => rw [ho] at hk; cases hk
    | some o =>
      rw [ho] at hk
      simp only at hk
      rw [← Array.any_toList, List.any_eq_true] at hk
      obtain ⟨e, he, hb⟩ := hk
      rw [Bool.and_eq_true, beq_iff_eq] at hb
      exact ⟨k, o, hjk, by rw [List.getElem?_toArray]; exact ho, e, by simpa using he, hb.1, hb.2⟩
end
section
variable {P : Program}
theorem region_lastP {l : List Oper} {st : Oper} {id : Nat} {Q : Exit → Act → World → Prop} {a : Act} {w : World} (hl : l.getLast? = some st) (h1 : sOkP l = true) (h2 : lastOk2 l = true) (hm : P.follows .mixedOrders = true) (hB : Region.lexB .any (still l).toArray = true)
    (hq : wpQuiet P (still l).toArray (fun w' => ∃ p : Regrown, w' = grow (redrawn w p.d) p.os) (fun a' => ∀ w', (∃ p : Regrown, w' = grow (redrawn w p.d) p.os) → wpList P #[st] Q [st] a' w') (still l) a) :
    (Code.region id l.toArray true).wp P Q a w := by
  have hsh := shape_of3 hl h1 h2
  simp only [Region.lexB, Bool.and_eq_true] at hB
  have hlen : (still l).length = l.length := by have := hsh.size; simpa using this
  have hpos : 0 < l.length := by have := hsh.top; simp at this; omega
  refine wp_region_any hm ?_
  have hx := wpAnyQ_lex (P := P) (C := fun w' => ∃ p : Regrown, w' = grow (redrawn w p.d) p.os) (md := .any) hB.1 (still l) 0 (Array.replicate (still l).toArray.size false) a (by simp) (by simpa using hB.2) hq
  have := any_storeP (P := P) (C := fun w' => ∃ p : Regrown, w' = grow (redrawn w p.d) p.os) hsh (Q := Q) (fun a' w' hw' hQ => hQ w' hw') (still l).length (Array.replicate (still l).toArray.size false) a { w with drawn := w.drawn + 1 } (by simp [hlen]) (fun i o _ hi => by
    rw [Array.getD_eq_getD_getElem?, Array.getElem?_replicate] at hi; split at hi <;> cases hi) (by
    rw [Array.getD_eq_getD_getElem?, Array.getElem?_replicate, if_pos (by simp [hlen]; omega)]; rfl) ⟨⟨w.drawn + 1, #[]⟩, by rw [Go.Sort.grow_empty]; rfl⟩ hx
  rw [hlen] at this
  simpa [hlen] using this
end
end M
end Go.Proofs.YtfkeokglifpkoaaGreatDoor

/-
  A region at work in the program's text: its keeper, the call that it takes. Condition: the table knownKinds reads as its text lays it.
-/
namespace Go.Proofs.YtfkeokglifpkoaaGreatDoor
open Go.RowKit M
open Clk (upd upd_same upd_other)
open Go.Sort (grow)
namespace M
/-- What was there is as it was, but for blocks of which S tells. -/
structure Chg (S : Nat → Prop) (w w' : World) : Prop where
  os : w'.os = w.os
  tape : w'.tape = w.tape
  output : w'.output = w.output
  size : w.heap.size ≤ w'.heap.size
  block : ∀ k, k < w.heap.size → ¬ S k → w'.heap[k]? = w.heap[k]?
theorem Chg.trans {S S2 : Nat → Prop} {a b c : World} (h : Chg S a b) (h2 : Chg S2 b c) (hs : ∀ k, S2 k → S k ∨ a.heap.size ≤ k) : Chg S a c :=
  ⟨h2.os.trans h.os, h2.tape.trans h.tape, h2.output.trans h.output, Nat.le_trans h.size h2.size, fun k hk hn => (h2.block k (Nat.lt_of_lt_of_le hk h.size) (fun e => by
    rcases hs k e with h' | h'
    · exact hn h'
    · omega)).trans (h.block k hk hn)⟩
theorem Below.chg {w w' : World} (h : Below w.heap.size w w') (S : Nat → Prop) : Chg S w w' := ⟨h.os, h.tape, h.output, h.size, fun k hk _ => h.block k hk⟩
theorem Chg.gb {S : Nat → Prop} {w w' : World} {row : Option Nat} (h : w.grownBy w' row) (hr : ∀ g, row = some g → S g) : Chg S w w' :=
  ⟨h.os, h.tape, h.output, h.size, fun k hk hn => h.block k hk (fun e => hn (hr k e.symm))⟩
theorem Chg.low {S : Nat → Prop} {w w' : World} {B : Nat} (h : Chg S w w') (hS : ∀ k, S k → B ≤ k) (hB : B ≤ w.heap.size) : Below B w w' :=
  ⟨h.os, h.tape, h.output, h.size, fun k hk => h.block k (by omega) (fun e => by have := hS k e; omega)⟩
theorem Chg.mono {S S2 : Nat → Prop} {w w' : World} (h : Chg S w w') (hs : ∀ k, S k → S2 k) : Chg S2 w w' := ⟨h.os, h.tape, h.output, h.size, fun k hk hn => h.block k hk (fun e => hn (hs k e))⟩
theorem Blk.chg {S : Nat → Prop} {w w' : World} {g n : Nat} {f : Nat → Value} {t : TypeId} (h : Blk w g n f t) (hc : Chg S w w') (hn : ¬ S g) : Blk w' g n f t := by
  unfold Blk; rw [hc.block g h.lt hn]; exact h
theorem owns_chg {S : Nat → Prop} {w w' : World} {B e s n : Nat} {v : Value} {l : List Value} (h : w.ownsRow B e s v n l) (hc : Chg S w w') (hn : ∀ k, v.ownBlock = some k → ¬ S k) : w'.ownsRow B e s v n l := by
  refine ⟨h.1, ?_⟩
  rcases h.2 with h0 | ⟨g, cap, cur, hv, hBg, hb, r⟩
  · exact .inl h0
  · refine .inr ⟨g, cap, cur, hv, hBg, ?_, r⟩
    rw [hc.block g ?_ (hn g (by rw [hv]; rfl))]
    · exact hb
    · rcases Nat.lt_or_ge g w.heap.size with h' | h'
      · exact h'
      · rw [Array.getElem?_eq_none h'] at hb; cases hb
theorem owns_set {w : World} {B e s n g : Nat} {v : Value} {l : List Value} (h : w.ownsRow B e s v n l) (hn : v.ownBlock ≠ some g) (o : Nat) (u : Value) : (w.setCell ⟨g, o, none⟩ u).ownsRow B e s v n l :=
  owns_other h (gbT_set (gbT_refl w (some g))) (fun g' hg' e => hn (by rw [hg', e]))
theorem owns_ne_blk {w : World} {B g n e s m : Nat} {v : Value} {xs : List Value} {f : Nat → Value} {t : TypeId} (h : w.ownsRow B e s v m xs) (hb : Blk w g n f t) (ht : e ≠ t) : v.ownBlock ≠ some g := by
  intro hv
  rcases h.2 with ⟨rfl, _⟩ | ⟨g', cap, cur, rfl, _, hg, _⟩
  · cases hv
  · simp only [Value.ownBlock, Option.some.injEq] at hv
    subst hv
    unfold Blk at hb
    rw [hg] at hb
    simp only [Option.some.injEq, Obj.cells.injEq] at hb
    exact ht hb.2.1
/-- A region at work: its box, and branches of its own. -/
structure KP (W : World) (B g : Nat) (u : Value) (ps : Prs) (id ver : Int) : Prop where
  box : Blk W g 3 (q3 u (.int .i64 id) (.int .i64 ver)) 97
  own : OwnP W B u ps
  lo : B ≤ g
def KS (g : Nat) (u : Value) (q : Nat) : Prop := q = g ∨ u.ownBlock = some q
theorem KP.down {W W' : World} {B g : Nat} {u : Value} {ps : Prs} {id ver : Int} (h : KP W B g u ps id ver) (hb : Below W.heap.size W W') : KP W' B g u ps id ver := ⟨h.box.down hb, h.own.down hb, h.lo⟩
theorem KP.ks {W : World} {B g : Nat} {u : Value} {ps : Prs} {id ver : Int} (h : KP W B g u ps id ver) : ∀ q, KS g u q → B ≤ q := by
  rintro q (rfl | e)
  · exact h.lo
  · exact (h.own.rowBlock e).1
theorem KP.apart {W : World} {B g : Nat} {u : Value} {ps : Prs} {id ver : Int} (h : KP W B g u ps id ver) : u.ownBlock ≠ some g := owns_ne_blk h.own.row h.box (by decide)
theorem OwnP.set_off {w : World} {B g i n : Nat} {v : Value} {ps : Prs} {f : Nat → Value} {t : TypeId} (h : OwnP w B v ps) (hb : Blk w g n f t) (h1 : 81 ≠ t) (h2 : 74 ≠ t) (x : Value) : OwnP (w.setCell ⟨g, i, none⟩ x) B v ps :=
  ⟨owns_set h.row (owns_ne_blk h.row hb h1) i x, fun p hp => owns_set (h.evs p hp) (owns_ne_blk (h.evs p hp) hb h2) i x, h.ap⟩
theorem OwnP.cap {w : World} {B : Nat} {v : Value} {ps : Prs} {i : Nat} {p : Value × Evs} (h : OwnP w B v ps) (hp : ps[i]? = some p) : CapOk p.1 := by
  rcases (h.evs p (List.mem_of_getElem? hp)).split with ⟨e, _⟩ | ⟨g, cap, rest, e, _, _, hc, _⟩
  · rw [e]; exact Nat.le_refl 0
  · rw [e]; exact hc
end M
set_option maxHeartbeats 1000000 in
/-- The history that counts, of branches of the call's own: it has room for what it holds. -/
theorem impl_currentO (B : Nat) (v : Value) (ps : Prs) (w : World) (h : OwnP w B v ps) (hg : GdT (bsP ps)) :
    Calls Tryz.prog 77 #[.agg #[v]] w fun e w' => (∃ a c, e = .returned (.slice a (cB (bsP ps)).length c) ∧ (cB (bsP ps)).length ≤ c ∧ SliceOf w' (.slice a (cB (bsP ps)).length c) (cB (bsP ps))) ∧ Below w.heap.size w w' := by
  have hf : FineS (bsP ps) := hg.2.fine (by have := hg.1; omega)
  by_cases h0 : bsP ps = []
  · have hcb : cB (bsP ps) = [] := by unfold cB; rw [if_pos h0]
    rw [hcb]
    obtain ⟨a1, c1, rfl⟩ := h.form
    have hl : ps.length = 0 := by have := bsP_len ps; rw [h0] at this; simpa using this.symm
    rw [hl]
    refine (current_none a1 c1 w).mono ?_
    rintro e w' ⟨rfl, hb⟩
    exact ⟨⟨none, 0, rfl, Nat.le_refl _, ⟨none, 0, rfl, fun h => absurd rfl h⟩⟩, hb⟩
  · have hp : 0 < (bsP ps).length := List.length_pos_iff.2 h0
    have hcb : cB (bsP ps) = curB (bsP ps) := if_neg h0
    rw [hcb]
    have HO := hide h
    refine (current_among _ (bsP ps) w h.brs hf hp hg).mono ?_
    rintro e w' ⟨⟨a, c, rfl, hs, hcell⟩, hb⟩
    refine ⟨⟨a, c, rfl, ?_, hs.below hb⟩, hb⟩
    have hcu := cur_b hp
    obtain ⟨u, hu⟩ := bsP_at hcu
    rcases HO.out.split with ⟨rfl, e0⟩ | ⟨g, cap, rfl, -⟩
    · rw [e0] at h0; exact absurd rfl h0
    · have h1 := hcell g 0 _ _ rfl
      rw [Nat.zero_add] at h1
      have h2 := own1_cell HO.out.row (vsP_at hu)
      rw [h2] at h1
      simp only [Option.some.injEq] at h1
      have h3 := HO.out.cap hu
      simp only [h1] at h3
      exact h3
set_option maxHeartbeats 1000000 in
theorem copy_tell (v : Value) (bs : Brs) (w : World) (hv : BrsOf w v bs) (hf : FineS bs) (ht : ∀ b ∈ bs, Tl b) :
    Calls Tryz.prog 104 #[.agg #[v]] w fun e w' => (∃ r ps, e = .returned (.agg #[r]) ∧ OwnP w' w.heap.size r ps ∧ bsP ps = bs) ∧ Below w.heap.size w w' := by
  have HV := hide hv
  have HF := hide hf
  have HT := hide ht
  obtain ⟨a1, c1, rfl⟩ := hv.form
  obtain ⟨W, hW⟩ : ∃ W, (w.alloc (.cells #[.slice a1 bs.length c1] 32)).alloc (.cells #[.slice none 0 0] 32) = W := ⟨_, rfl⟩
  obtain ⟨m0, m1, hbW, hsW⟩ := two1 w _ _ _ _ W hW.symm
  have HW := hide hW
  clear hv hf ht hW
  go_enter Tryz.func104, Tryz.ntmps104
  go_wp2_with fail
  rw [HW.out]
  refine (copy_brs _ bs _ (HV.out.below hbW) HF.out HT.out).mono ?_
  rintro e w2 ⟨⟨r, ps, rfl, hO, hps⟩, hb2⟩
  have n1 := m1.down hb2
  have e1 := n1.cell
  have r1 := n1.thaw
  have HO := hide (hO.mono (show w.heap.size + 1 + 1 ≤ W.heap.size by omega))
  have HPS := hide hps
  obtain ⟨ar, cr, rfl⟩ := hO.form
  have hbx := hbW.trans (hb2.mono (by omega))
  have HN := hide (n1.set (.slice ar ps.length cr))
  clear hO hps hb2 hbW HV m0 m1 n1 HW
  go_wp2
  have e2 := HN.out.cell
  refine bodyPost_ret (v := .agg #[.slice ar ps.length cr]) (by simp [results, Tryz.results104, go_sem, e2]) rfl ⟨⟨_, ps, rfl, ?_, HPS.out⟩, ?_⟩
  · exact (HO.out.set_low (by omega) _).mono (by omega)
  · exact hbx.setCell (p := ⟨w.heap.size + 1, 0, none⟩) (by show w.heap.size ≤ w.heap.size + 1; omega) _
set_option maxHeartbeats 1000000 in
theorem keeper_of (id ver : Int) (v : Value) (bs : Brs) (w : World) (hv : BrsOf w v bs) (hf : FineS bs) (ht : ∀ b ∈ bs, Tl b) :
    Calls Tryz.prog 58 #[rv id ver v] w fun e w' => (∃ g u ps, e = .returned (.pointer (some ⟨g, 0, none⟩)) ∧ KP w' w.heap.size g u ps id ver ∧ bsP ps = bs) ∧ Below w.heap.size w w' := by
  have hal := low1 w (.cells #[.int .i64 id, .int .i64 ver, v] 34)
  have HV := hide (hv.below hal)
  have HC := hide (new3 w (.int .i64 id) (.int .i64 ver) v 34)
  have HF := hide hf
  have HT := hide ht
  obtain ⟨a1, c1, rfl⟩ := hv.form
  obtain ⟨⟨d0, d1, d2⟩, -⟩ := HC.out.tri
  obtain ⟨W, hW⟩ : ∃ W, w.alloc (.cells #[.int .i64 id, .int .i64 ver, .slice a1 bs.length c1] 34) = W := ⟨_, rfl⟩
  rw [hW] at HV HC hal d0 d1 d2
  have HM := hide (show ∀ wx wy : World, wx.heap = W.heap → Below wx.heap.size wx wy → wy.cell? ⟨w.heap.size, 0, none⟩ = some (.int .i64 id) ∧ wy.cell? ⟨w.heap.size, 1, none⟩ = some (.int .i64 ver) ∧ wy.cell? ⟨w.heap.size, 2, none⟩ = some (.slice a1 bs.length c1) from fun wx wy hh hb => by
    have h : Blk wx w.heap.size 3 (q3 (.int .i64 id) (.int .i64 ver) (.slice a1 bs.length c1)) 34 := by unfold Blk; rw [hh]; exact HC.out
    exact (h.down hb).tri.1)
  have HW := hide hW
  clear hv hf ht hW
  go_enter Tryz.func58, Tryz.ntmps58
  go_upto_region 1 with fail
  rw [HW.out]
  clear HW
  go_region_with (go_at_call 104; refine (copy_tell _ bs _ (HV.out.below (Below.refl _ _).drew) HF.out HT.out).mono ?_; rintro e w2 ⟨⟨r, ps, rfl, hO, hps⟩, hb2⟩; obtain ⟨m0, m1, m2⟩ := HM.out W.drew w2 rfl hb2; have HO := hide hO; have HPS := hide hps; obtain ⟨ar, cr, rfl⟩ := hO.form; clear hO hps)
  all_goals
    have hbx := hal.trans (((Below.refl W.heap.size W).drew.trans hb2).mono hal.size)
    have hal3 := low1 w2 (.cells #[.slice ar ps.length cr, .int .i64 id, .int .i64 ver] 97)
    have HK := hide (show KP (w2.alloc (.cells #[.slice ar ps.length cr, .int .i64 id, .int .i64 ver] 97)) w.heap.size w2.heap.size (.slice ar ps.length cr) ps id ver from ⟨new3 w2 _ _ _ _, (HO.out.mono hal.size).down hal3, hbx.size⟩)
    have hbz := hbx.trans (hal3.mono hbx.size)
    clear hbx hal3 HO HM hb2 m0 m1 m2 d0 d1 d2
    go_wp2
    go_ret
    exact ⟨⟨_, _, ps, rfl, HK.out, HPS.out⟩, hbz⟩
set_option maxHeartbeats 1000000 in
theorem keeper_region (id ver : Int) (g B : Nat) (u : Value) (ps : Prs) (w : World) (h : KP w B g u ps id ver) :
    Calls Tryz.prog 60 #[.pointer (some ⟨g, 0, none⟩)] w fun e w' => e = .returned (rv id ver u) ∧ Below w.heap.size w w' := by
  have hal := low1 w (.cells #[.int .i64 0, .int .i64 0, .slice none 0 0] 34)
  have HR := hide (new3 w (.int .i64 0) (.int .i64 0) (.slice none 0 0) 34)
  have HK := hide (h.down hal)
  obtain ⟨a1, c1, rfl⟩ := h.own.form
  obtain ⟨W, hW⟩ : ∃ W, w.alloc (.cells #[.int .i64 0, .int .i64 0, .slice none 0 0] 34) = W := ⟨_, rfl⟩
  rw [hW] at HR HK hal
  have HW := hide hW
  obtain ⟨⟨d0, d1, d2⟩, -⟩ := HK.out.box.tri
  have k0 := cell_regrown d0
  have k1 := cell_regrown d1
  have k2 := cell_regrown d2
  clear h hW
  go_enter Tryz.func60, Tryz.ntmps60
  go_upto_region 1 with fail
  rw [HW.out]
  refine region_lastP rfl (by kernel_rfl) (by kernel_rfl) rfl (by kernel_rfl) ?_
  simp only [still, noop, List.dropLast, List.getLast?_cons_cons, List.getLast?_singleton, Option.map_some, Option.toList_some, List.cons_append, List.nil_append, List.getLast_cons_cons, List.getLast_singleton]
  repeat (go_big_quiet_step (fail))
  refine wpQuiet_nil ?_
  rintro _ ⟨⟨dq, osq⟩, rfl⟩
  have hbg := below_regrown W dq osq
  have hR := HR.out.down hbg
  have hbw := hal.trans (hbg.mono hal.size)
  obtain ⟨W1, hW1⟩ : ∃ W1, grow (redrawn W dq) osq = W1 := ⟨_, rfl⟩
  rw [hW1] at hR hbw ⊢
  clear hW1 hbg k0 k1 k2 d0 d1 d2 HW HK HR hal
  obtain ⟨⟨e0, e1, e2⟩, f0, f1, f2⟩ := hR.tri
  obtain ⟨WZ, hWZ⟩ : ∃ WZ, ((W1.setCell ⟨w.heap.size, 0, none⟩ (.int .i64 id)).setCell ⟨w.heap.size, 1, none⟩ (.int .i64 ver)).setCell ⟨w.heap.size, 2, none⟩ (.slice a1 ps.length c1) = WZ := ⟨_, rfl⟩
  have HZ := hide (show Blk WZ w.heap.size 3 (q3 (.int .i64 id) (.int .i64 ver) (.slice a1 ps.length c1)) 34 ∧ Below w.heap.size w WZ from by
    rw [← hWZ]
    exact ⟨hR.put3 _ _ _, ((hbw.setCell (p := ⟨w.heap.size, 0, none⟩) (Nat.le_refl _) _).setCell (p := ⟨w.heap.size, 1, none⟩) (Nat.le_refl _) _).setCell (p := ⟨w.heap.size, 2, none⟩) (Nat.le_refl _) _⟩)
  have HWZ := hide hWZ
  clear hWZ hR hbw
  go_wp2
  rw [HWZ.out]
  clear e0 e1 e2 f0 f1 f2
  obtain ⟨⟨e0, e1, e2⟩, -⟩ := HZ.out.1.tri
  exact bodyPost_ret (v := rv id ver (.slice a1 ps.length c1)) (by simp [results, Tryz.results60, go_sem, e0, e1, e2]) rfl ⟨rfl, HZ.out.2⟩
end Go.Proofs.YtfkeokglifpkoaaGreatDoor

/-
  Texts that follow one another, joined: SgRp, QuQ, QuDa.
-/
import Derived.Test.YtfjdbenbiakbbaaJoin17
import Derived.Test.YtfjdbenbiakbbaaJoin15
import Derived.Deep.RegionHeld3
import Derived.Deep.Cut
import Derived.Maps.AppendAt
import Derived.Laws.AppendOwnNone
/-
  A region that draws its order, reads, and ends in one operation that stands behind all others, be it a deferred call.
-/
namespace Go.Proofs.Ytfjdbenbiakbbaa
open Go.RowKit
open Go.Sort (grow)
namespace M
section
variable {P : Program} {C : World → Prop}
/-- No operation is guarded, and each stands behind earlier ones alone. -/
def sOkP (l : List Oper) : Bool := (List.range l.length).all fun i => match l[i]? with
  | some o => o.guard.isNone && o.after.all fun e => !Region.binds .any e || decide (e.on < i)
  | none => false
/-- The shape that both theorems speak of. -/
structure Shape3 (ops ops' : Array Oper) (s : Nat) (st : Oper) : Prop where
  size : ops'.size = ops.size
  top : s + 1 = ops.size
  same : ∀ i, i < s → ops'[i]? = ops[i]?
  at_ : ops[s]? = some st
  at' : ops'[s]? = some (noop st)
  ok : ∀ i o, ops[i]? = some o → o.guard = none ∧ ∀ e ∈ o.after, Region.binds .any e = true → e.on < i
  last : ∀ j, j < s → ∃ k o, j < k ∧ ops[k]? = some o ∧ ∃ e ∈ o.after, Region.binds .any e = true ∧ e.on = j
theorem Shape3.ready {ops ops' : Array Oper} {s : Nat} {st : Oper} (h : Shape3 ops ops' s st) {listed : Array Bool} {i : Nat} : i ∈ Region.ready .any ops' listed ↔ i ∈ Region.ready .any ops listed := by
  rw [mem_ready, mem_ready, h.size]
  refine and_congr_right fun hi => and_congr_right fun _ => ?_
  by_cases hs : i < s
  · rw [h.same i hs]
  · obtain rfl : i = s := by have := h.top; omega
    rw [h.at_, h.at']
    constructor
    · rintro ⟨o, ho, hh⟩; cases ho; exact ⟨st, rfl, hh⟩
    · rintro ⟨o, ho, hh⟩; cases ho; exact ⟨noop st, rfl, hh⟩
/-- As long as the last one is left something may come up. -/
theorem Shape3.some_ready {ops ops' : Array Oper} {s : Nat} {st : Oper} (h : Shape3 ops ops' s st) {listed : Array Bool} (hl : listed.size = ops.size) (hs : listed.getD s true = false) : ∃ i, i ∈ Region.ready .any ops listed := by
  have htop := h.top
  have key : ∀ n, n ≤ s → (∃ i, i ∈ Region.ready .any ops listed) ∨ ∀ j, j < n → listed.getD j true = true := by
    intro n
    induction n with
    | zero => intro _; exact .inr fun j hj => absurd hj (by omega)
    | succ n ih =>
      intro hn
      rcases ih (by omega) with h1 | h1
      · exact .inl h1
      · cases hd : listed.getD n true with
        | true =>
          refine .inr fun j hj => ?_
          rcases (show j < n ∨ j = n by omega) with h2 | h2
          · exact h1 j h2
          · subst h2; exact hd
        | false =>
          refine .inl ⟨n, mem_ready.2 ⟨by omega, hd, ops[n]'(by omega), by simp, fun e he hb => ?_⟩⟩
          have := (h.ok n (ops[n]'(by omega)) (by simp)).2 e he hb
          have h3 := h1 e.on this
          rw [Array.getD_eq_getD_getElem?] at h3 ⊢
          rw [Array.getElem?_eq_getElem (by omega)] at h3 ⊢
          exact h3
  rcases key s (Nat.le_refl _) with h1 | h1
  · exact h1
  · refine ⟨s, mem_ready.2 ⟨by omega, hs, st, h.at_, fun e he hb => ?_⟩⟩
    have := (h.ok s st h.at_).2 e he hb
    have h3 := h1 e.on this
    rw [Array.getD_eq_getD_getElem?] at h3 ⊢
    rw [Array.getElem?_eq_getElem (by omega)] at h3 ⊢
    exact h3
theorem any_storeP {ops ops' : Array Oper} {s : Nat} {st : Oper} (h : Shape3 ops ops' s st) {Qa : Act → Prop} {Q : Exit → Act → World → Prop} (hst : ∀ a w, C w → Qa a → wpList P #[st] Q [st] a w) :
    ∀ (fuel : Nat) (listed : Array Bool) (a : Act) (w : World), listed.size = ops.size → LstD ops listed → listed.getD s true = false → C w → wpAnyQ P .any ops' C Qa fuel listed a → wpAny P .any ops Q fuel listed a w
  | 0, listed, a, w, hl, _, hs, hw, hq => by
    obtain ⟨i, hi⟩ := h.some_ready hl hs
    have := h.ready.2 hi
    rw [hq.1] at this; cases this
  | fuel + 1, listed, a, w, hl, hL, hs, hw, hq => by
    refine ⟨fun h0 => ?_, fun i hi => ?_⟩
    · obtain ⟨i, hi⟩ := h.some_ready hl hs
      rw [h0] at hi; cases hi
    · have hq2 := hq.2 i (h.ready.2 hi)
      obtain ⟨hi1, hi2, o, ho, hi3⟩ := mem_ready.1 hi
      obtain ⟨hg, hon⟩ := h.ok i o ho
      have hli : i < listed.size := by omega
      have hwant : ∀ (ops : Array Oper) (o : Oper), o.guard = none → Region.wanted o (yielded ops a.tmps) = true := fun ops o hg => by simp [Region.wanted, hg]
      by_cases his : i < s
      · have ho' : ops'[i]? = some o := by rw [h.same i his]; exact ho
        unfold qOp at hq2
        simp only [ho', hwant _ o hg, if_true] at hq2
        unfold wpOp
        simp only [ho, hwant _ o hg, if_true]
        refine .inl (Oper.wp_of_quiet hw (fun a' w' hw' hk => any_storeP h hst fuel _ a' w' (by simp [hl]) (hL.set hli fun o' ho' e he hb => by rw [ho] at ho'; cases ho'; exact hi3 e he hb) ?_ hw' hk) hq2)
        rw [getD_set hli, if_neg (by omega)]; exact hs
      · obtain rfl : i = s := by have := h.top; omega
        obtain rfl : o = st := by rw [h.at_] at ho; cases ho; rfl
        have hgn : (noop o).guard = none := hg
        unfold qOp at hq2
        simp only [h.at', hwant _ _ hgn, if_true] at hq2
        obtain ⟨v, _, hk⟩ := hq2
        have hput : a.put (noop o).dst v = a := rfl
        rw [hput] at hk
        have hnone : ∀ j, j ∉ Region.ready .any ops (listed.setIfInBounds i true) := fun j hj => by
          obtain ⟨h1, h2, _⟩ := mem_ready.1 hj
          rw [getD_set hli] at h2
          by_cases hji : j = i
          · rw [if_pos hji] at h2; cases h2
          · rw [if_neg hji] at h2
            have key : ∀ n j, j < i → i - j ≤ n → listed.getD j false = true := by
              intro n
              induction n with
              | zero => intro j hj hn; omega
              | succ n ih =>
                intro j hj hn
                obtain ⟨k, ok, hjk, hok, e, he, hb, heq⟩ := h.last j hj
                have hkt : k < ops.size := (Array.getElem?_eq_some_iff.1 hok).1
                rw [← heq]
                by_cases hki : k = i
                · subst hki; rw [ho] at hok; cases hok; exact hi3 e he hb
                · exact hL k ok hok (ih k (by have := h.top; omega) (by omega)) e he hb
            have := key (i - j) j (by have := h.top; omega) (Nat.le_refl _)
            rw [Array.getD_eq_getD_getElem?] at this h2
            rw [Array.getElem?_eq_getElem (by omega)] at this h2
            simp only [Option.getD_some] at this h2
            rw [this] at h2; cases h2
        have hn0 : Region.ready .any ops (listed.setIfInBounds i true) = [] := List.eq_nil_iff_forall_not_mem.2 hnone
        have hn0' : Region.ready .any ops' (listed.setIfInBounds i true) = [] := List.eq_nil_iff_forall_not_mem.2 fun j hj => hnone j (h.ready.1 hj)
        have hQa : Qa a := by
          cases fuel with
          | zero => exact hk.2
          | succ f => exact hk.1 hn0'
        unfold wpOp
        simp only [h.at_, hwant _ o hg, if_true]
        have q2 := hst a w hw hQa
        have hK : (fun a' w' => Q .normal a' w') = wpAny P .any ops Q fuel (listed.setIfInBounds i true) := by
          funext a' w'
          cases fuel with
          | zero => exact propext ⟨fun hh => ⟨hn0, hh⟩, fun hh => hh.2⟩
          | succ f => exact propext ⟨fun hh => ⟨fun _ => hh, fun j hj => absurd hj (hnone j)⟩, fun hh => hh.1 hn0⟩
        unfold wpList at q2
        rw [if_pos (by simp [Region.wanted, hg])] at q2
        rcases q2 with q2 | q2
        · refine .inl ?_
          rw [← hK]; exact q2
        · exact .inr q2
theorem shape_of3 {l : List Oper} {st : Oper} (hl : l.getLast? = some st) (h1 : sOkP l = true) (h2 : lastOk2 l = true) : Shape3 l.toArray (still l).toArray (l.length - 1) st := by
  have hne : l ≠ [] := fun e => by rw [e] at hl; cases hl
  have hpos : 0 < l.length := List.length_pos_iff.2 hne
  have hstill : still l = l.dropLast ++ [noop st] := by unfold still; rw [hl]; rfl
  have hlen : (still l).length = l.length := by rw [hstill]; simp; omega
  refine ⟨by simp [hlen], by simp; omega, fun i hi => ?_, ?_, ?_, fun i o ho => ?_, fun j hj => ?_⟩
  · rw [List.getElem?_toArray, List.getElem?_toArray, hstill, List.getElem?_append_left (by simp; omega), List.getElem?_dropLast, if_pos hi]
  · rw [List.getElem?_toArray, ← List.getLast?_eq_getElem?]; exact hl
  · rw [List.getElem?_toArray, hstill, List.getElem?_append_right (by simp)]; simp
  · rw [List.getElem?_toArray] at ho
    have hi : i < l.length := (List.getElem?_eq_some_iff.1 ho).1
    unfold sOkP at h1
    rw [List.all_eq_true] at h1
    have := h1 i (List.mem_range.2 hi)
    rw [ho] at this
    simp only [Bool.and_eq_true, Option.isNone_iff_eq_none, Array.all_eq_true_iff_forall_mem] at this
    refine ⟨this.1, fun e he hb => ?_⟩
    have h3 := this.2 e he
    rw [hb] at h3
    simpa using h3
  · unfold lastOk2 at h2
    rw [List.all_eq_true] at h2
    have := h2 j (List.mem_range.2 hj)
    rw [List.any_eq_true] at this
    obtain ⟨k, _, hk⟩ := this
    rw [Bool.and_eq_true, decide_eq_true_eq] at hk
    obtain ⟨hjk, hk⟩ := hk
    cases ho : l[k]? with
    | none => rw [ho] at hk; cases hk
    | some o =>
      rw [ho] at hk
      simp only at hk
      rw [← Array.any_toList, List.any_eq_true] at hk
      obtain ⟨e, he, hb⟩ := hk
      rw [Bool.and_eq_true, beq_iff_eq] at hb
      exact ⟨k, o, hjk, by rw [List.getElem?_toArray]; exact ho, e, by simpa using he, hb.1, hb.2⟩
end
section
variable {P : Program}
theorem region_lastP {l : List Oper} {st : Oper} {id : Nat} {Q : Exit → Act → World → Prop} {a : Act} {w : World} (hl : l.getLast? = some st) (h1 : sOkP l = true) (h2 : lastOk2 l = true) (hm : P.follows .mixedOrders = true) (hB : Region.lexB .any (still l).toArray = true)
    (hq : wpQuiet P (still l).toArray (fun w' => ∃ p : Regrown, w' = grow (redrawn w p.d) p.os) (fun a' => ∀ w', (∃ p : Regrown, w' = grow (redrawn w p.d) p.os) → wpList P #[st] Q [st] a' w') (still l) a) :
    (Code.region id l.toArray true).wp P Q a w := by
  have hsh := shape_of3 hl h1 h2
  simp only [Region.lexB, Bool.and_eq_true] at hB
  have hlen : (still l).length = l.length := by have := hsh.size; simpa using this
  have hpos : 0 < l.length := by have := hsh.top; simp at this; omega
  refine wp_region_any hm ?_
  have hx := wpAnyQ_lex (P := P) (C := fun w' => ∃ p : Regrown, w' = grow (redrawn w p.d) p.os) (md := .any) hB.1 (still l) 0 (Array.replicate (still l).toArray.size false) a (by simp) (by simpa using hB.2) hq
  have := any_storeP (P := P) (C := fun w' => ∃ p : Regrown, w' = grow (redrawn w p.d) p.os) hsh (Q := Q) (fun a' w' hw' hQ => hQ w' hw') (still l).length (Array.replicate (still l).toArray.size false) a { w with drawn := w.drawn + 1 } (by simp [hlen]) (fun i o _ hi => by
    rw [Array.getD_eq_getD_getElem?, Array.getElem?_replicate] at hi; split at hi <;> cases hi) (by
    rw [Array.getD_eq_getD_getElem?, Array.getElem?_replicate, if_pos (by simp [hlen]; omega)]; rfl) ⟨⟨w.drawn + 1, #[]⟩, by rw [Go.Sort.grow_empty]; rfl⟩ hx
  rw [hlen] at this
  simpa [hlen] using this
end
end M
end Go.Proofs.Ytfjdbenbiakbbaa

/-
  Copies of packets, of lines and of queues in the program's text, in memory of their own; a packet put on the line, a text put behind what was sent.
-/
namespace Go.Proofs.Ytfjdbenbiakbbaa
open Go.RowKit M
open Go.Sort (grow)
set_option maxHeartbeats 2000000 in
theorem copy_pk (p : Pk) (w : World) (hs : p.tx.size ≤ 281474976710656) :
    Calls Try.prog 89 #[p.v] w fun e w' => e = .returned p.v ∧ Below w.heap.size w w' := by
  obtain ⟨W0, hW0⟩ : ∃ W0, (w.alloc (.cells #[.bool p.ack, .int .i64 p.no, .string p.tx] 88)).alloc (.cells #[.bool false, .int .i64 0, .string ⟨#[]⟩] 88) = W0 := ⟨_, rfl⟩
  obtain ⟨s, hp⟩ : ∃ s, w.heap.size = s := ⟨_, rfl⟩
  have hL : Below w.heap.size w W0 := by
    rw [← hW0]; exact ((Below.refl _ w).alloc (Nat.le_refl _) _).alloc (by simp) _
  have hA : Blk W0 s 3 (qp p) 88 := by
    rw [← hW0, ← hp]; exact (newT3 w _ _ _ _).alloc _
  have hR : Blk W0 (s + 1) 3 (t3 (.bool false) (.int .i64 0) (.string ⟨#[]⟩)) 88 := by
    have := newT3 (w.alloc (.cells #[.bool p.ack, .int .i64 p.no, .string p.tx] 88)) (.bool false) (.int .i64 0) (.string ⟨#[]⟩) 88
    rw [World.size_alloc, hp, hW0] at this
    exact this
  obtain ⟨⟨a0, a1, a2⟩, -⟩ := hA.trp
  have k0 := cell_regrown a0
  have k1 := cell_regrown a1
  have k2 := cell_regrown a2
  have HR := hide (And.intro hL hR)
  have HE1 := hide (show ∀ q os, Calls Try.prog 88 #[.string p.tx] (grow (redrawn W0 q) os) fun e w'' => e = .returned (.string p.tx) ∧ ∃ p : Regrown, w'' = grow (redrawn W0 p.d) p.os from fun q os => Calls.regrown_of (clone_s p.tx _ hs))
  have HW := hide hW0
  have HP := hide hp
  clear hW0 hp hA hR hL a0 a1 a2 hs
  go_enter Try.func89, Try.ntmps89
  go_wp2
  rw [HW.out, HP.out]
  refine region_lastP rfl (by kernel_rfl) (by kernel_rfl) rfl (by kernel_rfl) ?_
  simp only [still, noop, List.dropLast, List.getLast?_cons_cons, List.getLast?_singleton, Option.map_some, Option.toList_some, List.cons_append, List.nil_append, List.getLast_cons_cons, List.getLast_singleton]
  repeat (go_big_quiet_step (exact HE1.out _ _))
  refine wpQuiet_nil ?_
  rintro _ ⟨⟨dq, osq⟩, rfl⟩
  have hL := HR.out.1.trans ((below_regrown W0 dq osq).mono HR.out.1.size)
  have hR := HR.out.2.down (below_regrown W0 dq osq)
  obtain ⟨W1, hW1⟩ : ∃ W1, grow (redrawn W0 dq) osq = W1 := ⟨_, rfl⟩
  rw [hW1] at hL hR ⊢
  clear hW1 HR HE1 k0 k1 k2
  obtain ⟨⟨c0, c1, c2⟩, f0, f1, f2⟩ := hR.trp
  obtain ⟨W2, hW2⟩ : ∃ W2, ((W1.setCell ⟨s + 1, 0, none⟩ (.bool p.ack)).setCell ⟨s + 1, 1, none⟩ (.int .i64 p.no)).setCell ⟨s + 1, 2, none⟩ (.string p.tx) = W2 := ⟨_, rfl⟩
  have HZ := hide (show Blk W2 (s + 1) 3 (qp p) 88 ∧ Below w.heap.size w W2 from by
    rw [← hW2]
    rw [HP.out] at hL ⊢
    exact ⟨hR.putT3 _ _ _, ((hL.setCell (p := ⟨s + 1, 0, none⟩) (Nat.le_succ s) _).setCell (p := ⟨s + 1, 1, none⟩) (Nat.le_succ s) _).setCell (p := ⟨s + 1, 2, none⟩) (Nat.le_succ s) _⟩)
  have HWZ := hide hW2
  clear hL hR hW2
  go_wp2
  rw [HWZ.out]
  obtain ⟨⟨e0, e1, e2⟩, -⟩ := HZ.out.1.trp
  exact bodyPost_ret (v := p.v) (by simp [results, Try.results89, go_sem, e0, e1, e2]) rfl ⟨rfl, HZ.out.2⟩
set_option maxHeartbeats 2000000 in
theorem copy_line (v : Value) (l : Pks) (w : World) (hv : PksOf w v l) (hn : l.length ≤ 1048576) (hnm : ∀ x ∈ l, x.tx.size ≤ 12) :
    Calls Try.prog 73 #[v] w fun e w' => (∃ a n c, e = .returned (.slice a n c) ∧ OwnP w' w.heap.size (.slice a n c) l) ∧ Below w.heap.size w w' := by
  obtain ⟨a, cap, rfl, hr⟩ := hv
  have HR := hide hr
  have HN := hide hnm
  clear hr hnm
  go_enter Try.func73, Try.ntmps73
  go_wp2
  go_loopw [3, 8] (fun o i wr => ∃ (k n c : Nat) (ao : Option Addr), k ≤ l.length ∧ i = .int .i64 k ∧ o = .slice ao n c ∧ Hid (OwnP wr w.heap.size (.slice ao n c) (l.take k)) ∧ Below w.heap.size w wr) (fun _ i _ => l.length - (intOf i).toNat)
  case atStart => exact ⟨0, 0, 0, none, Nat.zero_le _, rfl, rfl, hide (OwnP.nil _ _), Below.refl _ _⟩
  case round =>
    obtain ⟨k, n, c, ao, hk, rfl, rfl, HO, hbw⟩ := hrel
    by_cases hlt : k < l.length
    · obtain ⟨b, off, rfl, hb, hrow⟩ := HR.out (by omega)
      obtain ⟨p, hx⟩ : ∃ x, l[k]? = some x := ⟨l[k], List.getElem?_eq_getElem hlt⟩
      obtain ⟨c0, c1, c2⟩ := (hrow k p hx).below hbw hb
      have hxs : p.tx.size ≤ 281474976710656 := by have := HN.out p (List.mem_of_getElem? hx); omega
      have HX := hide hx
      have hbw1 := hbw.alloc hbw.size (.cells #[.bool p.ack, .int .i64 p.no, .string p.tx] 88)
      have HO1 := hide (HO.out.alloc (.cells #[.bool p.ack, .int .i64 p.no, .string p.tx] 88))
      clear hrow hx HR HN
      go_wp2_with fail
      refine (copy_pk p _ hxs).mono ?_
      rintro e w2 ⟨rfl, hb2⟩
      have hbw2 := hbw1.trans (hb2.mono hbw1.size)
      have hown := (HO1.out.down hb2).alloc (.cells #[.bool p.ack, .int .i64 p.no, .string p.tx] 88)
      have hlit := lit_pk (p := p) (newT3 w2 (.bool p.ack) (.int .i64 p.no) (.string p.tx) 88)
      clear hb2 HO HO1 c0 c1 c2 hbw1
      go_wp2_with (at_builtin; refine wpList_appP _ rfl _ _ rfl w.heap.size (l.take k) [p] _ _ rfl hown rfl hlit (by rw [List.length_take]; simp; omega) (by have := hbw2.size; simp; omega) ?_)
      intro a4 n4 c4 w4 hO4 hgr _
      have hbw4 : Below w.heap.size w w4 := (hbw2.alloc hbw2.size _).grown hgr (by have := hbw2.size; simp; omega) (fun j hj => (hown.lt hj).1)
      have HO4 := hide (show OwnP w4 w.heap.size (.slice a4 n4 c4) (l.take (k + 1)) from by rw [take_snocA HX.out]; exact hO4)
      clear hO4 hgr hown hlit hbw2
      go_wp2
      go_roundw
      case rel => exact ⟨k + 1, n4, c4, a4, by omega, by go_num, rfl, HO4, hbw4⟩
      case measure => simp [intOf]; omega
    · have HB := hide (show OwnP wr w.heap.size (.slice ao n c) l from by have := HO.out; rwa [List.take_of_length_le (by omega)] at this)
      clear HO HR HN
      go_wp2
      go_ret
      exact ⟨⟨_, _, _, rfl, HB.out⟩, hbw⟩
theorem line_full (B g : Nat) (v1 v3 v4 : Value) (q : Qu) (p : Pk) (w : World) (h : PQ w B g v1 v3 v4 q) (hl : q.line.length = 40) :
    Calls Try.prog 90 #[.pointer (some ⟨g, 0, none⟩), p.v] w fun e w' => e = .returned (.bool false) ∧ Below w.heap.size w w' := by
  have hbA := (Below.refl w.heap.size w).alloc (Nat.le_refl _) (.cells #[.bool p.ack, .int .i64 p.no, .string p.tx] 88)
  obtain ⟨a4, c4, rfl⟩ := h.o4.form
  obtain ⟨⟨y0, y1, y2, y3, y4⟩, -⟩ := (h.box.alloc (.cells #[.bool p.ack, .int .i64 p.no, .string p.tx] 88)).pen
  have hl2 : (q.line.length : Int) = 40 := by omega
  clear h hl y0 y1 y2 y3
  go_enter Try.func90, Try.ntmps90
  go_wp2
  go_ret
  exact ⟨rfl, hbA⟩
set_option maxRecDepth 20000 in
set_option maxHeartbeats 4000000 in
theorem put_line (B g : Nat) (v1 v3 v4 : Value) (q : Qu) (p : Pk) (w : World) (h : PQ w B g v1 v3 v4 q) (hB : B ≤ w.heap.size) (hl : q.line.length < 40) (hp : p.tx.size ≤ 12) :
    Calls Try.prog 90 #[.pointer (some ⟨g, 0, none⟩), p.v] w fun e w' => e = .returned (.bool true) ∧ ∃ u4, PQ w' B g v1 v3 u4 (putQ q p) ∧ Mv g w v1 v3 v4 w' v1 v3 u4 := by
  obtain ⟨i0, hi, hz0, hz1, hz2⟩ := info_parts info_pk
  obtain ⟨A, hA⟩ : ∃ A, w.alloc (.cells #[.bool p.ack, .int .i64 p.no, .string p.tx] 88) = A := ⟨_, rfl⟩
  have hd : Below w.heap.size w A := by rw [← hA]; exact (Below.refl w.heap.size w).alloc (Nat.le_refl _) _
  have hA1 : PQ A B g v1 v3 v4 q := h.down hd
  have hsz : A.heap.size = w.heap.size + 1 := by rw [← hA]; simp
  obtain ⟨a4, c4, rfl⟩ := h.o4.form
  have hx : Blk A w.heap.size 3 (qp p) 88 := by rw [← hA]; exact newT3 w _ _ _ _
  obtain ⟨⟨b0, b1, b2⟩, -⟩ := hx.trp
  obtain ⟨⟨-, -, -, -, y4⟩, -⟩ := hA1.box.pen
  obtain ⟨⟨-, -, -, -, y5⟩, -⟩ := (h.box.alloc (.cells #[.bool p.ack, .int .i64 p.no, .string p.tx] 88)).pen
  have HH := hide hA1
  have HA := hide hA
  have HX := hide (show ∀ w1, Below A.drew.heap.size A.drew w1 → w1.cell? ⟨g, 4, none⟩ = some (.slice a4 q.line.length c4) ∧ (∀ o, (w1.alloc o).cell? ⟨g, 4, none⟩ = some (.slice a4 q.line.length c4)) ∧ PQ (w1.alloc (.cells #[.bool p.ack, .int .i64 p.no, .string p.tx] 88)) B g v1 v3 (.slice a4 q.line.length c4) q ∧ Blk (w1.alloc (.cells #[.bool p.ack, .int .i64 p.no, .string p.tx] 88)) w1.heap.size 3 (qp p) 88 ∧ B ≤ w1.heap.size from fun w1 hb => by
    have h1 := (HH.out.down (Below.refl A.heap.size A).drew).down hb
    refine ⟨h1.box.pen.1.2.2.2.2, fun o => (h1.box.alloc o).pen.1.2.2.2.2, h1.down ((Below.refl _ w1).alloc (Nat.le_refl _) _), newT3 w1 _ _ _ _, ?_⟩
    have h2 := hb.size
    have h3 : A.drew.heap.size = A.heap.size := rfl
    omega)
  have HMv := hide (show ∀ w1, Below A.drew.heap.size A.drew w1 → Below w.heap.size w (w1.alloc (.cells #[.bool p.ack, .int .i64 p.no, .string p.tx] 88)) from fun w1 hb => by
    have h1 := hd.drew.trans (hb.mono hd.size)
    exact h1.alloc h1.size _)
  have HG := hide (show ∀ (W w7 : World), PQ W B g v1 v3 (.slice a4 q.line.length c4) q → W.grownBy w7 (Value.slice a4 q.line.length c4).ownBlock → w7.cell? ⟨g, 4, none⟩ = some (.slice a4 q.line.length c4) ∧ w7.frozen? ⟨g, 4, none⟩ = false from fun W w7 h1 hg => by
    have hbx := h1.box.gb hg (fun e => h1.n4 e.symm)
    exact ⟨hbx.pen.1.2.2.2.2, hbx.thaw 4⟩)
  have hne : ¬ (q.line.length : Int) = 40 := by omega
  have hps : p.tx.size ≤ 281474976710656 := by omega
  have hd40 : ((q.line.length : Int) == 40) = false := by simpa using hne
  clear h hd hA1 hx hA
  go_enter Try.func90, Try.ntmps90
  go_upto_region 3 with fail
  rw [HA.out]
  clear y5
  go_region_law (first
    | (refine step_append_lies _ rfl (.tmp 15) (.tmp 18) 30 rfl B 88 i0 _ 3 32 Try.underlying30 hi hz0 hz1 hz2 rfl (by decide) (.slice a4 q.line.length c4) q.line.length _ (by simp [Act.eval]) hW.o4 ⟨w1.heap.size, 0, none⟩ 1 1 (cellsP [p]) (by simp [Act.eval]) (cellsP_len [p]) (lit_pk hlitB).1.src (cellsP_one [p]) (by omega) (by unfold maxLen; omega) (by omega) (by simp; omega) _ rfl ?_; intro g7 cap7 w7 hown7 hgrow7 hat hlt7; obtain ⟨z0, z1⟩ := HG.out _ w7 hW hgrow7)
    | (rw [if_pos (by rfl)]; go_simp; go_at_call 89; refine (copy_pk p _ hps).mono ?_; rintro e w1 ⟨rfl, hb1⟩; obtain ⟨m4, m5, hW, hlitB, hB1⟩ := HX.out w1 hb1))
  all_goals
    have hO : OwnP w7 B (.slice (some ⟨g7, 0, none⟩) (q.line.length + 1) cap7) (q.line ++ [p]) := by
      unfold OwnP; rw [List.length_append, cellsP_app]; exact hown7
    have hP := hW.put4 (W2 := w7) (Chg.gb hgrow7 (fun k e => e)) hO (fun k e => by
      simp only [Value.ownBlock, Option.some.injEq] at e
      subst e
      rcases hat with h' | h'
      · exact .inl h'
      · exact .inr (Nat.le_of_eq h'.symm))
    have HF := hide (show PQ _ B g v1 v3 _ (putQ q p) ∧ Mv g w v1 v3 (.slice a4 q.line.length c4) _ v1 v3 _ from ⟨hP.1, (Mv.down (HMv.out w1 hb1)).trans hP.2⟩)
    clear hP hO hown7 hgrow7 hat hW hlitB m4 m5 z0 z1 HG HX HMv HH y4 b0 b1 b2
    go_wp2
    go_ret
    exact ⟨rfl, _, HF.out⟩
end Go.Proofs.Ytfjdbenbiakbbaa

/-
  Line steps appended to a list of the call's own.
-/
namespace Go.Proofs.Ytfjdbenbiakbbaa
open Go.RowKit M
open Go.Sort (grow)
theorem lit_lst {w : World} {g : Nat} {s : Lst} (h : Blk w g 3 (ql s) 36) : ∀ j u, (cellsL [s])[j]? = some u → w.cell? ((⟨g, 0, none⟩ : Addr).add j) = some u := fun j u hj => by
  obtain ⟨⟨c0, c1, c2⟩, -⟩ := h.trp
  rw [addr_lit, Nat.zero_add]
  match j, hj with
  | 0, hj => simp [cellsL] at hj; subst hj; exact c0
  | 1, hj => simp [cellsL] at hj; subst hj; exact c1
  | 2, hj => simp [cellsL] at hj; subst hj; exact c2
/-- One more line step behind a list of the call's own. -/
theorem wpList_appL (w : World) {ops : Array Oper} {rest : List Oper} {o : Oper} {a : Act} {Q : Exit → Act → World → Prop} (hgd : o.guard = none) (s x : Operand)
    (ho : o.op = .call { callee := .builtin .append, args := #[s, x], argTypes := #[46, 46] }) (B : Nat) (l : Lsts) (i : Lst) (v : Value) (hs : a.eval s = v) (hown : OwnL w B v l)
    (b cu : Nat) (hx : a.eval x = .slice (some ⟨b, 0, none⟩) 1 cu) (hu : Blk w b 3 (ql i) 36) (hl : l.length ≤ 1048576) (hbase : B ≤ w.heap.size)
    (h : ∀ a' n' c' w', OwnL w' B (.slice a' n' c') (l ++ [i]) → w.grownBy w' v.ownBlock → ((Value.slice a' n' c').ownBlock = v.ownBlock ∨ (Value.slice a' n' c').ownBlock = some w.heap.size) → wpList Try.prog ops Q rest (a.put o.dst (.slice a' n' c')) w') : wpList Try.prog ops Q (o :: rest) a w := by
  obtain ⟨i0, hi, hz0, hz1, hz2⟩ := info_parts info_lst
  obtain ⟨v', w', hrn, hown', hgr, -, hblk⟩ := run_append_own_at (P := Try.prog) (w := w) B 46 o.type 36 i0 _ 3 32 Try.underlying46 hi hz0 hz1 hz2 rfl (by decide) v _ _ hown ⟨b, 0, none⟩ 1 cu (cellsL [i]) rfl (lit_lst hu) (cellsL_one [i]) (by unfold maxLen; omega) (by omega) hbase
  have hO : OwnL w' B v' (l ++ [i]) := by
    unfold OwnL
    rw [List.length_append, cellsL_app]; exact hown'
  obtain ⟨a', c', rfl⟩ := hO.form
  exact Lib.wpList_append_run (P := Try.prog) w hgd s x 46 46 ho _ _ hs hx _ _ hrn (h _ _ _ w' hO hgr hblk)
end Go.Proofs.Ytfjdbenbiakbbaa

/-
  A walk through code that sends and selects with nobody else there: as the walk of plain code, for a call's own frame alone.
-/
import Derived.Test.YtfjdbenbiakbbaaMem
import Derived.Conc.LoneCalls
namespace Go.Proofs.Ytfjdbenbiakbbaa
open Go.RowKit M
open Go.Conc
namespace M
section
variable {P : Program} {Q : Exit → Act → World → Prop} {a : Act} {w : World}
/-- The code comes to an end of which Q tells, in a frame of a plain call. -/
def CN (P : Program) (c : Code) (Q : Exit → Act → World → Prop) (a : Act) (w : World) : Prop :=
  ∀ (b : Frame) (k : List Item) (cs : List Frame), b.kind = .normal → ∃ e a' w', Q e a' w' ∧ Arrives P (lone (b.at a (.code c :: k)) cs w) b k cs e a' w'
/-- The like of what is left of a region. -/
def ON (P : Program) (ops : Array Oper) (l : List Nat) (Q : Exit → Act → World → Prop) (a : Act) (w : World) : Prop :=
  ∀ (b : Frame) (k : List Item) (cs : List Frame), b.kind = .normal → ∃ e a' w', Q e a' w' ∧ Arrives P (lone (b.at a (.inRegion ops l :: k)) cs w) b k cs e a' w'
theorem cn_wp {c : Code} (h : c.wp P Q a w) : CN P c Q a w := fun b k cs _ => h b k cs
theorem on_wp {ops : Array Oper} {l : List Nat} (h : wpOps P ops Q l a w) : ON P ops l Q a w := fun b k cs _ => wp_ops l a w h b k cs
theorem cn_mono {c : Code} {Q' : Exit → Act → World → Prop} (h : CN P c Q a w) (hq : ∀ e a w, Q e a w → Q' e a w) : CN P c Q' a w :=
  fun b k cs hb => let ⟨e, a', w', q, r⟩ := h b k cs hb; ⟨e, a', w', hq _ _ _ q, r⟩
theorem cn_seq {x y : Code} (N : Act → World → Prop) (h : CN P x (Exit.then N Q) a w) (h2 : ∀ a w, N a w → CN P y Q a w) : CN P (.seq x y) Q a w := by
  intro b k cs hb
  obtain ⟨e, a1, w1, hq, har⟩ := h b (.code y :: k) cs hb
  by_cases he : e = .normal
  · subst he
    obtain ⟨e2, a2, w2, hq2, har2⟩ := h2 _ _ hq b k cs hb
    exact ⟨e2, a2, w2, hq2, .of_steps (.head step_seq har) har2⟩
  · have hq' : Q e a1 w1 := by cases e <;> first | exact absurd rfl he | exact hq
    exact ⟨e, a1, w1, hq', .of_steps (.one step_seq) (.pass (x := .code y) rfl (fun _ _ => .inl he) har)⟩
theorem cn_cond {c : Operand} {x y : Code} {t : Bool} (hc : a.eval c = .bool t) (h : CN P (if t then x else y) Q a w) : CN P (.cond c x y) Q a w :=
  fun b k cs hb => let ⟨e, a', w', q, r⟩ := h b k cs hb; ⟨e, a', w', q, .of_steps (.one (step_cond hc)) r⟩
theorem cn_block {id : Nat} {c : Code} (h : CN P c (Exit.inBlock id Q) a w) : CN P (.block id c) Q a w := by
  intro b k cs hb
  obtain ⟨e, a1, w1, hq, har⟩ := h b (.inBlock id :: k) cs hb
  cases e with
  | normal => exact ⟨.normal, a1, w1, hq, .head step_block (Steps.trans har (.one step_inBlock))⟩
  | exit id' =>
    by_cases hid : id' = id
    · subst hid
      simp only [Exit.inBlock, if_true] at hq
      exact ⟨.normal, a1, w1, hq, .head step_block (har k (by simp [exitTo]))⟩
    · simp only [Exit.inBlock, hid, if_false] at hq
      refine ⟨.exit id', a1, w1, hq, fun k' hk => .head step_block (har k' ?_)⟩
      have : (id == id') = false := by simp; exact fun h => hid h.symm
      simp [exitTo, this, hk]
  | goto l => exact ⟨_, a1, w1, hq, fun k' hk => .head step_block (har k' (by simp [gotoIn, hk]))⟩
  | ret => exact ⟨_, a1, w1, hq, .of_steps (.one step_block) har⟩
  | panic ch => exact ⟨_, a1, w1, hq, .of_steps (.one step_block) har⟩
  | outgrown => exact ⟨_, a1, w1, hq, .of_steps (b := b) (k := k) (cs := cs) (e := .outgrown) (.one step_block) har⟩
theorem cn_loop {c : Code} (I : Nat → Act → World → Prop) {n : Nat} (h0 : I n a w)
    (round : ∀ n a w, I n a w → CN P c (Exit.then (fun a' w' => ∃ m, m < n ∧ I m a' w') Q) a w) : CN P (.loop c) Q a w := by
  intro b k cs hb
  have key : ∀ n a w, I n a w → ∃ e a' w', Q e a' w' ∧ Arrives P (lone (b.at a (.code c :: .inLoop c :: k)) cs w) b k cs e a' w' := by
    intro n
    induction n using Nat.strongRecOn with
    | _ n ih =>
      intro a w hI
      obtain ⟨e, a1, w1, hq, har⟩ := round n a w hI b (.inLoop c :: k) cs hb
      by_cases he : e = .normal
      · subst he
        obtain ⟨m, hm, hI1⟩ := hq
        obtain ⟨e2, a2, w2, hq2, har2⟩ := ih m hm a1 w1 hI1
        exact ⟨e2, a2, w2, hq2, .of_steps (Steps.trans har (.one step_inLoop)) har2⟩
      · have hq' : Q e a1 w1 := by cases e <;> first | exact absurd rfl he | exact hq
        exact ⟨e, a1, w1, hq', .pass (x := .inLoop c) rfl (fun _ _ => .inl he) har⟩
  obtain ⟨e, a', w', hq, har⟩ := key n a w h0
  exact ⟨e, a', w', hq, .of_steps (.one step_loop) har⟩
theorem cn_region {id : Nat} {ops : Array Oper} (h : ON P ops (List.range ops.size) Q a w) : CN P (.region id ops false) Q a w :=
  fun b k cs hb => let ⟨e, a', w', q, r⟩ := h b k cs hb; ⟨e, a', w', q, .of_steps (.one step_region) r⟩
theorem on_end {ops : Array Oper} (h : Q .normal a w) : ON P ops [] Q a w := fun _ _ _ _ => ⟨.normal, a, w, h, .one step_region_end⟩
/-- One operation that yields a value. -/
theorem on_value {ops : Array Oper} {i : Nat} {rest : List Nat} {o : Oper} {v : Value} {w' : World} (ho : ops[i]? = some o) (hw : Region.wanted o (yielded ops a.tmps) = true)
    (hr : (execOp a.eval o).run P w = .ok (.value v) w') (h : ON P ops rest Q (a.put o.dst v) w') : ON P ops (i :: rest) Q a w := by
  intro b k cs hb
  obtain ⟨e, a', w'', q, r⟩ := h b k cs hb
  refine ⟨e, a', w'', q, .of_steps (.one (step_lone_go ?_)) r⟩
  have hfin : (b.at a (.inRegion ops (i :: rest) :: k)).finish v = b.at (a.put o.dst v) (.inRegion ops rest :: k) := by rw [Frame.finish_at, ho]; rfl
  rw [stepG_op (P := P) (b := b) (k := k) (cs := cs) (w := w) (rest := rest) ho hw, ← hfin]
  simp [stepG.apply, hr]
theorem on_send {ops : Array Oper} {i : Nat} {rest : List Nat} {o : Oper} {v z : Value} {w' : World} {c cap s r : Nat} {buf : Array Value} {tm : Bool} (ho : ops[i]? = some o) (hw : Region.wanted o (yielded ops a.tmps) = true)
    (hr : (execOp a.eval o).run P w = .ok (.comm #[scase c v z] true .send) w') (hc : w'.heap[c]? = some (.chan cap buf false s r tm)) (hroom : buf.size < cap)
    (h : ON P ops rest Q (a.put o.dst undef) (w'.setChan c cap (buf.push v) false (s + 1) r tm)) : ON P ops (i :: rest) Q a w := by
  intro b k cs hb
  obtain ⟨e, a', w'', q, ar⟩ := h b k cs hb
  refine ⟨e, a', w'', q, .of_steps (.one ?_) ar⟩
  have hfin : (b.at a (.inRegion ops (i :: rest) :: k)).finish undef = b.at (a.put o.dst undef) (.inRegion ops rest :: k) := by rw [Frame.finish_at, ho]; rfl
  have := step_lone_send_room (P := P) (cs := cs) (stepG_comm (main := true) (b := b) (k := k) (cs := cs) (rest := rest) ho hw (by rw [hb]; decide) hr) hc hroom
  rw [hfin] at this
  exact this
theorem on_took {ops : Array Oper} {i : Nat} {rest : List Nat} {o : Oper} {z : Value} {w' : World} {c cap s r : Nat} {buf : Array Value} {cl tm : Bool} (ho : ops[i]? = some o) (hw : Region.wanted o (yielded ops a.tmps) = true)
    (hr : (execOp a.eval o).run P w = .ok (.comm #[rcase c z] false .select) w') (hc : w'.heap[c]? = some (.chan cap buf cl s r tm)) (hsome : 0 < buf.size)
    (h : ON P ops rest Q (a.put o.dst (.tuple #[goInt 0, .bool true, buf.getD 0 undef])) (w'.setChan c cap (buf.extract 1 buf.size) cl s (r + 1) tm)) : ON P ops (i :: rest) Q a w := by
  intro b k cs hb
  obtain ⟨e, a', w'', q, ar⟩ := h b k cs hb
  refine ⟨e, a', w'', q, .of_steps (.one ?_) ar⟩
  have hfin : ∀ v, (b.at a (.inRegion ops (i :: rest) :: k)).finish v = b.at (a.put o.dst v) (.inRegion ops rest :: k) := fun v => by rw [Frame.finish_at, ho]; rfl
  have hp := partners_alone (c := c) true
  have hs := stepG_comm (P := P) (main := true) (b := b) (k := k) (cs := cs) (rest := rest) ho hw (by rw [hb]; decide) hr
  rw [← hfin]
  rw [lone_eq_solo, lone_eq_solo, Go.step, stepT_solo rfl]
  simp [runT, solo, G, Array.swapAt!, Array.swapAt, hs, GStep.es, communicate, ways, rcase, hc, hp, hsome, choose, Sem.run, Question.forced, bind, Sem.bind, pure, Goroutine.finishComm, commResult, World.setChan] at hs ⊢
theorem on_none {ops : Array Oper} {i : Nat} {rest : List Nat} {o : Oper} {z : Value} {w' : World} {c cap s r : Nat} {tm : Bool} (ho : ops[i]? = some o) (hw : Region.wanted o (yielded ops a.tmps) = true)
    (hr : (execOp a.eval o).run P w = .ok (.comm #[rcase c z] false .select) w') (hc : w'.heap[c]? = some (.chan cap #[] false s r tm))
    (h : ON P ops rest Q (a.put o.dst (.tuple #[goInt (-1), .bool false, z])) w') : ON P ops (i :: rest) Q a w := by
  intro b k cs hb
  obtain ⟨e, a', w'', q, ar⟩ := h b k cs hb
  refine ⟨e, a', w'', q, .of_steps (.one ?_) ar⟩
  have hfin : ∀ v, (b.at a (.inRegion ops (i :: rest) :: k)).finish v = b.at (a.put o.dst v) (.inRegion ops rest :: k) := fun v => by rw [Frame.finish_at, ho]; rfl
  have := step_lone_select_default (P := P) (cs := cs) (stepG_comm (main := true) (b := b) (k := k) (cs := cs) (rest := rest) ho hw (by rw [hb]; decide) hr) hc
  rw [hfin] at this
  exact this
end
theorem calls_cn {P : Program} {f : FuncId} {fn : Func} {c : Code} {args : Array Value} {w : World} {R : Ending → World → Prop} (hf : P.funcs[f]? = some fn) (hb : fn.body = some c)
    (h : CN P c (bodyPost P fn R) { tmps := args ++ Array.replicate (fn.ntmps - args.size) undef, defers := [] } w) (hR : ∀ w, ¬ R .outgrown w) : Calls P f args w R := by
  intro cs
  let b : Frame := { (default : Frame) with fn := f, kind := .normal }
  have hen : Frame.enter P f args .normal = b.at { tmps := args ++ Array.replicate (fn.ntmps - args.size) undef, defers := [] } [.code c] := by
    simp [Frame.enter, Frame.at, hf, hb, b]
  obtain ⟨e, a', w', hq, har⟩ := h b [] cs rfl
  rw [← hen] at har
  cases e with
  | normal =>
    obtain ⟨hd, v, hr, hv⟩ := hq
    exact ⟨.returned v, w', _, hv, Steps.trans har (.one step_end), rfl, rfl, hd, rfl, fn, hf, hr⟩
  | ret =>
    obtain ⟨hd, v, hr, hv⟩ := hq
    obtain ⟨todo, hs⟩ := har
    exact ⟨.returned v, w', _, hv, hs, rfl, rfl, hd, rfl, fn, hf, hr⟩
  | panic chain =>
    obtain ⟨hd, hv⟩ := hq
    obtain ⟨todo, hs⟩ := har
    exact ⟨.panicked chain, w', _, hv, hs, rfl, rfl, hd, fn, hf⟩
  | exit id => exact hq.elim
  | goto l => exact hq.elim
  | outgrown => exact absurd hq (hR _)
end M
end Go.Proofs.Ytfjdbenbiakbbaa

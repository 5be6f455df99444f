/-
  The program's aheadOfEach: of each marking those out of which one step leads to it, in a map of rows.
-/
import Derived.Test.YthilapalgakhhaaNetSndB
import Derived.Test.YthilapalgakhhaaNetOrder2
namespace Go.Proofs.Ythilapalgakhhaa
open Go.RowKit M
open Clk (upd upd_same upd_other)
theorem wpList_own_put {w : World} {ops : Array Oper} {rest : List Oper} {o : Oper} {a : Act} {Q : Exit → Act → World → Prop} (hgd : o.guard = none) (sO xO : Operand) (ho : o.op = .call { callee := .builtin .append, args := #[sO, xO], argTypes := #[81, 81] })
    (B n : Nat) (v : Value) (xs : List Value) (hs : a.eval sO = v) (hown : w.ownsRow B 68 8 v n xs) (ad cp : Nat) (x : Nat → Int) (hx : a.eval xO = .slice (some ⟨ad, 0, none⟩) 1 cp) (hcell : ∀ q, q < 8 → w.cell? ⟨ad, q, none⟩ = some (.int .i64 (x q))) (hn : n ≤ 100000) (hB : B ≤ w.heap.size)
    (h : ∀ v' w', w'.ownsRow B 68 8 v' (n + 1) (xs ++ L8 x) → w.grownBy w' v.ownBlock → (v'.ownBlock = v.ownBlock ∨ v'.ownBlock = some w.heap.size) → wpList Try.prog ops Q rest (a.put o.dst v') w') : wpList Try.prog ops Q (o :: rest) a w := by
  obtain ⟨ti, hi, hz0, hz1, hz2⟩ := info_parts info_mark
  refine wpList_plain hgd fun K' hK' => ?_
  obtain ⟨v', w', hr, h2, h3, -, h4⟩ := run_append_own_at (P := Try.prog) w B 81 o.type 68 ti _ 8 64 Try.underlying81 hi hz0 hz1 hz2 rfl (by omega) v n xs hown ⟨ad, 0, none⟩ 1 cp (L8 x) (by rw [L8_len]) (fun j u hj => by
    have hj8 : j < 8 := by
      rcases Nat.lt_or_ge j 8 with h | h
      · exact h
      · rw [List.getElem?_eq_none (by rw [L8_len]; exact h)] at hj; cases hj
    rw [L8_at x j hj8] at hj; cases hj
    rw [Addr.add_lit, Nat.zero_add]; exact hcell j hj8) (L8_one x) (by unfold maxLen; omega) (by omega) hB
  unfold Oper.wp execOp
  simp only [ho, resolve, invoke, builtin, Sem.run_bind, Sem.run_pure, Result.andThen_ok, List.map_toArray, List.map_cons, List.map_nil, hs, hx, hr]
  exact hK' _ _ (h v' w' h2 h3 h4)
namespace M
/-- What holds when t steps of the marking i were tried. -/
def AhR (w wr : World) (st : Nat → Sp) (k p : Nat) (s : Bs) (nv : Nat → Value) (i t : Nat) (a : Ah) (V : Nat → Value) : Prop :=
  Below w.heap.size w wr ∧ Blk wr w.heap.size 2 nv 29 ∧ Blk wr (w.heap.size + 1 + 1) (s.c * 8) (vv8 s.M) 68 ∧ AH wr (w.heap.size + 1 + 1 + 1) (w.heap.size + 1) V a ∧ AI st k p s i t a
theorem AhR.down {w wr w' : World} {st : Nat → Sp} {k p : Nat} {s : Bs} {nv : Nat → Value} {i t : Nat} {a : Ah} {V : Nat → Value} (h : AhR w wr st k p s nv i t a V) (hb : Below wr.heap.size wr w') : AhR w w' st k p s nv i t a V :=
  ⟨h.1.trans (hb.mono h.1.size), h.2.1.down hb, h.2.2.1.down hb, h.2.2.2.1.down hb, h.2.2.2.2⟩
/-- None of the rows lies in the block G. -/
def Apt (V : Nat → Value) (n G : Nat) : Prop := ∀ j, j < n → (V j).ownBlock ≠ some G
/-- The entry was there, or was laid anew: then the row grows and is stored. -/
theorem AhR.put {w W7 W8 W9 : World} {st : Nat → Sp} {k p : Nat} {s : Bs} {nv : Nat → Value} {i t : Nat} {a : Ah} {V : Nat → Value} {G d : Nat} {f : Nat → Value} {v' : Value} {y : Nat → Int}
    (hA : AhR w W7 st k p s nv i t a V) (hG : Blk W7 G 8 f 68) (hGb : G ≠ w.heap.size + 1) (hap : Apt V a.n G) (hd : d < a.n) (hy : a.K d = y) (hf : fire (st t) (s.M i) = some y) (hi : i < s.c) (ht : t < k)
    (hr : W8.ownsRow (w.heap.size + 1 + 1 + 1) 68 8 v' ((a.L d).length + 1) (cl8 (a.L d) ++ L8 (s.M i))) (hg : W7.grownBy W8 (V d).ownBlock) (hat : v'.ownBlock = (V d).ownBlock ∨ v'.ownBlock = some W7.heap.size)
    (hm : MapB W9 (w.heap.size + 1) a.n a.K (upd V d v')) (ho : Only (w.heap.size + 1) W8 W9) :
    AhR w W9 st k p s nv i (t + 1) (a.put d (s.M i)) (upd V d v') ∧ Blk W9 G 8 f 68 ∧ Apt (upd V d v') a.n G := by
  obtain ⟨h1, h2, h3, h4, h5⟩ := hA
  have hlow : ∀ {g : Nat}, g < w.heap.size + 1 + 1 + 1 → some g ≠ (V d).ownBlock := fun hg' e => by
    have := (own_lt (h4.row d hd) e.symm).2; omega
  have hb8 : Below w.heap.size w W8 := ⟨hg.os.trans h1.os, hg.tape.trans h1.tape, hg.output.trans h1.output, Nat.le_trans h1.size hg.size, fun q hq => (hg.block q (Nat.lt_of_lt_of_le hq h1.size) (hlow (by omega))).trans (h1.block q hq)⟩
  refine ⟨⟨hb8.trans (ho.below (by omega)), ho.blk (grown_blk hg h2 (hlow (by omega))) (by omega), ho.blk (grown_blk hg h3 (hlow (by omega))) (by omega), h4.put hd hr hg hat hm ho, h5.put hf hi ht hd hy⟩, ho.blk (grown_blk hg hG (fun e => hap d hd e.symm)) hGb, fun j hj => ?_⟩
  by_cases e : j = d
  · rw [e, upd_same]
    rcases hat with h | h
    · rw [h]; exact hap d hd
    · rw [h]; intro e2; cases e2; have := hG.lt; omega
  · rw [upd_other _ _ _ _ e]; exact hap j hj
theorem AhR.addK {w W6 W7 : World} {st : Nat → Sp} {k p : Nat} {s : Bs} {nv : Nat → Value} {i t : Nat} {a : Ah} {V : Nat → Value} {G : Nat} {f : Nat → Value} {y : Nat → Int}
    (hA : AhR w W6 st k p s nv i t a V) (hG : Blk W6 G 8 f 68) (hGb : G ≠ w.heap.size + 1) (hap : Apt V a.n G) (hy : Mk p y) (hn : NoKey a.n a.K y) (hm : MapB W7 (w.heap.size + 1) (a.n + 1) (upd a.K a.n y) (upd V a.n (.slice none 0 0))) (ho : Only (w.heap.size + 1) W6 W7) :
    AhR w W7 st k p s nv i t (a.add y) (upd V a.n (.slice none 0 0)) ∧ Blk W7 G 8 f 68 ∧ Apt (upd V a.n (.slice none 0 0)) (a.n + 1) G := by
  obtain ⟨h1, h2, h3, h4, h5⟩ := hA
  refine ⟨⟨h1.trans (ho.below (by omega)), ho.blk h2 (by omega), ho.blk h3 (by omega), h4.addK hm ho, h5.addK hy hn⟩, ho.blk hG hGb, fun j hj => ?_⟩
  by_cases e : j = a.n
  · rw [e, upd_same]; simp [Value.ownBlock]
  · rw [upd_other _ _ _ _ e]; exact hap j (by omega)
theorem AhR.seen {w W6 W7 : World} {st : Nat → Sp} {k p : Nat} {s : Bs} {nv : Nat → Value} {i t : Nat} {a : Ah} {V : Nat → Value} {G : Nat} {f : Nat → Value}
    (hA : AhR w W6 st k p s nv i t a V) (hG : Blk W6 G 8 f 68) (hGb : G ≠ w.heap.size + 1) (hm : MapB W7 (w.heap.size + 1) a.n a.K V) (ho : Only (w.heap.size + 1) W6 W7) :
    AhR w W7 st k p s nv i t a V ∧ Blk W7 G 8 f 68 := by
  obtain ⟨h1, h2, h3, h4, h5⟩ := hA
  exact ⟨⟨h1.trans (ho.below (by omega)), ho.blk h2 (by omega), ho.blk h3 (by omega), ⟨hm, fun j hj => own_only (h4.row j hj) ho (own_ne_map (h4.row j hj) h4.map), h4.apart⟩, h5⟩, ho.blk hG hGb⟩
end M
theorem zero_marks (W : World) : (zeroValue 81).run Try.prog W = .ok (.slice none 0 0) W := by
  have h : (Try.prog.info? 81).map (fun i => i.zero) = some (some (.slice none 0 0)) := by kernel_rfl
  cases hi : Try.prog.info? 81 with
  | none => rw [hi] at h; cases h
  | some ti =>
    rw [hi] at h
    simp only [Option.map_some, Option.some.injEq] at h
    simp [zeroValue, typeInfo, hi, h]
/-- The entry of a key, whether it was there or is laid anew. -/
theorem entry_either {w W6 : World} {st : Nat → Sp} {k p : Nat} {s : Bs} {nv : Nat → Value} {i t : Nat} {a : Ah} {V : Nat → Value} {G X : Nat} {f g : Nat → Value} {ty : TypeId} {y : Nat → Int} (hp : p ≤ 8)
    (hA : AhR w W6 st k p s nv i t a V) (hG : Blk W6 G 8 f 68) (hGb : G ≠ w.heap.size + 1) (hap : Apt V a.n G) (hX : Blk W6 X 8 g ty) (hXb : X ≠ w.heap.size + 1) (hy : Mk p y) :
    ∃ (a' : Ah) (V' : Nat → Value) (d : Nat) (W7 : World), (Instr.mapEntry 101 (.map (some (w.heap.size + 1))) (mkV y)).run Try.prog W6 = .ok (.tuple #[V' d, .int .i64 (d : Int)]) W7 ∧ d < a'.n ∧ a'.K d = y ∧ (AhR w W7 st k p s nv i t a' V' ∧ Blk W7 G 8 f 68 ∧ Apt V' a'.n G) ∧ Blk W7 X 8 g ty := by
  have hmp := hA.2.2.2.1.map
  cases hkn : kn a.K y a.n with
  | true =>
    obtain ⟨d, hd, hno, hveq⟩ := kn_true hkn
    obtain ⟨W7, hr7, hM7, hO7⟩ := entry_yes Try.underlying101 hmp y hd hno hveq
    obtain ⟨h1, h2⟩ := hA.seen hG hGb hM7 hO7
    exact ⟨a, V, d, W7, hr7, hd, ((mk_eq hp hy (hA.2.2.2.2.mark d hd)).1 hveq).symm, ⟨h1, h2, hap⟩, hO7.blk hX hXb⟩
  | false =>
    have hno := kn_false.1 hkn
    obtain ⟨W7, hr7, hM7, hO7⟩ := entry_new Try.underlying101 (zero_marks W6) hmp y hno
    have h1 := hA.addK hG hGb hap hy hno hM7 hO7
    exact ⟨a.add y, upd V a.n (.slice none 0 0), a.n, W7, by rw [upd_same]; exact hr7, Nat.lt_succ_self _, upd_same _ _ _, h1, hO7.blk hX hXb⟩
end Go.Proofs.Ythilapalgakhhaa

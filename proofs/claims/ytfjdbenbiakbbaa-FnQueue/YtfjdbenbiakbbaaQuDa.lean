/-
  Line steps appended to a list of the call's own.
-/
import Derived.Test.YtfjdbenbiakbbaaQuQ
import Derived.Maps.AppendAt
import Derived.Laws.AppendOwnNone
namespace Go.Proofs.Ytfjdbenbiakbbaa
open Go.RowKit M
open Go.Sort (grow)
theorem lit_lst {w : World} {g : Nat} {s : Lst} (h : Blk w g 3 (ql s) 36) : ∀ j u, (cellsL [s])[j]? = some u → w.cell? ((⟨g, 0, none⟩ : Addr).add j) = some u := fun j u hj => by
  obtain ⟨⟨c0, c1, c2⟩, -⟩ := h.trp
  rw [addr_lit, Nat.zero_add]
  match j, hj with
  | 0, hj => simp [cellsL] at hj; subst hj; exact c0
  | 1, hj => simp [cellsL] at hj; subst hj; exact c1
  | 2, hj => simp [cellsL] at hj; subst hj; exact c2
/-- One more line step behind a list of the call's own. -/
theorem wpList_appL (w : World) {ops : Array Oper} {rest : List Oper} {o : Oper} {a : Act} {Q : Exit → Act → World → Prop} (hgd : o.guard = none) (s x : Operand)
    (ho : o.op = .call { callee := .builtin .append, args := #[s, x], argTypes := #[46, 46] }) (B : Nat) (l : Lsts) (i : Lst) (v : Value) (hs : a.eval s = v) (hown : OwnL w B v l)
    (b cu : Nat) (hx : a.eval x = .slice (some ⟨b, 0, none⟩) 1 cu) (hu : Blk w b 3 (ql i) 36) (hl : l.length ≤ 1048576) (hbase : B ≤ w.heap.size)
    (h : ∀ a' n' c' w', OwnL w' B (.slice a' n' c') (l ++ [i]) → w.grownBy w' v.ownBlock → ((Value.slice a' n' c').ownBlock = v.ownBlock ∨ (Value.slice a' n' c').ownBlock = some w.heap.size) → wpList Try.prog ops Q rest (a.put o.dst (.slice a' n' c')) w') : wpList Try.prog ops Q (o :: rest) a w := by
  obtain ⟨i0, hi, hz0, hz1, hz2⟩ := info_parts info_lst
  obtain ⟨v', w', hrn, hown', hgr, -, hblk⟩ := run_append_own_at (P := Try.prog) (w := w) B 46 o.type 36 i0 _ 3 32 Try.underlying46 hi hz0 hz1 hz2 rfl (by decide) v _ _ hown ⟨b, 0, none⟩ 1 cu (cellsL [i]) rfl (lit_lst hu) (cellsL_one [i]) (by unfold maxLen; omega) (by omega) hbase
  have hO : OwnL w' B v' (l ++ [i]) := by
    unfold OwnL
    rw [List.length_append, cellsL_app]; exact hown'
  obtain ⟨a', c', rfl⟩ := hO.form
  exact Lib.wpList_append_run (P := Try.prog) w hgd s x 46 46 ho _ _ hs hx _ _ hrn (h _ _ _ w' hO hgr hblk)
end Go.Proofs.Ytfjdbenbiakbbaa

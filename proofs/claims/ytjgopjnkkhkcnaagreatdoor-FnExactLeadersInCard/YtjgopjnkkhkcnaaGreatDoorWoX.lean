/-
  One more triple behind a row of the call's own.
-/
import Derived.Test.YtjgopjnkkhkcnaaGreatDoorWoB
import Derived.Maps.AppendAt
import Derived.Lib.AppendZeros
import Derived.Lib.AppendZerosOnto
import Derived.Laws.AppendOwnNone
import Derived.Laws.NewBlocks
import Derived.Deep.RegionLaw
namespace Go.Proofs.YtjgopjnkkhkcnaaGreatDoor
open Go.RowKit M
open Go.Sort (grow)
namespace M
theorem add_litT (b o j : Nat) : (⟨b, o, none⟩ : Addr).add j = ⟨b, o + j, none⟩ := by unfold Addr.add; split <;> simp_all
/-- Three cells are a triple's. -/
theorem src3 {w : World} {b : Nat} {t : Tp} {T : TypeId} (h : Blk w b 3 (q3 (.int .i64 t.a) (.int .i64 t.b) t.v) T) : ∀ j u, (cellsT [t])[j]? = some u → w.cell? ((⟨b, 0, none⟩ : Addr).add j) = some u := fun j u hj => by
  obtain ⟨⟨h0, h1, h2⟩, -⟩ := h.tri
  rw [add_litT, Nat.zero_add]
  match j, hj with
  | 0, hj => simp [cellsT] at hj; subst hj; exact h0
  | 1, hj => simp [cellsT] at hj; subst hj; exact h1
  | 2, hj => simp [cellsT] at hj; subst hj; exact h2
theorem one3 {t : Tp} {w : World} (h : OwnP w t.lo t.v t.ps) : ∀ v ∈ cellsT [t], v.oneCell' = true := fun v hv => by
  obtain ⟨a, c, hf⟩ := h.form
  simp only [cellsT, List.mem_cons, List.not_mem_nil, or_false] at hv
  rcases hv with rfl | rfl | rfl
  · rfl
  · rfl
  · rw [hf]; rfl
/-- What stands ready to be appended. -/
structure Rdy (w : World) (B : Nat) (v : Value) (ts : List Tp) (t : Tp) : Prop where
  own : OwnP w t.lo t.v t.ps
  inn : Within t.lo t.hi t.v t.ps
  lo : B ≤ t.lo
  hi : t.hi ≤ w.heap.size
  far : ∀ g, v.ownBlock = some g → g < t.lo ∨ t.hi ≤ g
  ap : ∀ s ∈ ts, s.hi ≤ t.lo ∨ t.hi ≤ s.lo
theorem Rdy.down {w w' : World} {B : Nat} {v : Value} {ts : List Tp} {t : Tp} (h : Rdy w B v ts t) (hb : Below w.heap.size w w') : Rdy w' B v ts t := ⟨h.own.down hb, h.inn, h.lo, Nat.le_trans h.hi hb.size, h.far, h.ap⟩
/-- New memory, made behind the row. -/
theorem Rdy.new {e : TypeId} {w w' : World} {B : Nat} {v u : Value} {ts : List Tp} {qs : Prs} {a b : Int} (h : OwnTp e w B v ts) (hB : B ≤ w.heap.size) (_hb : Below w.heap.size w w') (ho : OwnP w' w.heap.size u qs) : Rdy w' B v ts ⟨a, b, u, qs, w.heap.size, w'.heap.size⟩ :=
  ⟨ho, ho.within, hB, Nat.le_refl _, fun _ hg => .inl (h.lt hg).2, fun s hs => .inl (h.own s hs).2.2.2⟩
theorem OwnTp.snoc {e : TypeId} {w w' : World} {B : Nat} {v v' : Value} {ts : List Tp} {t : Tp} (h : OwnTp e w B v ts) (hr : Rdy w B v ts t) (h1 : w'.ownsRow B e 3 v' (ts.length + 1) (cellsT ts ++ cellsT [t])) (hg : w.grownBy w' v.ownBlock) (hb : v'.ownBlock = v.ownBlock ∨ v'.ownBlock = some w.heap.size) : OwnTp e w' B v' (ts ++ [t]) := by
  have hk := KeptS.grown hg
  refine ⟨by rw [List.length_append, cellsT_app]; exact h1, fun s hs => ?_, fun g hg' s hs => ?_, fun i j x y hij hx hy => ?_⟩
  · rw [List.mem_append, List.mem_singleton] at hs
    rcases hs with hs | rfl
    · exact ⟨(h.own s hs).1.keptS (h.own s hs).2.1 hk (fun k a b e => by have := h.far k e s hs; omega), (h.own s hs).2.1, (h.own s hs).2.2.1, Nat.le_trans (h.own s hs).2.2.2 hk.size⟩
    · exact ⟨hr.own.keptS hr.inn hk (fun k a b e => by have := hr.far k e; omega), hr.inn, hr.lo, Nat.le_trans hr.hi hk.size⟩
  · rw [List.mem_append, List.mem_singleton] at hs
    rcases hb with hb | hb
    · rw [hb] at hg'
      rcases hs with hs | rfl
      · exact h.far g hg' s hs
      · exact hr.far g hg'
    · rw [hb] at hg'
      simp only [Option.some.injEq] at hg'
      subst hg'
      rcases hs with hs | rfl
      · exact .inr (h.own s hs).2.2.2
      · exact .inr hr.hi
  · have key : ∀ (i : Nat) (x : Tp), (ts ++ [t])[i]? = some x → (i < ts.length ∧ ts[i]? = some x) ∨ (i = ts.length ∧ x = t) := fun i x hx => by
      by_cases c : i < ts.length
      · rw [List.getElem?_append_left c] at hx; exact .inl ⟨c, hx⟩
      · have hl := (List.getElem?_eq_some_iff.1 hx).1
        rw [List.length_append, List.length_singleton] at hl
        have hi : i = ts.length := by omega
        subst hi
        rw [List.getElem?_append_right (Nat.le_refl _), Nat.sub_self] at hx
        simp at hx
        exact .inr ⟨rfl, hx.symm⟩
    rcases key i x hx with ⟨a1, a2⟩ | ⟨a1, rfl⟩ <;> rcases key j y hy with ⟨b1, b2⟩ | ⟨b1, rfl⟩
    · exact h.ap i j x y hij a2 b2
    · exact hr.ap x (List.mem_of_getElem? a2)
    · exact (hr.ap y (List.mem_of_getElem? b2)).symm
    · omega
end M
theorem wpList_app_region (w : World) {ops : Array Oper} {rest : List Oper} {o : Oper} {a : Act} {Q : Exit → Act → World → Prop} (hgd : o.guard = none) (s x : Operand)
    (ho : o.op = .call { callee := .builtin .append, args := #[s, x], argTypes := #[56, 56] }) (B : Nat) (ts : List Tp) (t : Tp) (v : Value) (hs : a.eval s = v) (hown : OwnTp 32 w B v ts) (hr : Rdy w B v ts t)
    (b cu : Nat) (hx : a.eval x = .slice (some ⟨b, 0, none⟩) 1 cu) (hu : Blk w b 3 (q3 (.int .i64 t.a) (.int .i64 t.b) t.v) 32) (hl : ts.length ≤ 1048576) (hbase : B ≤ w.heap.size)
    (h : ∀ a' n' c' w', OwnTp 32 w' B (.slice a' n' c') (ts ++ [t]) → w.grownBy w' v.ownBlock → ((Value.slice a' n' c').ownBlock = v.ownBlock ∨ (Value.slice a' n' c').ownBlock = some w.heap.size) → wpList Tryz.prog ops Q rest (a.put o.dst (.slice a' n' c')) w') : wpList Tryz.prog ops Q (o :: rest) a w := by
  obtain ⟨i0, hi, hz0, hz1, hz2⟩ := info_parts info_region
  obtain ⟨v', w', hrn, hown', hgr, -, hblk⟩ := run_append_own_at (P := Tryz.prog) (w := w) B 56 o.type 32 i0 _ 3 40 Tryz.underlying56 hi hz0 hz1 hz2 rfl (by decide) v _ _ hown.row ⟨b, 0, none⟩ 1 cu (cellsT [t]) (cellsT_len [t]) (src3 hu) (one3 hr.own) (by unfold maxLen; omega) (by omega) hbase
  have hO : OwnTp 32 w' B v' (ts ++ [t]) := hown.snoc hr hown' hgr hblk
  obtain ⟨a', c', rfl⟩ := hO.form
  exact Lib.wpList_append_run (P := Tryz.prog) w hgd s x 56 56 ho _ _ hs hx _ _ hrn (h _ _ _ w' hO hgr hblk)
theorem wpList_app_said (w : World) {ops : Array Oper} {rest : List Oper} {o : Oper} {a : Act} {Q : Exit → Act → World → Prop} (hgd : o.guard = none) (s x : Operand)
    (ho : o.op = .call { callee := .builtin .append, args := #[s, x], argTypes := #[57, 57] }) (B : Nat) (ts : List Tp) (t : Tp) (v : Value) (hs : a.eval s = v) (hown : OwnTp 121 w B v ts) (hr : Rdy w B v ts t)
    (b cu : Nat) (hx : a.eval x = .slice (some ⟨b, 0, none⟩) 1 cu) (hu : Blk w b 3 (q3 (.int .i64 t.a) (.int .i64 t.b) t.v) 121) (hl : ts.length ≤ 1048576) (hbase : B ≤ w.heap.size)
    (h : ∀ a' n' c' w', OwnTp 121 w' B (.slice a' n' c') (ts ++ [t]) → w.grownBy w' v.ownBlock → ((Value.slice a' n' c').ownBlock = v.ownBlock ∨ (Value.slice a' n' c').ownBlock = some w.heap.size) → wpList Tryz.prog ops Q rest (a.put o.dst (.slice a' n' c')) w') : wpList Tryz.prog ops Q (o :: rest) a w := by
  obtain ⟨i0, hi, hz0, hz1, hz2⟩ := info_parts info_said
  obtain ⟨v', w', hrn, hown', hgr, -, hblk⟩ := run_append_own_at (P := Tryz.prog) (w := w) B 57 o.type 121 i0 _ 3 40 Tryz.underlying57 hi hz0 hz1 hz2 rfl (by decide) v _ _ hown.row ⟨b, 0, none⟩ 1 cu (cellsT [t]) (cellsT_len [t]) (src3 hu) (one3 hr.own) (by unfold maxLen; omega) (by omega) hbase
  have hO : OwnTp 121 w' B v' (ts ++ [t]) := hown.snoc hr hown' hgr hblk
  obtain ⟨a', c', rfl⟩ := hO.form
  exact Lib.wpList_append_run (P := Tryz.prog) w hgd s x 57 57 ho _ _ hs hx _ _ hrn (h _ _ _ w' hO hgr hblk)
end Go.Proofs.YtjgopjnkkhkcnaaGreatDoor

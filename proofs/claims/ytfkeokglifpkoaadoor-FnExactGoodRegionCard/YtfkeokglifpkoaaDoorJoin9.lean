/-
  Texts that follow one another, joined: Mem, OwnR.
-/
import Derived.Test.YtfkeokglifpkoaaDoorChecked
import Derived.WalkKit
import Derived.WalkLawsBesides
import Derived.OwnWalk
import Derived.Below
import Derived.Laws.CopyOwn
import Derived.Laws.MakeOwn
import Derived.Test.YtfkeokglifpkoaaDoorJoin8
import Derived.Test.YtfkeokglifpkoaaDoorJoin1
/-
  Blocks of memory that are known whole, by a function from places to values; slices of numbers and of acts that are read; arrays of six numbers as values.
-/
namespace Go.Proofs.YtfkeokglifpkoaaDoor
open Go.RowKit
namespace M
open Clk (upd upd_same upd_other)
def cf (n : Nat) (f : Nat → Value) : Array Value := ((List.range n).map f).toArray
theorem cf_size (n : Nat) (f : Nat → Value) : (cf n f).size = n := by simp [cf]
theorem cf_get {n i : Nat} (f : Nat → Value) (h : i < n) : (cf n f)[i]? = some (f i) := by simp [cf, h]
theorem cf_ext {n : Nat} {f g : Nat → Value} (h : ∀ i, i < n → f i = g i) : cf n f = cf n g := by
  unfold cf; congr 1; exact List.map_congr_left fun i hi => h i (List.mem_range.1 hi)
theorem cf_set (n i : Nat) (f : Nat → Value) (v : Value) : (cf n f).setIfInBounds i v = cf n (upd f i v) := by
  apply Array.ext_getElem?
  intro j
  rw [Array.getElem?_setIfInBounds]
  by_cases hj : j < n
  · rw [cf_get (upd f i v) hj]
    by_cases hij : i = j
    · subst hij; rw [if_pos rfl, cf_size, if_pos hj, upd_same]
    · rw [if_neg hij, cf_get _ hj, upd_other _ _ _ _ (fun h => hij h.symm)]
  · have h1 : (cf n (upd f i v))[j]? = none := Array.getElem?_eq_none (by rw [cf_size]; omega)
    have h2 : (cf n f)[j]? = none := Array.getElem?_eq_none (by rw [cf_size]; omega)
    rw [h1, h2]; split
    · rw [cf_size, if_neg (by omega)]
    · rfl
theorem cf_made (z : Value) (n : Nat) : madeCells #[z] n = cf n (fun _ => z) := by
  apply Array.ext_getElem?
  intro j
  by_cases hj : j < n
  · rw [cf_get _ hj]; simp [madeCells, hj, Nat.mod_one]
  · rw [Array.getElem?_eq_none (by rw [size_madeCells]; omega), Array.getElem?_eq_none (by rw [cf_size]; omega)]
/-- Block g is whole: n cells, that of place i holding f i. -/
def Blk (w : World) (g n : Nat) (f : Nat → Value) (t : TypeId) : Prop := w.heap[g]? = some (.cells (cf n f) t (0, 0))
theorem Blk.lt {w : World} {g n : Nat} {f : Nat → Value} {t : TypeId} (h : Blk w g n f t) : g < w.heap.size := by
  rcases Nat.lt_or_ge g w.heap.size with h' | h'
  · exact h'
  · unfold Blk at h; rw [Array.getElem?_eq_none h'] at h; cases h
theorem Blk.cell {w : World} {g n : Nat} {f : Nat → Value} {t : TypeId} (h : Blk w g n f t) {i : Nat} (hi : i < n) : w.cell? ⟨g, i, none⟩ = some (f i) := by
  unfold Blk at h
  simp [World.cell?, h, cf_get f hi]
theorem Blk.thaw {w : World} {g n : Nat} {f : Nat → Value} {t : TypeId} (h : Blk w g n f t) (i : Nat) : w.frozen? ⟨g, i, none⟩ = false := by
  unfold Blk at h
  simp [World.frozen?, h]
theorem Blk.set {w : World} {g n : Nat} {f : Nat → Value} {t : TypeId} (h : Blk w g n f t) (i : Nat) (v : Value) : Blk (w.setCell ⟨g, i, none⟩ v) g n (upd f i v) t := by
  have h1 := Go.heap_setCell_same _ g i _ t v h
  rw [cf_set] at h1
  exact h1
theorem Blk.set_other {w : World} {g n : Nat} {f : Nat → Value} {t : TypeId} (h : Blk w g n f t) {g' : Nat} (hne : g ≠ g') (i : Nat) (v : Value) : Blk (w.setCell ⟨g', i, none⟩ v) g n f t := by
  unfold Blk; rw [Go.heap_setCell_other _ _ _ _ hne]; exact h
theorem Blk.alloc {w : World} {g n : Nat} {f : Nat → Value} {t : TypeId} (h : Blk w g n f t) (o : Obj) : Blk (w.alloc o) g n f t := by
  unfold Blk; rw [Below.heap_alloc w o g h.lt]; exact h
theorem Blk.below {w w' : World} {g n B : Nat} {f : Nat → Value} {t : TypeId} (h : Blk w g n f t) (hb : Below B w w') (hB : g < B) : Blk w' g n f t := by
  unfold Blk; rw [hb.block g hB]; exact h
theorem Blk.down {w w' : World} {g n : Nat} {f : Nat → Value} {t : TypeId} (h : Blk w g n f t) (hb : Below w.heap.size w w') : Blk w' g n f t := h.below hb h.lt
theorem Blk.drew {w : World} {g n : Nat} {f : Nat → Value} {t : TypeId} (h : Blk w g n f t) : Blk w.drew g n f t := h
theorem Blk.ext {w : World} {g n : Nat} {f f' : Nat → Value} {t : TypeId} (h : Blk w g n f t) (he : ∀ i, i < n → f i = f' i) : Blk w g n f' t := by
  unfold Blk; rw [← cf_ext he]; exact h
theorem Blk.new (w : World) (n : Nat) (f : Nat → Value) (t : TypeId) : Blk (w.alloc (.cells (cf n f) t)) w.heap.size n f t := heap_alloc_new w _
theorem Blk.fresh (w : World) (cs : Array Value) (n : Nat) (f : Nat → Value) (t : TypeId) (h : cs = cf n f) : Blk (w.alloc (.cells cs t)) w.heap.size n f t := by subst h; exact heap_alloc_new w _
theorem Blk.ne {w : World} {g g' n n' : Nat} {f f' : Nat → Value} {t t' : TypeId} (h : Blk w g n f t) (hg' : ¬ g' < w.heap.size) (_ : Blk w g n' f' t') : g ≠ g' := fun e => by subst e; exact hg' h.lt
/-- A slice of numbers that is read. -/
def IntsOf (w : World) (v : Value) (n : Nat) (f : Nat → Int) : Prop :=
  ∃ a cap, v = .slice a n cap ∧ (0 < n → ∃ b off, a = some ⟨b, off, none⟩ ∧ b < w.heap.size ∧ ∀ i, i < n → w.cell? ⟨b, off + i, none⟩ = some (.int .i64 (f i)))
theorem IntsOf.below {w w' : World} {v : Value} {n : Nat} {f : Nat → Int} (h : IntsOf w v n f) (hb : Below w.heap.size w w') : IntsOf w' v n f := by
  obtain ⟨a, cap, hv, hr⟩ := h
  refine ⟨a, cap, hv, fun hn => ?_⟩
  obtain ⟨b, off, ha, hlt, hrow⟩ := hr hn
  exact ⟨b, off, ha, Nat.lt_of_lt_of_le hlt hb.size, fun i hi => (hb.cell (p := ⟨b, off + i, none⟩) hlt).trans (hrow i hi)⟩
theorem IntsOf.form {w : World} {v : Value} {n : Nat} {f : Nat → Int} (h : IntsOf w v n f) : ∃ a cap, v = .slice a n cap := by
  obtain ⟨a, cap, hv, _⟩ := h; exact ⟨a, cap, hv⟩
def iv (f : Nat → Int) : Nat → Value := fun i => .int .i64 (f i)
theorem Blk.ints {w : World} {g n cap : Nat} {f : Nat → Int} {t : TypeId} (h : Blk w g n (iv f) t) : IntsOf w (.slice (some ⟨g, 0, none⟩) n cap) n f :=
  ⟨_, _, rfl, fun _ => ⟨g, 0, rfl, h.lt, fun i hi => by rw [Nat.zero_add]; exact h.cell hi⟩⟩
/-- An act, and a slice of acts that is read: l names the processes and the sources. -/
structure Ac where
  proc : Int
  frm : Int
abbrev Ac.v (a : Ac) : Value := .agg #[.int .i64 a.proc, .int .i64 a.frm]
def ActsOf (w : World) (v : Value) (n : Nat) (l : Nat → Ac) : Prop :=
  ∃ a cap, v = .slice a n cap ∧ (0 < n → ∃ b off, a = some ⟨b, off, none⟩ ∧ b < w.heap.size ∧ ∀ i, i < n → w.cell? ⟨b, off + i * 2, none⟩ = some (.int .i64 (l i).proc) ∧ w.cell? ⟨b, off + i * 2 + 1, none⟩ = some (.int .i64 (l i).frm))
theorem ActsOf.below {w w' : World} {v : Value} {n : Nat} {l : Nat → Ac} (h : ActsOf w v n l) (hb : Below w.heap.size w w') : ActsOf w' v n l := by
  obtain ⟨a, cap, hv, hr⟩ := h
  refine ⟨a, cap, hv, fun hn => ?_⟩
  obtain ⟨b, off, ha, hlt, hrow⟩ := hr hn
  exact ⟨b, off, ha, Nat.lt_of_lt_of_le hlt hb.size, fun i hi => ⟨(hb.cell (p := ⟨b, off + i * 2, none⟩) hlt).trans (hrow i hi).1, (hb.cell (p := ⟨b, off + i * 2 + 1, none⟩) hlt).trans (hrow i hi).2⟩⟩
theorem ActsOf.form {w : World} {v : Value} {n : Nat} {l : Nat → Ac} (h : ActsOf w v n l) : ∃ a cap, v = .slice a n cap := by
  obtain ⟨a, cap, hv, _⟩ := h; exact ⟨a, cap, hv⟩
def av (l : Nat → Ac) : Nat → Value := fun j => if j % 2 = 0 then .int .i64 (l (j / 2)).proc else .int .i64 (l (j / 2)).frm
theorem av_even (l : Nat → Ac) (i : Nat) : av l (i * 2) = .int .i64 (l i).proc := by
  unfold av; rw [if_pos (by omega), show i * 2 / 2 = i by omega]
theorem av_odd (l : Nat → Ac) (i : Nat) : av l (i * 2 + 1) = .int .i64 (l i).frm := by
  unfold av; rw [if_neg (by omega), show (i * 2 + 1) / 2 = i by omega]
theorem Blk.acts {w : World} {g n cap m : Nat} {l : Nat → Ac} {t : TypeId} (h : Blk w g m (av l) t) (hm : m = n * 2) : ActsOf w (.slice (some ⟨g, 0, none⟩) n cap) n l := by
  subst hm
  refine ⟨_, _, rfl, fun _ => ⟨g, 0, rfl, h.lt, fun i hi => ?_⟩⟩
  rw [Nat.zero_add, ← av_even l i, ← av_odd l i]
  exact ⟨h.cell (by omega), h.cell (by omega)⟩
/-- Six numbers as one value. -/
abbrev vecV (v : Nat → Int) : Value := .agg #[.int .i64 (v 0), .int .i64 (v 1), .int .i64 (v 2), .int .i64 (v 3), .int .i64 (v 4), .int .i64 (v 5)]
theorem cf6 (v : Nat → Int) : #[(.int .i64 (v 0) : Value), .int .i64 (v 1), .int .i64 (v 2), .int .i64 (v 3), .int .i64 (v 4), .int .i64 (v 5)] = cf 6 (iv v) := rfl
theorem Blk.cell_ints {w : World} {g n : Nat} {f : Nat → Int} {t : TypeId} (h : Blk w g n (iv f) t) {i : Nat} (hi : i < n) : w.cell? ⟨g, i, none⟩ = some (.int .i64 (f i)) := h.cell hi
theorem Blk.six {w : World} {g : Nat} {v : Nat → Int} {t : TypeId} (h : Blk w g 6 (iv v) t) :
    w.cell? ⟨g, 0, none⟩ = some (.int .i64 (v 0)) ∧ w.cell? ⟨g, 1, none⟩ = some (.int .i64 (v 1)) ∧ w.cell? ⟨g, 2, none⟩ = some (.int .i64 (v 2)) ∧ w.cell? ⟨g, 3, none⟩ = some (.int .i64 (v 3)) ∧ w.cell? ⟨g, 4, none⟩ = some (.int .i64 (v 4)) ∧ w.cell? ⟨g, 5, none⟩ = some (.int .i64 (v 5)) :=
  ⟨h.cell (by omega), h.cell (by omega), h.cell (by omega), h.cell (by omega), h.cell (by omega), h.cell (by omega)⟩
theorem iv_upd (f : Nat → Int) (i : Nat) (x : Int) : upd (iv f) i (.int .i64 x) = iv (upd f i x) := by
  funext j; unfold iv upd; split <;> rfl
theorem Blk.set_int {w : World} {g n : Nat} {f : Nat → Int} {t : TypeId} (h : Blk w g n (iv f) t) (i : Nat) (x : Int) : Blk (w.setCell ⟨g, i, none⟩ (.int .i64 x)) g n (iv (upd f i x)) t := by
  rw [← iv_upd]; exact h.set i _
end M
theorem info_int : (Tryd.prog.info? 3).map (fun i => (i.zero, i.size, i.bytes)) = some (some (.int .i64 0), 1, 8) := by kernel_rfl
theorem make_ints (n : Nat) (h : n ≤ 1048576) (w : World) : (Instr.makeSlice 152 (.int .i64 (n : Int)) (.int .i64 (n : Int))).run Tryd.prog w = .ok (.slice (some ⟨w.heap.size, 0, none⟩) n n) (w.alloc (.cells (M.cf n (M.iv fun _ => 0)) 3)) := by
  obtain ⟨i, hi, hz0, hz1, hz2⟩ := info_parts info_int
  have hr := run_make (P := Tryd.prog) w 152 3 i _ Tryd.underlying152 hi hz0 .i64 .i64 (n : Int) (n : Int) (by omega) (Int.le_refl _) (by rw [hz2]; omega) (by omega)
  rw [hr, hz1]
  simp only [Int.toNat_natCast, Nat.mul_one]
  rw [← show madeCells #[(.int .i64 0 : Value)] n = M.cf n (M.iv fun _ => 0) from M.cf_made _ n]
  rfl
end Go.Proofs.YtfkeokglifpkoaaDoor

/-
  Rows of a call's own that append gathers: what they hold, what turns them and what doesn't.
-/
namespace Go.Proofs.YtfkeokglifpkoaaDoor
open Go.RowKit M
namespace M
theorem blk_below {W w : World} {b : Nat} {o : Obj} (h : W.heap[b]? = some o) (hb : Below W.heap.size W w) : w.heap[b]? = some o := by
  rw [hb.block b]
  · exact h
  · rcases Nat.lt_or_ge b W.heap.size with h' | h'
    · exact h'
    · rw [Array.getElem?_eq_none h'] at h; cases h
theorem owns_below {w w' : World} {B e size n : Nat} {v : Value} {xs : List Value} (h : w.ownsRow B e size v n xs) (hb : Below w.heap.size w w') : w'.ownsRow B e size v n xs := by
  refine ⟨h.1, ?_⟩
  rcases h.2 with h0 | ⟨g, cap, cur, hv, hB, hg, r⟩
  · exact .inl h0
  · exact .inr ⟨g, cap, cur, hv, hB, blk_below hg hb, r⟩
theorem owns_mono {w : World} {B B' e size n : Nat} {v : Value} {xs : List Value} (h : w.ownsRow B e size v n xs) (hb : B' ≤ B) : w.ownsRow B' e size v n xs := by
  refine ⟨h.1, ?_⟩
  rcases h.2 with h0 | ⟨g, cap, cur, hv, hB, r⟩
  · exact .inl h0
  · exact .inr ⟨g, cap, cur, hv, Nat.le_trans hb hB, r⟩
theorem own_form {w : World} {B e s n : Nat} {v : Value} {xs : List Value} (h : w.ownsRow B e s v n xs) : ∃ a cap, v = .slice a n cap := by
  rcases h.2 with ⟨rfl, rfl⟩ | ⟨g, cap, cur, rfl, _⟩
  · exact ⟨_, _, rfl⟩
  · exact ⟨_, _, rfl⟩
/-- The cells of a row that the call owns. -/
theorem own_cells {w : World} {B e s n : Nat} {v : Value} {xs : List Value} (h : w.ownsRow B e s v n xs) (hx : xs.length = n * s) : ∃ a cap, v = .slice a n cap ∧ (0 < n → ∃ g, a = some ⟨g, 0, none⟩ ∧ B ≤ g ∧ g < w.heap.size ∧ (∀ i u, xs[i]? = some u → w.cell? ⟨g, i, none⟩ = some u)) := by
  rcases h.2 with ⟨rfl, h0⟩ | ⟨g, cap, cur, rfl, hB, hg, hn, hc, hs, ht⟩
  · exact ⟨_, _, by rw [h0], fun hp => by omega⟩
  · refine ⟨_, cap, rfl, fun _ => ⟨g, rfl, hB, ?_, fun i u hi => ?_⟩⟩
    · rcases Nat.lt_or_ge g w.heap.size with h' | h'
      · exact h'
      · rw [Array.getElem?_eq_none h'] at hg; cases hg
    · have hil : i < xs.length := (List.getElem?_eq_some_iff.1 hi).1
      rw [← ht, List.getElem?_take_of_lt (by omega), Array.getElem?_toList] at hi
      simp [World.cell?, hg, hi]
theorem own_ints {w : World} {B e n : Nat} {v : Value} {f : Nat → Int} (h : w.ownsRow B e 1 v n ((List.range n).map (iv f))) : IntsOf w v n f := by
  obtain ⟨a, cap, hv, hr⟩ := own_cells h (by simp)
  refine ⟨a, cap, hv, fun hn => ?_⟩
  obtain ⟨g, ha, _, hlt, hc⟩ := hr hn
  exact ⟨g, 0, ha, hlt, fun i hi => by rw [Nat.zero_add]; exact hc i _ (by rw [List.getElem?_map, List.getElem?_range hi]; rfl)⟩
theorem range_snoc (f : Nat → Value) (k : Nat) : (List.range (k + 1)).map f = (List.range k).map f ++ [f k] := by rw [List.range_succ]; simp
theorem news1 (w : World) (c : Value) (t : TypeId) : ∀ (j : Nat) u, [c][j]? = some u → (w.alloc (.cells #[c] t)).cell? ((⟨w.heap.size, 0, none⟩ : Addr).add j) = some u := by
  intro j u hj
  match j, hj with
  | 0, hj => simp at hj; subst hj; simp [Addr.add]
theorem Blk.grown {w w' : World} {g n B e s m : Nat} {f : Nat → Value} {t : TypeId} {v : Value} {xs : List Value} (h : Blk w g n f t) (hown : w.ownsRow B e s v m xs) (ht : t ≠ e) (hg : w.grownBy w' v.ownBlock) : Blk w' g n f t := by
  unfold Blk
  rw [hg.block g h.lt]
  · exact h
  · rcases hown.2 with ⟨rfl, _⟩ | ⟨g', cap, cur, rfl, _, hb, _⟩
    · simp [Value.ownBlock]
    · simp only [Value.ownBlock]
      intro he
      have he' : g = g' := by simpa using he
      subst he'
      unfold Blk at h
      rw [h] at hb
      simp only [Option.some.injEq, Obj.cells.injEq] at hb
      exact ht hb.2.1
/-- A row is kept where another one grows. -/
theorem owns_other {w w' : World} {B e s n : Nat} {v : Value} {xs : List Value} {row : Option Nat} (h : w.ownsRow B e s v n xs) (hg : w.grownBy w' row) (hne : ∀ g, v.ownBlock = some g → some g ≠ row) : w'.ownsRow B e s v n xs := by
  refine ⟨h.1, ?_⟩
  rcases h.2 with h0 | ⟨g, cap, cur, hv, hB, hb, r⟩
  · exact .inl h0
  · refine .inr ⟨g, cap, cur, hv, hB, ?_, r⟩
    have hlt : g < w.heap.size := by
      rcases Nat.lt_or_ge g w.heap.size with h' | h'
      · exact h'
      · rw [Array.getElem?_eq_none h'] at hb; cases hb
    rw [hg.block g hlt (hne g (by rw [hv]; rfl))]; exact hb
/-- Rows of unlike elements lie in unlike blocks. -/
theorem owns_apart {w : World} {B e s n B' e' s' n' : Nat} {v v' : Value} {xs xs' : List Value} (h : w.ownsRow B e s v n xs) (h' : w.ownsRow B' e' s' v' n' xs') (hne : e ≠ e') : ∀ g, v.ownBlock = some g → some g ≠ v'.ownBlock := by
  intro g hg he
  rcases h.2 with ⟨rfl, _⟩ | ⟨g1, cap, cur, rfl, _, hb, _⟩
  · simp [Value.ownBlock] at hg
  · rcases h'.2 with ⟨rfl, _⟩ | ⟨g2, cap2, cur2, rfl, _, hb2, _⟩
    · simp [Value.ownBlock] at he
    · simp only [Value.ownBlock, Option.some.injEq] at hg he
      subst hg; subst he
      rw [hb] at hb2
      simp only [Option.some.injEq, Obj.cells.injEq] at hb2
      exact hne hb2.2.1
/-- Rows whose first elements are unlike lie in unlike blocks. -/
theorem owns_apart1 {w : World} {B e n B' e' n' : Nat} {v v' a a' : Value} {xs xs' : List Value} (h : w.ownsRow B e 1 v n xs) (h' : w.ownsRow B' e' 1 v' n' xs') (h0 : xs[0]? = some a) (h0' : xs'[0]? = some a') (hne : a ≠ a') : ∀ g, v.ownBlock = some g → some g ≠ v'.ownBlock := by
  intro g hg he
  rcases h.2 with ⟨rfl, _⟩ | ⟨g1, cap, cur, rfl, _, hb, _, _, _, ht⟩
  · simp [Value.ownBlock] at hg
  · rcases h'.2 with ⟨rfl, _⟩ | ⟨g2, cap2, cur2, rfl, _, hb2, _, _, _, ht2⟩
    · simp [Value.ownBlock] at he
    · simp only [Value.ownBlock, Option.some.injEq] at hg he
      subst hg; subst he
      rw [hb] at hb2
      simp only [Option.some.injEq, Obj.cells.injEq] at hb2
      obtain ⟨rfl, _⟩ := hb2
      have l1 : 0 < n := by
        have := (List.getElem?_eq_some_iff.1 h0).1
        rw [h.1] at this; omega
      have l2 : 0 < n' := by
        have := (List.getElem?_eq_some_iff.1 h0').1
        rw [h'.1] at this; omega
      rw [← ht, List.getElem?_take_of_lt (by omega)] at h0
      rw [← ht2, List.getElem?_take_of_lt (by omega)] at h0'
      rw [h0] at h0'
      exact hne (by simpa using h0')
end M
end Go.Proofs.YtfkeokglifpkoaaDoor

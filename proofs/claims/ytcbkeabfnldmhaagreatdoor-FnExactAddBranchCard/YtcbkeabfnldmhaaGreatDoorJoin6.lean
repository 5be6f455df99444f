/-
  Texts that follow one another, joined: Mem, OwnR, EvM.
-/
import Derived.Test.YtcbkeabfnldmhaaGreatDoorChecked
import Derived.WalkKit
import Derived.WalkLawsBesides
import Derived.OwnWalk
import Derived.Below
import Derived.Laws.CopyOwn
import Derived.Laws.MakeOwn
import Derived.Test.YtcbkeabfnldmhaaGreatDoorJoin5
import Derived.Test.YtcbkeabfnldmhaaGreatDoorJoin1
/-
  Blocks of memory that are known whole, by a function from places to values; slices of numbers and of acts that are read; arrays of six numbers as values.
-/
namespace Go.Proofs.YtcbkeabfnldmhaaGreatDoor
open Go.RowKit
namespace M
open Clk (upd upd_same upd_other)
def cf (n : Nat) (f : Nat → Value) : Array Value := ((List.range n).map f).toArray
theorem cf_size (n : Nat) (f : Nat → Value) : (cf n f).size = n := by simp [cf]
theorem cf_get {n i : Nat} (f : Nat → Value) (h : i < n) : (cf n f)[i]? = some (f i) := by simp [cf, h]
theorem cf_ext {n : Nat} {f g : Nat → Value} (h : ∀ i, i < n → f i = g i) : cf n f = cf n g := by
  unfold cf; congr 1; exact List.map_congr_left fun i hi => h i (List.mem_range.1 hi)
theorem cf_set (n i : Nat) (f : Nat → Value) (v : Value) : (cf n f).setIfInBounds i v = cf n (upd f i v) := by
  apply Array.ext_getElem?
  intro j
  rw [Array.getElem?_setIfInBounds]
  by_cases hj : j < n
  · rw [cf_get (upd f i v) hj]
    by_cases hij : i = j
    · subst hij; rw [if_pos rfl, cf_size, if_pos hj, upd_same]
    · rw [if_neg hij, cf_get _ hj, upd_other _ _ _ _ (fun h => hij h.symm)]
  · have h1 : (cf n (upd f i v))[j]? = none := Array.getElem?_eq_none (by rw [cf_size]; omega)
    have h2 : (cf n f)[j]? = none := Array.getElem?_eq_none (by rw [cf_size]; omega)
    rw [h1, h2]; split
    · rw [cf_size, if_neg (by omega)]
    · rfl
theorem cf_made (z : Value) (n : Nat) : madeCells #[z] n = cf n (fun _ => z) := by
  apply Array.ext_getElem?
  intro j
  by_cases hj : j < n
  · rw [cf_get _ hj]; simp [madeCells, hj, Nat.mod_one]
  · rw [Array.getElem?_eq_none (by rw [size_madeCells]; omega), Array.getElem?_eq_none (by rw [cf_size]; omega)]
/-- Block g is whole: n cells, that of place i holding f i. -/
def Blk (w : World) (g n : Nat) (f : Nat → Value) (t : TypeId) : Prop := w.heap[g]? = some (.cells (cf n f) t (0, 0))
theorem Blk.lt {w : World} {g n : Nat} {f : Nat → Value} {t : TypeId} (h : Blk w g n f t) : g < w.heap.size := by
  rcases Nat.lt_or_ge g w.heap.size with h' | h'
  · exact h'
  · unfold Blk at h; rw [Array.getElem?_eq_none h'] at h; cases h
theorem Blk.cell {w : World} {g n : Nat} {f : Nat → Value} {t : TypeId} (h : Blk w g n f t) {i : Nat} (hi : i < n) : w.cell? ⟨g, i, none⟩ = some (f i) := by
  unfold Blk at h
  simp [World.cell?, h, cf_get f hi]
theorem Blk.thaw {w : World} {g n : Nat} {f : Nat → Value} {t : TypeId} (h : Blk w g n f t) (i : Nat) : w.frozen? ⟨g, i, none⟩ = false := by
  unfold Blk at h
  simp [World.frozen?, h]
theorem Blk.set {w : World} {g n : Nat} {f : Nat → Value} {t : TypeId} (h : Blk w g n f t) (i : Nat) (v : Value) : Blk (w.setCell ⟨g, i, none⟩ v) g n (upd f i v) t := by
  have h1 := Go.heap_setCell_same _ g i _ t v h
  rw [cf_set] at h1
  exact h1
theorem Blk.set_other {w : World} {g n : Nat} {f : Nat → Value} {t : TypeId} (h : Blk w g n f t) {g' : Nat} (hne : g ≠ g') (i : Nat) (v : Value) : Blk (w.setCell ⟨g', i, none⟩ v) g n f t := by
  unfold Blk; rw [Go.heap_setCell_other _ _ _ _ hne]; exact h
theorem Blk.alloc {w : World} {g n : Nat} {f : Nat → Value} {t : TypeId} (h : Blk w g n f t) (o : Obj) : Blk (w.alloc o) g n f t := by
  unfold Blk; rw [Below.heap_alloc w o g h.lt]; exact h
theorem Blk.below {w w' : World} {g n B : Nat} {f : Nat → Value} {t : TypeId} (h : Blk w g n f t) (hb : Below B w w') (hB : g < B) : Blk w' g n f t := by
  unfold Blk; rw [hb.block g hB]; exact h
theorem Blk.down {w w' : World} {g n : Nat} {f : Nat → Value} {t : TypeId} (h : Blk w g n f t) (hb : Below w.heap.size w w') : Blk w' g n f t := h.below hb h.lt
theorem Blk.drew {w : World} {g n : Nat} {f : Nat → Value} {t : TypeId} (h : Blk w g n f t) : Blk w.drew g n f t := h
theorem Blk.ext {w : World} {g n : Nat} {f f' : Nat → Value} {t : TypeId} (h : Blk w g n f t) (he : ∀ i, i < n → f i = f' i) : Blk w g n f' t := by
  unfold Blk; rw [← cf_ext he]; exact h
theorem Blk.new (w : World) (n : Nat) (f : Nat → Value) (t : TypeId) : Blk (w.alloc (.cells (cf n f) t)) w.heap.size n f t := heap_alloc_new w _
theorem Blk.fresh (w : World) (cs : Array Value) (n : Nat) (f : Nat → Value) (t : TypeId) (h : cs = cf n f) : Blk (w.alloc (.cells cs t)) w.heap.size n f t := by subst h; exact heap_alloc_new w _
theorem Blk.ne {w : World} {g g' n n' : Nat} {f f' : Nat → Value} {t t' : TypeId} (h : Blk w g n f t) (hg' : ¬ g' < w.heap.size) (_ : Blk w g n' f' t') : g ≠ g' := fun e => by subst e; exact hg' h.lt
/-- A slice of numbers that is read. -/
def IntsOf (w : World) (v : Value) (n : Nat) (f : Nat → Int) : Prop :=
  ∃ a cap, v = .slice a n cap ∧ (0 < n → ∃ b off, a = some ⟨b, off, none⟩ ∧ b < w.heap.size ∧ ∀ i, i < n → w.cell? ⟨b, off + i, none⟩ = some (.int .i64 (f i)))
theorem IntsOf.below {w w' : World} {v : Value} {n : Nat} {f : Nat → Int} (h : IntsOf w v n f) (hb : Below w.heap.size w w') : IntsOf w' v n f := by
  obtain ⟨a, cap, hv, hr⟩ := h
  refine ⟨a, cap, hv, fun hn => ?_⟩
  obtain ⟨b, off, ha, hlt, hrow⟩ := hr hn
  exact ⟨b, off, ha, Nat.lt_of_lt_of_le hlt hb.size, fun i hi => (hb.cell (p := ⟨b, off + i, none⟩) hlt).trans (hrow i hi)⟩
theorem IntsOf.form {w : World} {v : Value} {n : Nat} {f : Nat → Int} (h : IntsOf w v n f) : ∃ a cap, v = .slice a n cap := by
  obtain ⟨a, cap, hv, _⟩ := h; exact ⟨a, cap, hv⟩
def iv (f : Nat → Int) : Nat → Value := fun i => .int .i64 (f i)
theorem Blk.ints {w : World} {g n cap : Nat} {f : Nat → Int} {t : TypeId} (h : Blk w g n (iv f) t) : IntsOf w (.slice (some ⟨g, 0, none⟩) n cap) n f :=
  ⟨_, _, rfl, fun _ => ⟨g, 0, rfl, h.lt, fun i hi => by rw [Nat.zero_add]; exact h.cell hi⟩⟩
/-- An act, and a slice of acts that is read: l names the processes and the sources. -/
structure Ac where
  proc : Int
  frm : Int
abbrev Ac.v (a : Ac) : Value := .agg #[.int .i64 a.proc, .int .i64 a.frm]
def ActsOf (w : World) (v : Value) (n : Nat) (l : Nat → Ac) : Prop :=
  ∃ a cap, v = .slice a n cap ∧ (0 < n → ∃ b off, a = some ⟨b, off, none⟩ ∧ b < w.heap.size ∧ ∀ i, i < n → w.cell? ⟨b, off + i * 2, none⟩ = some (.int .i64 (l i).proc) ∧ w.cell? ⟨b, off + i * 2 + 1, none⟩ = some (.int .i64 (l i).frm))
theorem ActsOf.below {w w' : World} {v : Value} {n : Nat} {l : Nat → Ac} (h : ActsOf w v n l) (hb : Below w.heap.size w w') : ActsOf w' v n l := by
  obtain ⟨a, cap, hv, hr⟩ := h
  refine ⟨a, cap, hv, fun hn => ?_⟩
  obtain ⟨b, off, ha, hlt, hrow⟩ := hr hn
  exact ⟨b, off, ha, Nat.lt_of_lt_of_le hlt hb.size, fun i hi => ⟨(hb.cell (p := ⟨b, off + i * 2, none⟩) hlt).trans (hrow i hi).1, (hb.cell (p := ⟨b, off + i * 2 + 1, none⟩) hlt).trans (hrow i hi).2⟩⟩
theorem ActsOf.form {w : World} {v : Value} {n : Nat} {l : Nat → Ac} (h : ActsOf w v n l) : ∃ a cap, v = .slice a n cap := by
  obtain ⟨a, cap, hv, _⟩ := h; exact ⟨a, cap, hv⟩
def av (l : Nat → Ac) : Nat → Value := fun j => if j % 2 = 0 then .int .i64 (l (j / 2)).proc else .int .i64 (l (j / 2)).frm
theorem av_even (l : Nat → Ac) (i : Nat) : av l (i * 2) = .int .i64 (l i).proc := by
  unfold av; rw [if_pos (by omega), show i * 2 / 2 = i by omega]
theorem av_odd (l : Nat → Ac) (i : Nat) : av l (i * 2 + 1) = .int .i64 (l i).frm := by
  unfold av; rw [if_neg (by omega), show (i * 2 + 1) / 2 = i by omega]
theorem Blk.acts {w : World} {g n cap m : Nat} {l : Nat → Ac} {t : TypeId} (h : Blk w g m (av l) t) (hm : m = n * 2) : ActsOf w (.slice (some ⟨g, 0, none⟩) n cap) n l := by
  subst hm
  refine ⟨_, _, rfl, fun _ => ⟨g, 0, rfl, h.lt, fun i hi => ?_⟩⟩
  rw [Nat.zero_add, ← av_even l i, ← av_odd l i]
  exact ⟨h.cell (by omega), h.cell (by omega)⟩
/-- Six numbers as one value. -/
abbrev vecV (v : Nat → Int) : Value := .agg #[.int .i64 (v 0), .int .i64 (v 1), .int .i64 (v 2), .int .i64 (v 3), .int .i64 (v 4), .int .i64 (v 5)]
theorem cf6 (v : Nat → Int) : #[(.int .i64 (v 0) : Value), .int .i64 (v 1), .int .i64 (v 2), .int .i64 (v 3), .int .i64 (v 4), .int .i64 (v 5)] = cf 6 (iv v) := rfl
theorem Blk.cell_ints {w : World} {g n : Nat} {f : Nat → Int} {t : TypeId} (h : Blk w g n (iv f) t) {i : Nat} (hi : i < n) : w.cell? ⟨g, i, none⟩ = some (.int .i64 (f i)) := h.cell hi
theorem Blk.six {w : World} {g : Nat} {v : Nat → Int} {t : TypeId} (h : Blk w g 6 (iv v) t) :
    w.cell? ⟨g, 0, none⟩ = some (.int .i64 (v 0)) ∧ w.cell? ⟨g, 1, none⟩ = some (.int .i64 (v 1)) ∧ w.cell? ⟨g, 2, none⟩ = some (.int .i64 (v 2)) ∧ w.cell? ⟨g, 3, none⟩ = some (.int .i64 (v 3)) ∧ w.cell? ⟨g, 4, none⟩ = some (.int .i64 (v 4)) ∧ w.cell? ⟨g, 5, none⟩ = some (.int .i64 (v 5)) :=
  ⟨h.cell (by omega), h.cell (by omega), h.cell (by omega), h.cell (by omega), h.cell (by omega), h.cell (by omega)⟩
theorem iv_upd (f : Nat → Int) (i : Nat) (x : Int) : upd (iv f) i (.int .i64 x) = iv (upd f i x) := by
  funext j; unfold iv upd; split <;> rfl
theorem Blk.set_int {w : World} {g n : Nat} {f : Nat → Int} {t : TypeId} (h : Blk w g n (iv f) t) (i : Nat) (x : Int) : Blk (w.setCell ⟨g, i, none⟩ (.int .i64 x)) g n (iv (upd f i x)) t := by
  rw [← iv_upd]; exact h.set i _
end M
theorem info_int : (Tryz.prog.info? 3).map (fun i => (i.zero, i.size, i.bytes)) = some (some (.int .i64 0), 1, 8) := by kernel_rfl
theorem make_ints (n : Nat) (h : n ≤ 1048576) (w : World) : (Instr.makeSlice 133 (.int .i64 (n : Int)) (.int .i64 (n : Int))).run Tryz.prog w = .ok (.slice (some ⟨w.heap.size, 0, none⟩) n n) (w.alloc (.cells (M.cf n (M.iv fun _ => 0)) 3)) := by
  obtain ⟨i, hi, hz0, hz1, hz2⟩ := info_parts info_int
  have hr := run_make (P := Tryz.prog) w 133 3 i _ Tryz.underlying133 hi hz0 .i64 .i64 (n : Int) (n : Int) (by omega) (Int.le_refl _) (by rw [hz2]; omega) (by omega)
  rw [hr, hz1]
  simp only [Int.toNat_natCast, Nat.mul_one]
  rw [← show madeCells #[(.int .i64 0 : Value)] n = M.cf n (M.iv fun _ => 0) from M.cf_made _ n]
  rfl
end Go.Proofs.YtcbkeabfnldmhaaGreatDoor

/-
  Rows of a call's own that append gathers: what they hold, what turns them and what doesn't.
-/
namespace Go.Proofs.YtcbkeabfnldmhaaGreatDoor
open Go.RowKit M
namespace M
theorem blk_below {W w : World} {b : Nat} {o : Obj} (h : W.heap[b]? = some o) (hb : Below W.heap.size W w) : w.heap[b]? = some o := by
  rw [hb.block b]
  · exact h
  · rcases Nat.lt_or_ge b W.heap.size with h' | h'
    · exact h'
    · rw [Array.getElem?_eq_none h'] at h; cases h
theorem owns_below {w w' : World} {B e size n : Nat} {v : Value} {xs : List Value} (h : w.ownsRow B e size v n xs) (hb : Below w.heap.size w w') : w'.ownsRow B e size v n xs := by
  refine ⟨h.1, ?_⟩
  rcases h.2 with h0 | ⟨g, cap, cur, hv, hB, hg, r⟩
  · exact .inl h0
  · exact .inr ⟨g, cap, cur, hv, hB, blk_below hg hb, r⟩
theorem owns_mono {w : World} {B B' e size n : Nat} {v : Value} {xs : List Value} (h : w.ownsRow B e size v n xs) (hb : B' ≤ B) : w.ownsRow B' e size v n xs := by
  refine ⟨h.1, ?_⟩
  rcases h.2 with h0 | ⟨g, cap, cur, hv, hB, r⟩
  · exact .inl h0
  · exact .inr ⟨g, cap, cur, hv, Nat.le_trans hb hB, r⟩
theorem own_form {w : World} {B e s n : Nat} {v : Value} {xs : List Value} (h : w.ownsRow B e s v n xs) : ∃ a cap, v = .slice a n cap := by
  rcases h.2 with ⟨rfl, rfl⟩ | ⟨g, cap, cur, rfl, _⟩
  · exact ⟨_, _, rfl⟩
  · exact ⟨_, _, rfl⟩
/-- The cells of a row that the call owns. -/
theorem own_cells {w : World} {B e s n : Nat} {v : Value} {xs : List Value} (h : w.ownsRow B e s v n xs) (hx : xs.length = n * s) : ∃ a cap, v = .slice a n cap ∧ (0 < n → ∃ g, a = some ⟨g, 0, none⟩ ∧ B ≤ g ∧ g < w.heap.size ∧ (∀ i u, xs[i]? = some u → w.cell? ⟨g, i, none⟩ = some u)) := by
  rcases h.2 with ⟨rfl, h0⟩ | ⟨g, cap, cur, rfl, hB, hg, hn, hc, hs, ht⟩
  · exact ⟨_, _, by rw [h0], fun hp => by omega⟩
  · refine ⟨_, cap, rfl, fun _ => ⟨g, rfl, hB, ?_, fun i u hi => ?_⟩⟩
    · rcases Nat.lt_or_ge g w.heap.size with h' | h'
      · exact h'
      · rw [Array.getElem?_eq_none h'] at hg; cases hg
    · have hil : i < xs.length := (List.getElem?_eq_some_iff.1 hi).1
      rw [← ht, List.getElem?_take_of_lt (by omega), Array.getElem?_toList] at hi
      simp [World.cell?, hg, hi]
theorem own_ints {w : World} {B e n : Nat} {v : Value} {f : Nat → Int} (h : w.ownsRow B e 1 v n ((List.range n).map (iv f))) : IntsOf w v n f := by
  obtain ⟨a, cap, hv, hr⟩ := own_cells h (by simp)
  refine ⟨a, cap, hv, fun hn => ?_⟩
  obtain ⟨g, ha, _, hlt, hc⟩ := hr hn
  exact ⟨g, 0, ha, hlt, fun i hi => by rw [Nat.zero_add]; exact hc i _ (by rw [List.getElem?_map, List.getElem?_range hi]; rfl)⟩
theorem range_snoc (f : Nat → Value) (k : Nat) : (List.range (k + 1)).map f = (List.range k).map f ++ [f k] := by rw [List.range_succ]; simp
theorem news1 (w : World) (c : Value) (t : TypeId) : ∀ (j : Nat) u, [c][j]? = some u → (w.alloc (.cells #[c] t)).cell? ((⟨w.heap.size, 0, none⟩ : Addr).add j) = some u := by
  intro j u hj
  match j, hj with
  | 0, hj => simp at hj; subst hj; simp [Addr.add]
theorem Blk.grown {w w' : World} {g n B e s m : Nat} {f : Nat → Value} {t : TypeId} {v : Value} {xs : List Value} (h : Blk w g n f t) (hown : w.ownsRow B e s v m xs) (ht : t ≠ e) (hg : w.grownBy w' v.ownBlock) : Blk w' g n f t := by
  unfold Blk
  rw [hg.block g h.lt]
  · exact h
  · rcases hown.2 with ⟨rfl, _⟩ | ⟨g', cap, cur, rfl, _, hb, _⟩
    · simp [Value.ownBlock]
    · simp only [Value.ownBlock]
      intro he
      have he' : g = g' := by simpa using he
      subst he'
      unfold Blk at h
      rw [h] at hb
      simp only [Option.some.injEq, Obj.cells.injEq] at hb
      exact ht hb.2.1
/-- A row is kept where another one grows. -/
theorem owns_other {w w' : World} {B e s n : Nat} {v : Value} {xs : List Value} {row : Option Nat} (h : w.ownsRow B e s v n xs) (hg : w.grownBy w' row) (hne : ∀ g, v.ownBlock = some g → some g ≠ row) : w'.ownsRow B e s v n xs := by
  refine ⟨h.1, ?_⟩
  rcases h.2 with h0 | ⟨g, cap, cur, hv, hB, hb, r⟩
  · exact .inl h0
  · refine .inr ⟨g, cap, cur, hv, hB, ?_, r⟩
    have hlt : g < w.heap.size := by
      rcases Nat.lt_or_ge g w.heap.size with h' | h'
      · exact h'
      · rw [Array.getElem?_eq_none h'] at hb; cases hb
    rw [hg.block g hlt (hne g (by rw [hv]; rfl))]; exact hb
/-- Rows of unlike elements lie in unlike blocks. -/
theorem owns_apart {w : World} {B e s n B' e' s' n' : Nat} {v v' : Value} {xs xs' : List Value} (h : w.ownsRow B e s v n xs) (h' : w.ownsRow B' e' s' v' n' xs') (hne : e ≠ e') : ∀ g, v.ownBlock = some g → some g ≠ v'.ownBlock := by
  intro g hg he
  rcases h.2 with ⟨rfl, _⟩ | ⟨g1, cap, cur, rfl, _, hb, _⟩
  · simp [Value.ownBlock] at hg
  · rcases h'.2 with ⟨rfl, _⟩ | ⟨g2, cap2, cur2, rfl, _, hb2, _⟩
    · simp [Value.ownBlock] at he
    · simp only [Value.ownBlock, Option.some.injEq] at hg he
      subst hg; subst he
      rw [hb] at hb2
      simp only [Option.some.injEq, Obj.cells.injEq] at hb2
      exact hne hb2.2.1
/-- Rows whose first elements are unlike lie in unlike blocks. -/
theorem owns_apart1 {w : World} {B e n B' e' n' : Nat} {v v' a a' : Value} {xs xs' : List Value} (h : w.ownsRow B e 1 v n xs) (h' : w.ownsRow B' e' 1 v' n' xs') (h0 : xs[0]? = some a) (h0' : xs'[0]? = some a') (hne : a ≠ a') : ∀ g, v.ownBlock = some g → some g ≠ v'.ownBlock := by
  intro g hg he
  rcases h.2 with ⟨rfl, _⟩ | ⟨g1, cap, cur, rfl, _, hb, _, _, _, ht⟩
  · simp [Value.ownBlock] at hg
  · rcases h'.2 with ⟨rfl, _⟩ | ⟨g2, cap2, cur2, rfl, _, hb2, _, _, _, ht2⟩
    · simp [Value.ownBlock] at he
    · simp only [Value.ownBlock, Option.some.injEq] at hg he
      subst hg; subst he
      rw [hb] at hb2
      simp only [Option.some.injEq, Obj.cells.injEq] at hb2
      obtain ⟨rfl, _⟩ := hb2
      have l1 : 0 < n := by
        have := (List.getElem?_eq_some_iff.1 h0).1
        rw [h.1] at this; omega
      have l2 : 0 < n' := by
        have := (List.getElem?_eq_some_iff.1 h0').1
        rw [h'.1] at this; omega
      rw [← ht, List.getElem?_take_of_lt (by omega)] at h0
      rw [← ht2, List.getElem?_take_of_lt (by omega)] at h0'
      rw [h0] at h0'
      exact hne (by simpa using h0')
end M
end Go.Proofs.YtcbkeabfnldmhaaGreatDoor

/-
  The law's helpers on events in memory of their own: a copy whose block is known, that an event is told alike to itself, and marks on it, whatever they are.
-/
namespace Go.Proofs.YtcbkeabfnldmhaaGreatDoor
open Go.RowKit M
open Clk (upd upd_same upd_other)
open Go.Sort (grow)
namespace M
theorem blk_of {w : World} {g : Nat} {cur : Array Value} {t : TypeId} (h : w.heap[g]? = some (.cells cur t (0, 0))) : Blk w g cur.size (fun i => cur.getD i undef) t := by
  unfold Blk
  rw [h]
  congr 2
  apply Array.ext_getElem?
  intro j
  by_cases hj : j < cur.size
  · rw [cf_get _ hj]; simp [Array.getD, hj]
  · rw [Array.getElem?_eq_none (by omega), Array.getElem?_eq_none (by rw [cf_size]; omega)]
theorem gbe_set {w w1 : World} {g o : Nat} {v : Value} (h : w.grownBy w1 (some g)) : w.grownBy (w1.setCell ⟨g, o, none⟩ v) (some g) :=
  ⟨h.os, h.tape, h.output, by rw [World.size_setCell]; exact h.size, fun k hk hne => by rw [heap_setCell_other _ _ _ _ (fun e => hne (by rw [e]))]; exact h.block k hk hne⟩
theorem gbe_below {w w1 w2 : World} {g : Nat} (h : w.grownBy w1 (some g)) (hb : Below w1.heap.size w1 w2) : w.grownBy w2 (some g) :=
  ⟨hb.os.trans h.os, hb.tape.trans h.tape, hb.output.trans h.output, Nat.le_trans h.size hb.size, fun k hk hne => by rw [hb.block k (Nat.lt_of_lt_of_le hk h.size)]; exact h.block k hk hne⟩
theorem gb_low {w w' : World} {g B : Nat} (h : w.grownBy w' (some g)) (hB : B ≤ g) (hs : B ≤ w.heap.size) : Below B w w' :=
  ⟨h.os, h.tape, h.output, h.size, fun k hk => h.block k (by omega) (fun e => by simp at e; omega)⟩
end M
theorem eq_event (I V K : Int) (N : ByteArray) (w : World) :
    Calls Tryz.prog 55 #[ev I V K N, ev I V K N] w fun e w' => e = .returned (.bool true) ∧ Below w.heap.size w w' := by
  go_enter Tryz.func55, Tryz.ntmps55
  go_wp2
  go_ret
  exact ⟨rfl, ((Below.refl _ w).alloc (Nat.le_refl _) _).alloc (by simp) _⟩
theorem eq_ev (e : Ev) (w : World) : Calls Tryz.prog 55 #[e.v, e.v] w fun e w' => e = .returned (.bool true) ∧ Below w.heap.size w w' := eq_event e.id e.ver e.kind e.name w
set_option maxHeartbeats 1000000 in
theorem to_evs (v : Value) (es : List Ev) (w : World) (hv : SliceOf w v es) (hlen : es.length ≤ 1048576) :
    Calls Tryz.prog 12 #[v] w fun e w' => (e = .returned (.slice (some ⟨w.heap.size, 0, none⟩) es.length es.length) ∧ w'.heap[w.heap.size]? = some (.cells (cellsE es).toArray 68 (0, 0))) ∧ Below w.heap.size w w' := by
  obtain ⟨a, cap, rfl, hr⟩ := hv
  by_cases he : es = []
  · subst he
    have hmk : ∀ w : World, (Instr.makeSlice 34 (.int .i64 0) (.int .i64 0)).run Tryz.prog w = .ok (.slice (some ⟨w.heap.size, 0, none⟩) 0 0) (w.alloc (.cells #[] 68)) := make_ev 0 (by omega)
    clear hr
    go_enter Tryz.func12, Tryz.ntmps12
    go_wp2
    refine wp_loop_rounds 1 ?_; rw [rounds_succ]
    go_wp2
    go_ret
    exact ⟨⟨rfl, heap_alloc_new w _⟩, (Below.refl _ _).alloc (Nat.le_refl _) _⟩
  · have hmk := make_ev es.length hlen
    obtain ⟨b, off, rfl, hlt, hrow⟩ := hr he
    clear hr
    go_enter Tryz.func12, Tryz.ntmps12
    go_wp2
    go_loopw [4] (fun i wr => ∃ k : Nat, k ≤ es.length ∧ i = .int .i64 k ∧ Hid (wr.heap[w.heap.size]? = some (.cells (cellsE (es.take k) ++ cellsE (List.replicate (es.length - k) e0)).toArray 68 (0, 0))) ∧ Below w.heap.size w wr) (fun i _ => es.length - (intOf i).toNat)
    case atStart => exact ⟨0, Nat.zero_le _, rfl, hide (heap_alloc_new w _), (Below.refl _ _).alloc (Nat.le_refl _) _⟩
    case round =>
      obtain ⟨k, hk, rfl, HB, hbw⟩ := hrel
      by_cases hlt2 : k < es.length
      · obtain ⟨e, he⟩ : ∃ e, es[k]? = some e := ⟨es[k], List.getElem?_eq_getElem hlt2⟩
        obtain ⟨c0, c1, c2, c3⟩ := (hrow k e he).below hbw hlt
        have HS := hide (cellsE_split es k e he)
        go_wp2_with fail
        refine (to_event _ _ _ _ _).mono ?_
        rintro e' w2 ⟨rfl, hb2⟩
        have hbw2 := hbw.trans (hb2.mono hbw.size)
        have hB0 := HB.out
        have hlt3 : w.heap.size < wr.heap.size := by
          rcases Nat.lt_or_ge w.heap.size wr.heap.size with h' | h'
          · exact h'
          · rw [Array.getElem?_eq_none h'] at hB0; cases hB0
        have hB2 : w2.heap[w.heap.size]? = some (.cells (cellsE (es.take k) ++ .int .i64 0 :: .int .i64 0 :: .int .i64 0 :: .string ⟨#[]⟩ :: cellsE (List.replicate (es.length - (k + 1)) e0)).toArray 68 (0, 0)) := by
          rw [hb2.block _ hlt3, hB0, show es.length - k = (es.length - (k + 1)) + 1 by omega, List.replicate_succ]
          rfl
        have hAl : k * 4 = (cellsE (es.take k)).length := by rw [cellsE_len, List.length_take]; omega
        obtain ⟨⟨f0, f1, f2, f3⟩, d0, d1, d2, d3⟩ := there4 hB2 hAl
        have HB2 := hide (store4 hB2 hAl (.int .i64 e.id) (.int .i64 e.ver) (.int .i64 e.kind) (.string e.name))
        clear hB2 hB0 hb2 c0 c1 c2 c3 HB hAl
        go_wp2
        exact ⟨⟨k + 1, by omega, by go_num, hide (by rw [HS.out, List.append_assoc]; exact HB2.out), (((hbw2.setCell (Nat.le_refl _) _).setCell (Nat.le_refl _) _).setCell (Nat.le_refl _) _).setCell (Nat.le_refl _) _⟩, by simp [intOf]; omega⟩
      · have hB := HB.out
        rw [List.take_of_length_le (by omega), show es.length - k = 0 by omega] at hB
        have HR := hide (show wr.heap[w.heap.size]? = some (.cells (cellsE es).toArray 68 (0, 0)) from by simpa [cellsE] using hB)
        clear hB HB
        go_wp2
        go_ret
        exact ⟨⟨rfl, HR.out⟩, hbw⟩
theorem convE {w w1 : World} (a : Int) (o : Obj) (ho : o = .cells #[.int .u8 a] 5) (h : Below (w.alloc o).heap.size (w.alloc o) w1) :
    (convert 49 9 (.slice (some ⟨w.heap.size, 0, none⟩) 1 1)).run Tryz.prog w1 = .ok (.string (strOfNums [a])) w1 := by
  subst ho
  refine run_convert_bytes_arg (P := Tryz.prog) w1 49 5 Tryz.underlying49 Tryz.underlying5 _ 0 1 1 [a] rfl (fun i hi => ?_) 9 Tryz.underlying9
  obtain rfl : i = 0 := by omega
  rw [h.cell (p := ⟨w.heap.size, 0 + 0, none⟩) (by simp), World.cell?_alloc_mark]; rfl
theorem dig_step {k q s : Nat} (h : 10 ^ s * q ≤ k) : 10 ^ (1 + s) * (q / 10) ≤ k := by
  have h1 : 10 * (q / 10) ≤ q := by omega
  have h2 : 10 ^ (1 + s) * (q / 10) = 10 ^ s * (10 * (q / 10)) := by rw [Nat.pow_add, Nat.pow_one, Nat.mul_comm 10 (10 ^ s), Nat.mul_assoc]
  rw [h2]
  exact Nat.le_trans (Nat.mul_le_mul_left _ h1) h
theorem dig_size {k q s : Nat} (h : 10 ^ s * q ≤ k) (hq : 1 ≤ q) (hk : k ≤ 1000000000) : s ≤ 9 := by
  rcases Nat.lt_or_ge 9 s with h1 | h1
  · have h2 : 10 ^ 10 ≤ 10 ^ s := Nat.pow_le_pow_right (by omega) h1
    have h3 : 10 ^ s * 1 ≤ 10 ^ s * q := Nat.mul_le_mul_left _ hq
    have : (10 : Nat) ^ 10 = 10000000000 := by decide
    omega
  · exact h1
set_option maxHeartbeats 1000000 in
theorem mark_any (k : Nat) (w : World) (hk : k ≤ 1000000000) :
    Calls Tryz.prog 57 #[.int .i64 (k : Int)] w fun e w' => (∃ s, e = .returned (.string s)) ∧ Below w.heap.size w w' := by
  by_cases h0 : k = 0
  · subst h0
    go_enter Tryz.func57, Tryz.ntmps57
    go_wp2
    go_ret
    exact ⟨⟨_, rfl⟩, Below.refl _ _⟩
  · have hle : ¬ ((k : Int) ≤ 0) := by omega
    have z1 := strOfNums_size
    have za := @ByteArray.size_append
    have zm : (⟨#[109]⟩ : ByteArray).size = 1 := rfl
    go_enter Tryz.func57, Tryz.ntmps57
    go_wp2
    go_loopw [0, 3] (fun x y wr => ∃ (q : Nat) (out : ByteArray), q ≤ k ∧ x = .int .i64 q ∧ y = .string out ∧ Hid (10 ^ out.size * q ≤ k) ∧ out.size ≤ 10 ∧ Below w.heap.size w wr) (fun x _ _ => (intOf x).toNat)
    case atStart => exact ⟨k, ⟨#[]⟩, Nat.le_refl _, rfl, rfl, hide (by simp [ByteArray.size]), by simp [ByteArray.size], Below.refl _ _⟩
    case round =>
      obtain ⟨q, out, hq, rfl, rfl, HM, hsz, hbw⟩ := hrel
      by_cases hq0 : 1 ≤ q
      · have hgt : (0 : Int) < (q : Int) := by omega
        have h9 := dig_size HM.out hq0 hk
        have HS := hide (dig_step HM.out)
        have hr : q % 10 < 10 := by omega
        have q2 : (q : Int) % 10 = ((q % 10 : Nat) : Int) := by omega
        have q3 : (q : Int) / 10 = ((q / 10 : Nat) : Int) := by omega
        have hlt : q / 10 < q := by omega
        generalize q % 10 = r at *
        generalize q / 10 = t at *
        have k1 : ∀ w : World, (convert 49 9 (.slice (some ⟨w.heap.size, 0, none⟩) 1 1)).run Tryz.prog (w.alloc (.cells #[.int .u8 (48 + (r : Int))] 5)) = .ok (.string (strOfNums [48 + (r : Int)])) (w.alloc (.cells #[.int .u8 (48 + (r : Int))] 5)) := fun w => convE _ _ rfl (Below.refl _ _)
        have hs1 : (strOfNums [48 + (r : Int)] ++ out).size = 1 + out.size := by rw [ByteArray.size_append, strOfNums_size]; rfl
        have HS1 := hide hs1
        clear hs1
        go_wp2
        go_roundw
        case rel => exact ⟨t, _, by omega, by go_num, rfl, hide (by rw [HS1.out]; exact HS.out), by rw [HS1.out]; omega, hbw.alloc hbw.size _⟩
        case measure => simp [intOf]; omega
      · obtain rfl : q = 0 := by omega
        go_wp2
        go_ret
        exact ⟨⟨_, rfl⟩, hbw⟩
set_option maxHeartbeats 1600000 in
theorem mark_evs (g n cap : Nat) (h : Nat → Value) (w : World) (hg : Blk w g (n * 4) h 68) (hn : n ≤ 1048576) :
    Calls Tryz.prog 17 #[.slice (some ⟨g, 0, none⟩) n cap, .int .i64 1] w fun e w' => (∃ k : Nat, e = .returned (.int .i64 (k : Int))) ∧ w.grownBy w' (some g) := by
  have HG := hide hg
  clear hg
  go_enter Tryz.func17, Tryz.ntmps17
  go_wp2
  go_loopw [1, 5] (fun x i wr => ∃ (k q : Nat) (f : Nat → Value), k ≤ n ∧ i = .int .i64 k ∧ x = .int .i64 q ∧ Hid (q = 4 * k + 1) ∧ Hid (Blk wr g (n * 4) f 68) ∧ w.grownBy wr (some g)) (fun _ i _ => n - (intOf i).toNat)
  case atStart => exact ⟨0, 1, h, Nat.zero_le _, rfl, rfl, hide rfl, HG, ⟨rfl, rfl, rfl, Nat.le_refl _, fun _ _ _ => rfl⟩⟩
  case round =>
    obtain ⟨k, q, f, hk, rfl, rfl, HQ, HB, hgb⟩ := hrel
    by_cases hlt : k < n
    · have c0 := HB.out.cell (show k * 4 < n * 4 by omega)
      have c1 := HB.out.cell (show k * 4 + 1 < n * 4 by omega)
      have c2 := HB.out.cell (show k * 4 + 2 < n * 4 by omega)
      have f0 := HB.out.thaw (k * 4)
      have f1 := HB.out.thaw (k * 4 + 1)
      have f2 := HB.out.thaw (k * 4 + 2)
      have hq1 : q ≤ 4194305 := by have := HQ.out; omega
      have HB3 := hide (((HB.out.set (k * 4) (.int .i64 (q : Int))).set (k * 4 + 1) (.int .i64 ((q : Int) + 1))).set (k * 4 + 2) (.int .i64 ((q : Int) + 1 + 1)))
      have hgb3 := gbe_set (o := k * 4 + 2) (v := .int .i64 ((q : Int) + 1 + 1)) (gbe_set (o := k * 4 + 1) (v := .int .i64 ((q : Int) + 1)) (gbe_set (o := k * 4) (v := .int .i64 (q : Int)) hgb))
      have HQ2 := hide (show q + 4 = 4 * (k + 1) + 1 by have := HQ.out; omega)
      clear HB HQ HG
      go_wp2_with fail
      rw [show ((q : Int) + 1 + 1 + 1) = ((q + 3 : Nat) : Int) by omega]
      refine (mark_any (q + 3) _ (by omega)).mono ?_
      rintro e' w4 ⟨⟨s, rfl⟩, hb4⟩
      have HB4 := hide (HB3.out.down hb4)
      have c3 := HB4.out.cell (show k * 4 + 3 < n * 4 by omega)
      have f3 := HB4.out.thaw (k * 4 + 3)
      have HB5 := hide (HB4.out.set (k * 4 + 3) (.string s))
      have hgb5 := gbe_set (o := k * 4 + 3) (v := .string s) (gbe_below hgb3 hb4)
      clear hb4 hgb3 HB3 HB4 c0 c1 c2 f0 f1 f2 hgb
      go_wp2
      exact ⟨⟨k + 1, q + 4, _, by omega, by go_num, by go_num, HQ2, HB5, hgb5⟩, by simp [intOf]; omega⟩
    · clear HB HG
      go_wp2
      go_ret
      exact ⟨⟨q, rfl⟩, hgb⟩
end Go.Proofs.YtcbkeabfnldmhaaGreatDoor

/-
  Wheels in memory: slices of timers (two numbers each), rows of them; what the law does with them, first part: how much is left, copies in new memory.
-/
import Derived.Test.YtcodllammndciaaAnsC
import Derived.Test.YtcodllammndciaaWhF
namespace Go.Proofs.Ytcodllammndciaa
open Go.RowKit M
open Clk (upd upd_same upd_other)
open Go.Sort (grow)
namespace M
/-- A row of timers: how many, and their numbers, two each. -/
structure Rw where
  n : Nat
  f : Nat → Int
abbrev sl (b n : Nat) : Value := .slice (some ⟨b, 0, none⟩) n n
/-- A slice of timers that is read. -/
def TimersOf (w : World) (v : Value) (n : Nat) (f : Nat → Int) : Prop :=
  ∃ a cap, v = .slice a n cap ∧ (0 < n → ∃ b off, a = some ⟨b, off, none⟩ ∧ b < w.heap.size ∧ ∀ q, q < n * 2 → w.cell? ⟨b, off + q, none⟩ = some (.int .i64 (f q)))
theorem TimersOf.below {w w' : World} {v : Value} {n : Nat} {f : Nat → Int} (h : TimersOf w v n f) (hb : Below w.heap.size w w') : TimersOf w' v n f := by
  obtain ⟨a, cap, hv, hr⟩ := h
  refine ⟨a, cap, hv, fun hn => ?_⟩
  obtain ⟨b, off, ha, hlt, hrow⟩ := hr hn
  exact ⟨b, off, ha, Nat.lt_of_lt_of_le hlt hb.size, fun q hq => (hb.cell (p := ⟨b, off + q, none⟩) hlt).trans (hrow q hq)⟩
theorem TimersOf.form {w : World} {v : Value} {n : Nat} {f : Nat → Int} (h : TimersOf w v n f) : ∃ a cap, v = .slice a n cap := by
  obtain ⟨a, cap, hv, _⟩ := h; exact ⟨a, cap, hv⟩
/-- A slice of such rows that is read. -/
def RowsOf (w : World) (v : Value) (k : Nat) (rs : Nat → Rw) : Prop :=
  ∃ a cap, v = .slice a k cap ∧ (0 < k → ∃ b off, a = some ⟨b, off, none⟩ ∧ b < w.heap.size ∧ ∀ i, i < k → ∃ y, w.cell? ⟨b, off + i, none⟩ = some y ∧ TimersOf w y (rs i).n (rs i).f)
theorem RowsOf.below {w w' : World} {v : Value} {k : Nat} {rs : Nat → Rw} (h : RowsOf w v k rs) (hb : Below w.heap.size w w') : RowsOf w' v k rs := by
  obtain ⟨a, cap, hv, hr⟩ := h
  refine ⟨a, cap, hv, fun hn => ?_⟩
  obtain ⟨b, off, ha, hlt, hrow⟩ := hr hn
  refine ⟨b, off, ha, Nat.lt_of_lt_of_le hlt hb.size, fun i hi => ?_⟩
  obtain ⟨y, h1, h2⟩ := hrow i hi
  exact ⟨y, (hb.cell (p := ⟨b, off + i, none⟩) hlt).trans h1, h2.below hb⟩
theorem RowsOf.form {w : World} {v : Value} {k : Nat} {rs : Nat → Rw} (h : RowsOf w v k rs) : ∃ a cap, v = .slice a k cap := by
  obtain ⟨a, cap, hv, _⟩ := h; exact ⟨a, cap, hv⟩
def Short (k : Nat) (rs : Nat → Rw) : Prop := k ≤ 1048576 ∧ ∀ i, i < k → (rs i).n ≤ 1048576
def tot (rs : Nat → Rw) : Nat → Nat
  | 0 => 0
  | i + 1 => tot rs i + (rs i).n
theorem tot_mono (rs : Nat → Rw) {i : Nat} : ∀ k, i ≤ k → tot rs i ≤ tot rs k
  | 0, h => by obtain rfl : i = 0 := by omega
               exact Nat.le_refl _
  | k + 1, h => by
    by_cases e : i = k + 1
    · subst e; exact Nat.le_refl _
    · have := tot_mono rs k (show i ≤ k by omega); simp only [tot]; omega
theorem tot_ext {rs rs' : Nat → Rw} : ∀ {k : Nat}, (∀ i, i < k → (rs i).n = (rs' i).n) → tot rs k = tot rs' k
  | 0, _ => rfl
  | k + 1, h => by simp only [tot]; rw [tot_ext (k := k) (fun i hi => h i (by omega)), h k (by omega)]
def Small (k : Nat) (rs : Nat → Rw) : Prop := k + tot rs k ≤ 1048576
theorem Small.short {k : Nat} {rs : Nat → Rw} (h : Small k rs) : Short k rs := by
  unfold Small at h
  refine ⟨by omega, fun i hi => ?_⟩
  have := tot_mono rs (i := i + 1) k hi
  simp only [tot] at this
  omega
def Lens (k : Nat) (rs : Nat → Rw) : Prop := k ≤ maxLen ∧ ∀ i, i < k → (rs i).n ≤ maxLen
/-- n timers at the head of a block of the call's own, with room behind. -/
def OwnT (w : World) (b n c : Nat) (f : Nat → Int) : Prop := n ≤ c ∧ ∃ h : Nat → Value, Blk w b (c * 2) h 40 ∧ ∀ q, q < n * 2 → h q = .int .i64 (f q)
theorem OwnT.lt {w : World} {b n c : Nat} {f : Nat → Int} (h : OwnT w b n c f) : b < w.heap.size := by
  obtain ⟨_, k, hb, _⟩ := h; exact hb.lt
theorem OwnT.down {w w' : World} {b n c : Nat} {f : Nat → Int} (h : OwnT w b n c f) (hb : Below w.heap.size w w') : OwnT w' b n c f := by
  obtain ⟨hc, k, hk, he⟩ := h
  exact ⟨hc, k, hk.down hb, he⟩
theorem OwnT.cell {w : World} {b n c : Nat} {f : Nat → Int} (h : OwnT w b n c f) {q : Nat} (hq : q < n * 2) : w.cell? ⟨b, q, none⟩ = some (.int .i64 (f q)) := by
  obtain ⟨hc, k, hb, hk⟩ := h
  rw [← hk q hq]; exact hb.cell (by omega)
theorem OwnT.thaw {w : World} {b n c : Nat} {f : Nat → Int} (h : OwnT w b n c f) (q : Nat) : w.frozen? ⟨b, q, none⟩ = false := by
  obtain ⟨hc, k, hb, hk⟩ := h; exact hb.thaw q
theorem OwnT.set {w : World} {b n c : Nat} {f : Nat → Int} (h : OwnT w b n c f) (q : Nat) (x : Int) : OwnT (w.setCell ⟨b, q, none⟩ (.int .i64 x)) b n c (upd f q x) := by
  obtain ⟨hc, k, hk, he⟩ := h
  refine ⟨hc, _, hk.set q _, fun j hj => ?_⟩
  by_cases e : j = q
  · subst e; rw [upd_same, upd_same]
  · rw [upd_other _ _ _ _ e, upd_other _ _ _ _ e]; exact he j hj
theorem OwnT.set_other {w : World} {b n c : Nat} {f : Nat → Int} (h : OwnT w b n c f) {g : Nat} (hne : b ≠ g) (q : Nat) (v : Value) : OwnT (w.setCell ⟨g, q, none⟩ v) b n c f := by
  obtain ⟨hc, k, hk, he⟩ := h
  exact ⟨hc, k, hk.set_other hne q v, he⟩
theorem OwnT.only {w w' : World} {g b n c : Nat} {f : Nat → Int} (h : OwnT w b n c f) (ho : Only g w w') (hne : b ≠ g) : OwnT w' b n c f := by
  obtain ⟨hc, k, hk, he⟩ := h
  exact ⟨hc, k, ho.blk hk hne, he⟩
theorem OwnT.ext {w : World} {b n c : Nat} {f f' : Nat → Int} (h : OwnT w b n c f) (he : ∀ q, q < n * 2 → f q = f' q) : OwnT w b n c f' := by
  obtain ⟨hc, k, hk, hq⟩ := h
  exact ⟨hc, k, hk, fun q h => by rw [hq q h, he q h]⟩
theorem OwnT.timers {w : World} {b n c : Nat} {f : Nat → Int} (h : OwnT w b n c f) : TimersOf w (.slice (some ⟨b, 0, none⟩) n c) n f :=
  ⟨_, _, rfl, fun _ => ⟨b, 0, rfl, h.lt, fun q hq => by rw [Nat.zero_add]; exact h.cell hq⟩⟩
theorem Blk.ownT {w : World} {b n : Nat} {f : Nat → Int} (h : Blk w b (n * 2) (iv f) 40) : OwnT w b n n f := ⟨Nat.le_refl _, _, h, fun _ _ => rfl⟩
/-- Rows that the call owns: a block g with k headers, the timers of row i in block β i, apart from all others. -/
structure AW (t : TypeId) (w : World) (B g cap k : Nat) (rs : Nat → Rw) (β : Nat → Nat) (X : Nat → Value) : Prop where
  ge : B ≤ g
  le : k ≤ cap
  blk : Blk w g cap X t
  row : ∀ i, i < k → ∃ a c, X i = .slice a (rs i).n c ∧ (0 < (rs i).n → a = some ⟨β i, 0, none⟩ ∧ B ≤ β i ∧ OwnT w (β i) (rs i).n c (rs i).f)
  apart : ∀ i j, i < j → j < k → 0 < (rs i).n → 0 < (rs j).n → β i ≠ β j
theorem AW.ne {t : TypeId} {w : World} {B g cap k : Nat} {rs : Nat → Rw} {β : Nat → Nat} {X : Nat → Value} (h : AW t w B g cap k rs β X) (ht : t ≠ 40) {i : Nat} (hi : i < k) (hn : 0 < (rs i).n) : β i ≠ g := by
  obtain ⟨a, c, _, hr⟩ := h.row i hi
  obtain ⟨_, _, _, k', hb, _⟩ := hr hn
  intro e
  have h1 := h.blk
  unfold Blk at h1 hb
  rw [e, h1] at hb
  simp only [Option.some.injEq, Obj.cells.injEq] at hb
  exact ht hb.2.1
theorem AW.down {t : TypeId} {w w' : World} {B g cap k : Nat} {rs : Nat → Rw} {β : Nat → Nat} {X : Nat → Value} (h : AW t w B g cap k rs β X) (hb : Below w.heap.size w w') : AW t w' B g cap k rs β X := by
  refine ⟨h.ge, h.le, h.blk.down hb, fun i hi => ?_, h.apart⟩
  obtain ⟨a, c, h1, h2⟩ := h.row i hi
  exact ⟨a, c, h1, fun hn => ⟨(h2 hn).1, (h2 hn).2.1, (h2 hn).2.2.down hb⟩⟩
theorem AW.mono {t : TypeId} {w : World} {B B' g cap k : Nat} {rs : Nat → Rw} {β : Nat → Nat} {X : Nat → Value} (h : AW t w B g cap k rs β X) (hB : B' ≤ B) : AW t w B' g cap k rs β X := by
  refine ⟨Nat.le_trans hB h.ge, h.le, h.blk, fun i hi => ?_, h.apart⟩
  obtain ⟨a, c, h1, h2⟩ := h.row i hi
  exact ⟨a, c, h1, fun hn => ⟨(h2 hn).1, Nat.le_trans hB (h2 hn).2.1, (h2 hn).2.2⟩⟩
theorem AW.rows {t : TypeId} {w : World} {B g cap cap' k : Nat} {rs : Nat → Rw} {β : Nat → Nat} {X : Nat → Value} (h : AW t w B g cap k rs β X) : RowsOf w (.slice (some ⟨g, 0, none⟩) k cap') k rs := by
  refine ⟨_, _, rfl, fun _ => ⟨g, 0, rfl, h.blk.lt, fun i hi => ?_⟩⟩
  obtain ⟨a, c, h1, h2⟩ := h.row i hi
  refine ⟨X i, by rw [Nat.zero_add]; exact h.blk.cell (by have := h.le; omega), ?_⟩
  rw [h1]
  by_cases hn : 0 < (rs i).n
  · obtain ⟨ha, _, ho⟩ := h2 hn
    rw [ha]; exact ho.timers
  · exact ⟨_, _, rfl, fun h => absurd h hn⟩
/-- Another row in the place of row j, in a block that is no other row's. -/
theorem AW.put {t : TypeId} {w : World} {B g cap k : Nat} {rs : Nat → Rw} {β : Nat → Nat} {X : Nat → Value} (h : AW t w B g cap k rs β X) (ht : t ≠ 40) (j : Nat) (a : Option Addr) (r : Rw) (c b : Nat)
    (ho : 0 < r.n → a = some ⟨b, 0, none⟩ ∧ B ≤ b ∧ OwnT w b r.n c r.f) (hne : 0 < r.n → ∀ i, i < k → i ≠ j → 0 < (rs i).n → β i ≠ b) :
    AW t (w.setCell ⟨g, j, none⟩ (.slice a r.n c)) B g cap k (upd rs j r) (upd β j b) (upd X j (.slice a r.n c)) := by
  refine ⟨h.ge, h.le, h.blk.set _ _, fun i hi => ?_, fun i i' hii hi' hn hn' => ?_⟩
  · by_cases e : i = j
    · subst e
      rw [upd_same, upd_same, upd_same]
      refine ⟨a, c, rfl, fun hn => ?_⟩
      obtain ⟨h1, h2, h3⟩ := ho hn
      refine ⟨h1, h2, h3.set_other ?_ _ _⟩
      obtain ⟨_, k', hb, _⟩ := h3
      intro e
      have h1 := h.blk
      unfold Blk at h1 hb
      rw [e, h1] at hb
      simp only [Option.some.injEq, Obj.cells.injEq] at hb
      exact ht hb.2.1
    · rw [upd_other _ _ _ _ e, upd_other _ _ _ _ e, upd_other _ _ _ _ e]
      obtain ⟨a', c', h1, h2⟩ := h.row i hi
      exact ⟨a', c', h1, fun hn => ⟨(h2 hn).1, (h2 hn).2.1, (h2 hn).2.2.set_other (h.ne ht hi hn) _ _⟩⟩
  · by_cases e : i = j
    · subst e
      have e' : i' ≠ i := by omega
      rw [upd_same] at hn
      rw [upd_other _ _ _ _ e'] at hn'
      rw [upd_same, upd_other _ _ _ _ e']
      exact (hne hn i' hi' e' hn').symm
    · rw [upd_other _ _ _ _ e] at hn
      by_cases e' : i' = j
      · subst e'
        rw [upd_same] at hn'
        rw [upd_same, upd_other _ _ _ _ e]
        exact hne hn' i (by omega) e hn
      · rw [upd_other _ _ _ _ e'] at hn'
        rw [upd_other _ _ _ _ e, upd_other _ _ _ _ e']
        exact h.apart i i' hii hi' hn hn'
theorem AW.ext {t : TypeId} {w : World} {B g cap k : Nat} {rs rs' : Nat → Rw} {β : Nat → Nat} {X : Nat → Value} (h : AW t w B g cap k rs β X) (he : ∀ i, i < k → rs i = rs' i) : AW t w B g cap k rs' β X := by
  refine ⟨h.ge, h.le, h.blk, fun i hi => ?_, fun i j hij hj h1 h2 => ?_⟩
  · rw [← he i hi]; exact h.row i hi
  · rw [← he i (by omega)] at h1; rw [← he j hj] at h2; exact h.apart i j hij hj h1 h2
/-- Rows as an answer: nil, or rows in memory of their own. -/
def AnsW (w : World) (B : Nat) (v : Value) (k : Nat) (rs : Nat → Rw) : Prop :=
  (v = .slice none 0 0 ∧ k = 0) ∨ ∃ g cap cap' β X, v = .slice (some ⟨g, 0, none⟩) k cap' ∧ AW 52 w B g cap k rs β X
theorem AnsW.rows {w : World} {B k : Nat} {v : Value} {rs : Nat → Rw} (h : AnsW w B v k rs) : RowsOf w v k rs := by
  rcases h with ⟨rfl, rfl⟩ | ⟨g, cap, cap', β, X, rfl, h⟩
  · exact ⟨_, _, rfl, fun h => absurd h (Nat.lt_irrefl _)⟩
  · exact h.rows
theorem AnsW.down {w w' : World} {B k : Nat} {v : Value} {rs : Nat → Rw} (h : AnsW w B v k rs) (hb : Below w.heap.size w w') : AnsW w' B v k rs := by
  rcases h with h | ⟨g, cap, cap', β, X, hv, h⟩
  · exact .inl h
  · exact .inr ⟨g, cap, cap', β, X, hv, h.down hb⟩
theorem AnsW.mono {w : World} {B B' k : Nat} {v : Value} {rs : Nat → Rw} (h : AnsW w B v k rs) (hB : B' ≤ B) : AnsW w B' v k rs := by
  rcases h with h | ⟨g, cap, cap', β, X, hv, h⟩
  · exact .inl h
  · exact .inr ⟨g, cap, cap', β, X, hv, h.mono hB⟩
theorem madeR (n : Nat) : madeCells #[(.slice none 0 0 : Value)] n = cf n (fun _ => .slice none 0 0) := cf_made _ n
theorem madeTm (n : Nat) : madeCells #[(.int .i64 0 : Value), .int .i64 0] (n * 2) = cf (n * 2) (iv fun _ => 0) := by
  apply Array.ext_getElem?
  intro j
  by_cases hj : j < n * 2
  · rw [cf_get _ hj]
    have h1 : (madeCells #[(.int .i64 0 : Value), .int .i64 0] (n * 2))[j]? = some (#[(.int .i64 0 : Value), .int .i64 0][j % 2]!) := by simp [madeCells, hj]
    rw [h1]
    unfold iv
    rcases (show j % 2 = 0 ∨ j % 2 = 1 by omega) with h | h
    · rw [h]; rfl
    · rw [h]; rfl
  · rw [Array.getElem?_eq_none (by rw [size_madeCells]; omega), Array.getElem?_eq_none (by rw [cf_size]; omega)]
def noRow : Rw := ⟨0, fun _ => 0⟩
/-- The first j rows. -/
def cut (rs : Nat → Rw) (j : Nat) : Nat → Rw := fun i => if i < j then rs i else noRow
theorem cut_succ (rs : Nat → Rw) (j : Nat) : upd (cut rs j) j (rs j) = cut rs (j + 1) := by
  funext i
  unfold upd cut
  by_cases h : i = j
  · subst h; simp
  · rw [if_neg h]
    by_cases h2 : i < j
    · rw [if_pos h2, if_pos (by omega)]
    · rw [if_neg h2, if_neg (by omega)]
theorem cut_full (rs : Nat → Rw) {k i : Nat} (h : i < k) : cut rs k i = rs i := by unfold cut; rw [if_pos h]
theorem aw_new (t : TypeId) (w : World) (k : Nat) (rs : Nat → Rw) : AW t (w.alloc (.cells (cf k (fun _ => .slice none 0 0)) t)) w.heap.size w.heap.size k k (cut rs 0) (fun _ => 0) (fun _ => .slice none 0 0) := by
  refine ⟨Nat.le_refl _, Nat.le_refl _, Blk.new w k _ _, fun i hi => ⟨none, 0, ?_, fun h => ?_⟩, fun i j _ _ h => ?_⟩
  · unfold cut noRow; rw [if_neg (by omega)]
  · unfold cut noRow at h; rw [if_neg (by omega)] at h; exact absurd h (Nat.lt_irrefl _)
  · unfold cut noRow at h; rw [if_neg (by omega)] at h; exact absurd h (Nat.lt_irrefl _)
theorem iv_two {f g : Nat → Int} {j : Nat} (h : ∀ q, q < j * 2 → g q = f q) : ∀ q, q < (j + 1) * 2 → upd (upd g (j * 2) (f (j * 2))) (j * 2 + 1) (f (j * 2 + 1)) q = f q := fun q hq => by
  unfold upd
  split
  · rename_i e; rw [e]
  · split
    · rename_i e; rw [e]
    · exact h q (by omega)
end M
theorem info_timer : (Try.prog.info? 40).map (fun i => (i.zero, i.size, i.bytes)) = some (some (.agg #[.int .i64 0, .int .i64 0]), 2, 16) := by kernel_rfl
theorem info_timers : (Try.prog.info? 52).map (fun i => (i.zero, i.size, i.bytes)) = some (some (.slice none 0 0), 1, 24) := by kernel_rfl
theorem make_timers (n : Nat) (h : n ≤ 1048576) (w : World) : (Instr.makeSlice 52 (.int .i64 (n : Int)) (.int .i64 (n : Int))).run Try.prog w = .ok (.slice (some ⟨w.heap.size, 0, none⟩) n n) (w.alloc (.cells (cf (n * 2) (iv fun _ => 0)) 40)) := by
  obtain ⟨i, hi, hz0, hz1, hz2⟩ := info_parts info_timer
  have hr := run_make (P := Try.prog) w 52 40 i _ Try.underlying52 hi hz0 .i64 .i64 (n : Int) (n : Int) (by omega) (Int.le_refl _) (by rw [hz2]; omega) (by omega)
  rw [hr, hz1]
  simp only [Int.toNat_natCast]
  rw [← madeTm]
  rfl
theorem make_rows (n : Nat) (h : n ≤ 1048576) (w : World) : (Instr.makeSlice 22 (.int .i64 (n : Int)) (.int .i64 (n : Int))).run Try.prog w = .ok (.slice (some ⟨w.heap.size, 0, none⟩) n n) (w.alloc (.cells (cf n (fun _ => .slice none 0 0)) 52)) := by
  obtain ⟨i, hi, hz0, hz1, hz2⟩ := info_parts info_timers
  have hr := run_make (P := Try.prog) w 22 52 i _ Try.underlying22 hi hz0 .i64 .i64 (n : Int) (n : Int) (by omega) (Int.le_refl _) (by rw [hz2]; omega) (by omega)
  rw [hr, hz1]
  simp only [Int.toNat_natCast, Nat.mul_one]
  rw [← madeR]
  rfl
theorem sz_timers (a : Option Addr) (n cap : Nat) (left : Int) (w : World) (hn : n ≤ maxLen) (h0 : 0 ≤ left) (h1 : left ≤ 1048576) :
    Calls Try.prog 72 #[.slice a n cap, .int .i64 left] w fun e w' => (∃ r : Int, e = .returned (.int .i64 r) ∧ ((r = -1) ∨ (r = left - n ∧ 0 ≤ r))) ∧ w' = w := by
  unfold maxLen at hn
  by_cases h : left - (n : Int) < 0
  · go_enter Try.func72, Try.ntmps72
    go_wp2
    go_ret
    exact ⟨⟨_, rfl, .inl rfl⟩, rfl⟩
  · go_enter Try.func72, Try.ntmps72
    go_wp2
    go_ret
    exact ⟨⟨_, rfl, .inr ⟨rfl, by omega⟩⟩, rfl⟩
set_option maxHeartbeats 2000000 in
theorem sz_rows (v : Value) (k : Nat) (rs : Nat → Rw) (w : World) (hv : RowsOf w v k rs) (hl : Lens k rs) :
    Calls Try.prog 42 #[v, .int .i64 1048576] w fun e w' => (∃ r : Int, e = .returned (.int .i64 r) ∧ ((r = -1) ∨ (0 ≤ r ∧ Small k rs))) ∧ w' = w := by
  obtain ⟨a, cap, rfl, hr⟩ := hv
  have HR := hide hr
  have HL := hide hl.2
  have hk := hl.1
  unfold maxLen at hk
  clear hr hl
  by_cases hs : 1048576 - (k : Int) < 0
  · clear HR HL
    go_enter Try.func42, Try.ntmps42
    go_wp2
    go_ret
    exact ⟨⟨_, rfl, .inl rfl⟩, rfl⟩
  · go_enter Try.func42, Try.ntmps42
    go_wp2
    go_loop [1, 5] (fun x i => ∃ (j : Nat) (r : Int), j ≤ k ∧ i = .int .i64 j ∧ x = .int .i64 r ∧ Hid (r = 1048576 - (k : Int) - (tot rs j : Nat)) ∧ 0 ≤ r ∧ r ≤ 1048576) (fun _ i => k - (intOf i).toNat)
    case atStart => exact ⟨0, _, Nat.zero_le _, rfl, rfl, hide (by simp [tot]), by omega, by omega⟩
    case round =>
      obtain ⟨j, r, hj, rfl, rfl, HT, hr0, hr1⟩ := hrel
      by_cases hlt : j < k
      · obtain ⟨b, off, rfl, hb, hrow⟩ := HR.out (by omega)
        obtain ⟨y, q1, q2⟩ := hrow j hlt
        obtain ⟨a1, c1, rfl⟩ := q2.form
        have HLj := hide (HL.out j hlt)
        clear hrow HR q2 HL
        go_wp2_with fail
        refine (sz_timers _ _ _ _ _ HLj.out hr0 hr1).mono ?_
        rintro e w1 ⟨⟨r', rfl, hr'⟩, rfl⟩
        rcases hr' with hr' | ⟨hr', hr2⟩
        · have hrn : r' < 0 := by omega
          clear hr' HT
          go_wp2
          go_ret
          exact ⟨⟨_, rfl, .inl rfl⟩, rfl⟩
        · have hrn : ¬ r' < 0 := by omega
          have HT2 := hide (show r' = 1048576 - (k : Int) - (tot rs (j + 1) : Nat) by rw [hr', HT.out]; simp only [tot]; omega)
          have hr3 : r' ≤ 1048576 := by omega
          clear hr' HT q1
          go_wp2
          go_round
          case rel => exact ⟨j + 1, r', by omega, by go_num, rfl, HT2, hr2, hr3⟩
          case measure => simp [intOf]; omega
      · obtain rfl : j = k := by omega
        have hS : Small j rs := by have := HT.out; unfold Small; omega
        have HS := hide hS
        clear HR HL HT hS
        go_wp2
        go_ret
        exact ⟨⟨_, rfl, .inr ⟨hr0, HS.out⟩⟩, rfl⟩
set_option maxHeartbeats 1000000 in
theorem sz_wheel (x : Int) (v : Value) (k : Nat) (rs : Nat → Rw) (w : World) (hv : RowsOf w v k rs) (hl : Lens k rs) :
    Calls Try.prog 16 #[.agg #[.int .i64 x, v], .int .i64 1048576] w fun e w' => (∃ r : Int, e = .returned (.int .i64 r) ∧ ((r < 0) ∨ (0 ≤ r ∧ Small k rs))) ∧ Below w.heap.size w w' := by
  have hbA := (Below.refl w.heap.size w).alloc (Nat.le_refl _) (.cells #[.int .i64 x, v] 31)
  have HV := hide (hv.below hbA)
  have HL := hide hl
  obtain ⟨a, cap, rfl⟩ := hv.form
  clear hv hl
  go_enter Try.func16, Try.ntmps16
  go_wp2_with fail
  refine (sz_rows _ k rs _ HV.out HL.out).mono ?_
  rintro e w1 ⟨⟨r, rfl, hr⟩, rfl⟩
  rcases hr with rfl | ⟨hr, hs⟩
  · clear HV HL
    go_wp2
    go_ret
    exact ⟨⟨_, rfl, .inl (by omega)⟩, hbA⟩
  · have hrn : ¬ r < 0 := by omega
    have HS := hide hs
    clear HV HL hs
    go_wp2
    go_ret
    exact ⟨⟨_, rfl, .inr ⟨hr, HS.out⟩⟩, hbA⟩
set_option maxHeartbeats 2000000 in
theorem to_timer (x y : Int) (w : World) :
    Calls Try.prog 21 #[.agg #[.int .i64 x, .int .i64 y]] w fun e w' => e = .returned (.agg #[.int .i64 x, .int .i64 y]) ∧ Below w.heap.size w w' := by
  have hbA := (((Below.refl w.heap.size w).alloc (Nat.le_refl _) (.cells #[.int .i64 x, .int .i64 y] 37)).alloc (by simp) (.cells #[.int .i64 x, .int .i64 y] 40)).alloc (by simp; omega) (.cells #[.int .i64 x, .int .i64 y] 40)
  go_enter Try.func21, Try.ntmps21
  go_wp2
  exact bodyPost_ret (v := .agg #[.int .i64 x, .int .i64 y]) (by simp [results, Try.results21, go_sem]) rfl ⟨rfl, hbA⟩
set_option maxHeartbeats 2000000 in
theorem to_timers (v : Value) (n : Nat) (f : Nat → Int) (w : World) (hv : TimersOf w v n f) (hn : n ≤ 1048576) :
    Calls Try.prog 73 #[v] w fun e w' => (e = .returned (sl w.heap.size n) ∧ Blk w' w.heap.size (n * 2) (iv f) 40) ∧ Below w.heap.size w w' := by
  obtain ⟨a, cap, rfl, hr⟩ := hv
  have HR := hide hr
  clear hr
  have hmk := make_timers n hn
  go_enter Try.func73, Try.ntmps73
  go_wp2
  go_loopw [4] (fun i wr => ∃ (j : Nat) (g : Nat → Int), j ≤ n ∧ i = .int .i64 j ∧ Hid (Blk wr w.heap.size (n * 2) (iv g) 40 ∧ (∀ q, q < j * 2 → g q = f q)) ∧ Below w.heap.size w wr) (fun i _ => n - (intOf i).toNat)
  case atStart => exact ⟨0, _, Nat.zero_le _, rfl, hide ⟨Blk.new w (n * 2) _ _, fun q h => absurd h (by omega)⟩, (Below.refl _ _).alloc (Nat.le_refl _) _⟩
  case round =>
    obtain ⟨j, g, hj, rfl, HA, hbw⟩ := hrel
    by_cases hlt : j < n
    · obtain ⟨b, off, rfl, hb, hrow⟩ := HR.out (by omega)
      have c0 := (hbw.cell (p := ⟨b, off + j * 2, none⟩) hb).trans (hrow (j * 2) (by omega))
      have c1 := (hbw.cell (p := ⟨b, off + (j * 2 + 1), none⟩) hb).trans (hrow (j * 2 + 1) (by omega))
      simp only [← Nat.add_assoc] at c1
      clear hrow HR
      have hA0 := HA.out.1.lt
      go_wp2_with fail
      refine (to_timer _ _ _).mono ?_
      rintro e w1 ⟨rfl, hb1⟩
      have hbw1 := hbw.trans (hb1.mono hbw.size)
      have hA1 := HA.out.1.down hb1
      have d0 := hA1.cell_ints (show j * 2 < n * 2 by omega)
      have d1 := hA1.cell_ints (show j * 2 + 1 < n * 2 by omega)
      have f0 := hA1.thaw (j * 2)
      have f1 := hA1.thaw (j * 2 + 1)
      have HA2 := hide (show Blk ((w1.setCell ⟨w.heap.size, j * 2, none⟩ (.int .i64 (f (j * 2)))).setCell ⟨w.heap.size, j * 2 + 1, none⟩ (.int .i64 (f (j * 2 + 1)))) w.heap.size (n * 2) (iv (upd (upd g (j * 2) (f (j * 2))) (j * 2 + 1) (f (j * 2 + 1)))) 40 ∧ _ from ⟨(hA1.set_int _ _).set_int _ _, iv_two HA.out.2⟩)
      have hbw2 := (hbw1.setCell (p := ⟨w.heap.size, j * 2, none⟩) (Nat.le_refl _) (.int .i64 (f (j * 2)))).setCell (p := ⟨w.heap.size, j * 2 + 1, none⟩) (Nat.le_refl _) (.int .i64 (f (j * 2 + 1)))
      clear HA hA1 hb1 c0 c1
      go_wp2
      exact ⟨⟨j + 1, _, by omega, by go_num, HA2, hbw2⟩, by simp [intOf]; omega⟩
    · obtain rfl : j = n := by omega
      have HB := hide (HA.out.1.ext (f' := iv f) (fun i hi => by unfold iv; rw [HA.out.2 i hi]))
      clear HR HA
      go_wp2
      go_ret
      exact ⟨⟨rfl, HB.out⟩, hbw⟩
set_option maxHeartbeats 2000000 in
theorem to_rows (v : Value) (k : Nat) (rs : Nat → Rw) (w : World) (hv : RowsOf w v k rs) (hs : Short k rs) :
    Calls Try.prog 48 #[v] w fun e w' => (e = .returned (sl w.heap.size k) ∧ ∃ β X, AW 52 w' w.heap.size w.heap.size k k rs β X) ∧ Below w.heap.size w w' := by
  obtain ⟨a, cap, rfl, hr⟩ := hv
  have HR := hide hr
  have HS := hide hs.2
  have hk := hs.1
  clear hr hs
  have hmk := make_rows k hk
  go_enter Try.func48, Try.ntmps48
  go_wp2
  go_loopw [4] (fun i wr => ∃ (j : Nat) (β : Nat → Nat) (X : Nat → Value), j ≤ k ∧ i = .int .i64 j ∧ Hid (AW 52 wr w.heap.size w.heap.size k k (cut rs j) β X) ∧ Below w.heap.size w wr) (fun i _ => k - (intOf i).toNat)
  case atStart => exact ⟨0, _, _, Nat.zero_le _, rfl, hide (aw_new _ w k rs), (Below.refl _ _).alloc (Nat.le_refl _) _⟩
  case round =>
    obtain ⟨j, β, X, hj, rfl, HA, hbw⟩ := hrel
    by_cases hlt : j < k
    · obtain ⟨b, off, rfl, hb, hrow⟩ := HR.out (by omega)
      obtain ⟨y, q1, i1⟩ := hrow j hlt
      have c0 := (hbw.cell (p := ⟨b, off + j, none⟩) hb).trans q1
      have I1 := hide (i1.below hbw)
      have HSj := hide (HS.out j hlt)
      obtain ⟨a1, c1, rfl⟩ := i1.form
      clear hrow HR q1 i1
      have hA0 := HA.out.blk.lt
      go_wp2_with fail
      refine (to_timers _ (rs j).n (rs j).f _ I1.out HSj.out).mono ?_
      rintro e w1 ⟨⟨rfl, hB1⟩, hb1⟩
      have hbw1 := hbw.trans (hb1.mono hbw.size)
      have hA1 := HA.out.down hb1
      obtain ⟨a', c', hx, -⟩ := hA1.row j hlt
      have d0 := hA1.blk.cell hlt
      rw [hx] at d0
      have f0 := hA1.blk.thaw j
      have hp := hA1.put (by decide) j (some ⟨wr.heap.size, 0, none⟩) (rs j) (rs j).n wr.heap.size (fun _ => ⟨rfl, hbw.size, hB1.ownT⟩) (fun _ i hi hne hn e => by
        obtain ⟨_, _, _, h2⟩ := HA.out.row i hi
        have := (h2 hn).2.2.lt
        omega)
      rw [cut_succ] at hp
      have HA2 := hide hp
      have hbw2 := hbw1.setCell (p := ⟨w.heap.size, j, none⟩) (Nat.le_refl _) (sl wr.heap.size (rs j).n)
      clear HA hA1 hb1 c0 I1 hB1 HSj hp hx
      go_wp2
      exact ⟨⟨j + 1, _, _, by omega, by go_num, HA2, hbw2⟩, by simp [intOf]; omega⟩
    · obtain rfl : j = k := by omega
      have HB := hide (HA.out.ext (rs' := rs) (fun i hi => cut_full rs hi))
      clear HR HS HA
      go_wp2
      go_ret
      exact ⟨⟨rfl, _, _, HB.out⟩, hbw⟩
end Go.Proofs.Ytcodllammndciaa

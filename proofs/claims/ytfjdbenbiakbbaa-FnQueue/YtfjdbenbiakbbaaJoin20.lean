/-
  Texts that follow one another, joined: QuF, BlL.
-/
import Derived.Test.YtfjdbenbiakbbaaJoin9
import Derived.Test.YtfjdbenbiakbbaaJoin4
import Derived.Lib.QuietBelow
import Derived.BigQuiet
import Derived.Maps.AppendAt
import Derived.Lib.AppendZeros
import Derived.Lib.AppendZerosOnto
import Derived.Laws.AppendOwnNone
import Derived.Laws.NewBlocks
import Derived.Deep.RegionLaw
import Derived.Deep.AppendLies
/-
  Slices of bools in memory, and what the law does with them: two that are told alike, marks that are written and found again.
-/
namespace Go.Proofs.Ytfjdbenbiakbbaa
open Go.RowKit M
open Clk (upd upd_same upd_other)
namespace M
def BoolsOf (w : World) (v : Value) (n : Nat) (f : Nat → Bool) : Prop :=
  ∃ a cap, v = .slice a n cap ∧ (0 < n → ∃ b off, a = some ⟨b, off, none⟩ ∧ b < w.heap.size ∧ ∀ i, i < n → w.cell? ⟨b, off + i, none⟩ = some (.bool (f i)))
theorem BoolsOf.below {w w' : World} {v : Value} {n : Nat} {f : Nat → Bool} (h : BoolsOf w v n f) (hb : Below w.heap.size w w') : BoolsOf w' v n f := by
  obtain ⟨a, cap, hv, hr⟩ := h
  refine ⟨a, cap, hv, fun hn => ?_⟩
  obtain ⟨b, off, ha, hlt, hrow⟩ := hr hn
  exact ⟨b, off, ha, Nat.lt_of_lt_of_le hlt hb.size, fun i hi => (hb.cell (p := ⟨b, off + i, none⟩) hlt).trans (hrow i hi)⟩
theorem BoolsOf.form {w : World} {v : Value} {n : Nat} {f : Nat → Bool} (h : BoolsOf w v n f) : ∃ a cap, v = .slice a n cap := by
  obtain ⟨a, cap, hv, _⟩ := h; exact ⟨a, cap, hv⟩
def bv (f : Nat → Bool) : Nat → Value := fun i => .bool (f i)
theorem Blk.bools {w : World} {g n cap : Nat} {f : Nat → Bool} {t : TypeId} (h : Blk w g n (bv f) t) : BoolsOf w (.slice (some ⟨g, 0, none⟩) n cap) n f :=
  ⟨_, _, rfl, fun _ => ⟨g, 0, rfl, h.lt, fun i hi => by rw [Nat.zero_add]; exact h.cell hi⟩⟩
theorem bv_upd (f : Nat → Bool) (i : Nat) (x : Bool) : upd (bv f) i (.bool x) = bv (upd f i x) := by
  funext j; unfold bv upd; split <;> rfl
theorem Blk.set_bool {w : World} {g n : Nat} {f : Nat → Bool} {t : TypeId} (h : Blk w g n (bv f) t) (i : Nat) (x : Bool) : Blk (w.setCell ⟨g, i, none⟩ (.bool x)) g n (bv (upd f i x)) t := by
  rw [← bv_upd]; exact h.set i _
theorem Blk.cell_bool {w : World} {g n : Nat} {f : Nat → Bool} {t : TypeId} (h : Blk w g n (bv f) t) {i : Nat} (hi : i < n) : w.cell? ⟨g, i, none⟩ = some (.bool (f i)) := h.cell hi
def cpb (z f : Nat → Bool) (k : Nat) : Nat → Bool := fun i => if i < k then f i else z i
theorem cpb_zero (z f : Nat → Bool) : cpb z f 0 = z := by funext q; simp [cpb]
theorem cpb_succ (z f : Nat → Bool) (k : Nat) : upd (cpb z f k) k (f k) = cpb z f (k + 1) := by
  funext q; unfold upd cpb
  by_cases h : q = k
  · subst h; simp
  · rw [if_neg h]
    by_cases h2 : q < k
    · rw [if_pos h2, if_pos (by omega)]
    · rw [if_neg h2, if_neg (by omega)]
/-- Bools in memory of the call's own, at block B or behind it. -/
def AnsB (w : World) (B : Nat) (r : Value) (n : Nat) (f : Nat → Bool) : Prop :=
  (r = .slice none 0 0 ∧ n = 0) ∨ ∃ b cap, r = .slice (some ⟨b, 0, none⟩) n cap ∧ B ≤ b ∧ Blk w b n (bv f) 4
theorem AnsB.bools {w : World} {B n : Nat} {r : Value} {f : Nat → Bool} (h : AnsB w B r n f) : BoolsOf w r n f := by
  rcases h with ⟨rfl, rfl⟩ | ⟨b, cap, rfl, _, hb⟩
  · exact ⟨none, 0, rfl, fun h => absurd h (Nat.lt_irrefl _)⟩
  · exact hb.bools
theorem AnsB.form {w : World} {B n : Nat} {r : Value} {f : Nat → Bool} (h : AnsB w B r n f) : ∃ a cap, r = .slice a n cap := h.bools.form
theorem AnsB.below {w w' : World} {B n : Nat} {r : Value} {f : Nat → Bool} (h : AnsB w B r n f) (hb : Below w.heap.size w w') : AnsB w' B r n f := by
  rcases h with h | ⟨b, cap, hr, hB, hk⟩
  · exact .inl h
  · exact .inr ⟨b, cap, hr, hB, hk.down hb⟩
theorem AnsB.mono {w : World} {B B' n : Nat} {r : Value} {f : Nat → Bool} (h : AnsB w B r n f) (hB : B' ≤ B) : AnsB w B' r n f := by
  rcases h with h | ⟨b, cap, hr, hB2, hk⟩
  · exact .inl h
  · exact .inr ⟨b, cap, hr, by omega, hk⟩
def mkb (k0 : Nat) : Nat → Bool := fun i => decide ((k0 + i) % 3 = 0)
theorem tmod3 (m : Nat) : (m : Int).tmod 3 = ((m % 3 : Nat) : Int) := by
  rw [Int.tmod_eq_emod_of_nonneg (by omega)]; omega
theorem mod3 (m : Nat) : (((m % 3 : Nat) : Int) == 0) = decide (m % 3 = 0) := by
  rw [Bool.eq_iff_iff, beq_iff_eq, decide_eq_true_eq]; omega
end M
set_option maxHeartbeats 2000000 in
theorem eq_bools (v u : Value) (n : Nat) (f : Nat → Bool) (w : World) (hv : BoolsOf w v n f) (hu : BoolsOf w u n f) (hn : n ≤ 1048576) :
    Calls Try.prog 22 #[v, u] w fun e w' => e = .returned (.bool true) ∧ Below w.heap.size w w' := by
  obtain ⟨a, cap, rfl, hr⟩ := hv
  obtain ⟨a2, cap2, rfl, hr2⟩ := hu
  have HR := hide hr
  have HR2 := hide hr2
  have hnn : ((n : Int) != (n : Int)) = false := by simp
  clear hr hr2
  go_enter Try.func22, Try.ntmps22
  go_wp2
  go_loopw [5] (fun i wr => ∃ j : Nat, j ≤ n ∧ i = .int .i64 j ∧ Below w.heap.size w wr) (fun i _ => n - (intOf i).toNat)
  case atStart => exact ⟨0, Nat.zero_le _, rfl, Below.refl _ _⟩
  case round =>
    obtain ⟨j, hj, rfl, hbw⟩ := hrel
    by_cases hlt : j < n
    · obtain ⟨b, off, rfl, hb, hrow⟩ := HR.out (by omega)
      obtain ⟨b2, off2, rfl, hb2, hrow2⟩ := HR2.out (by omega)
      have k0 := cell_regrown ((hbw.cell (p := ⟨b, off + j, none⟩) hb).trans (hrow j hlt))
      have g0 := cell_regrown ((hbw.cell (p := ⟨b2, off2 + j, none⟩) hb2).trans (hrow2 j hlt))
      have hi0 : (0 : Int) ≤ (j : Int) := by omega
      have hi1 : (j : Int) < (n : Int) := by omega
      have hff : (f j != f j) = false := by simp
      generalize f j = fj at *
      clear hrow hrow2 HR HR2
      go_wp2
      refine wp_region_quiet_below (by kernel_rfl) (by kernel_rfl) ?_
      repeat (go_big_quiet_step (fail))
      refine wpQuiet_nil ?_
      intro _ hw'
      obtain ⟨⟨dq, osq⟩, hw''⟩ := hw'
      subst hw''
      have hbw2 := hbw.trans ((below_regrown wr dq osq).mono hbw.size)
      go_wp2
      go_roundw
      case rel => exact ⟨j + 1, by omega, by go_num, hbw2⟩
      case measure => simp [intOf]; omega
    · obtain rfl : n = j := by omega
      clear HR HR2
      go_wp2
      go_ret
      exact ⟨rfl, hbw⟩
set_option maxHeartbeats 2000000 in
theorem mark_bools (b n c k0 : Nat) (f : Nat → Bool) (w : World) (hg : Blk w b n (bv f) 4) (hn : n ≤ 1048576) (hk0 : k0 ≤ 1000000000) :
    Calls Try.prog 25 #[.slice (some ⟨b, 0, none⟩) n c, .int .i64 (k0 : Nat)] w fun e w' => e = .returned (.int .i64 ((k0 + n : Nat) : Int)) ∧ Blk w' b n (bv (mkb k0)) 4 ∧ Only b w w' := by
  have HG := hide hg
  clear hg
  go_enter Try.func25, Try.ntmps25
  go_wp2
  go_loopw [1, 5] (fun x i wr => ∃ (j : Nat), j ≤ n ∧ i = .int .i64 j ∧ x = .int .i64 ((k0 + j : Nat) : Int) ∧ Hid (Blk wr b n (bv (cpb f (mkb k0) j)) 4) ∧ Only b w wr) (fun _ i _ => n - (intOf i).toNat)
  case atStart => exact ⟨0, Nat.zero_le _, rfl, rfl, hide (by rw [cpb_zero]; exact HG.out), Only.refl _ _⟩
  case round =>
    obtain ⟨j, hj, rfl, rfl, HA, hbw⟩ := hrel
    by_cases hlt : j < n
    · have d0 := HA.out.cell_bool hlt
      have f0 := HA.out.thaw j
      have hA := HA.out.set_bool j (mkb k0 j)
      rw [cpb_succ] at hA
      have HA2 := hide hA
      have hbw2 := hbw.set j (.bool (mkb k0 j))
      have HE := hide (show ((k0 + (j + 1) : Nat) : Int) = ((k0 + j : Nat) : Int) + 1 by omega)
      have hE1 : ((k0 + j : Nat) : Int).tmod 3 = (((k0 + j) % 3 : Nat) : Int) := tmod3 _
      have hE2 : ((((k0 + j) % 3 : Nat) : Int) == 0) = mkb k0 j := mod3 _
      have hb0 : k0 + j ≤ 1010000000 := by omega
      have hq : (k0 + j) % 3 < 3 := by omega
      generalize mkb k0 j = mj at *
      generalize (k0 + j) % 3 = q at *
      generalize k0 + j = m at *
      clear HA HG hA
      go_wp2
      exact ⟨⟨j + 1, by omega, by go_num, by rw [HE.out], HA2, hbw2⟩, by simp [intOf]; omega⟩
    · obtain rfl : j = n := by omega
      have HB := hide (HA.out.ext (f' := bv (mkb k0)) (fun i hi => by unfold bv cpb; rw [if_pos hi]))
      clear HA HG
      go_wp2
      go_ret
      exact ⟨rfl, HB.out, hbw⟩
theorem mark_nobool (k0 : Int) (w : World) :
    Calls Try.prog 25 #[.slice none 0 0, .int .i64 k0] w fun e w' => e = .returned (.int .i64 k0) ∧ w' = w := by
  go_enter Try.func25, Try.ntmps25
  go_wp2
  refine wp_loop_rounds 1 ?_; rw [rounds_succ]
  go_wp2
  go_ret
  exact ⟨rfl, rfl⟩
theorem mark_ansB (B n k0 : Nat) (r : Value) (f : Nat → Bool) (w : World) (h : AnsB w B r n f) (hn : n ≤ 1048576) (hk0 : k0 ≤ 1000000000) :
    Calls Try.prog 25 #[r, .int .i64 (k0 : Nat)] w fun e w' => e = .returned (.int .i64 ((k0 + n : Nat) : Int)) ∧ AnsB w' B r n (mkb k0) ∧ Below B w w' ∧ w'.heap.size = w.heap.size := by
  rcases h with ⟨rfl, rfl⟩ | ⟨b, cap, rfl, hB, hb⟩
  · refine (mark_nobool (k0 : Nat) w).mono ?_
    rintro e w' ⟨rfl, rfl⟩
    exact ⟨rfl, .inl ⟨rfl, rfl⟩, Below.refl _ _, rfl⟩
  · refine (mark_bools b n cap k0 f w hb hn hk0).mono ?_
    rintro e w' ⟨rfl, hk', ho⟩
    exact ⟨rfl, .inr ⟨b, cap, rfl, hB, hk'⟩, ho.below hB, ho.size⟩
set_option maxHeartbeats 2000000 in
theorem held_bools (v : Value) (n k0 : Nat) (w : World) (hv : BoolsOf w v n (mkb k0)) (hn : n ≤ 1048576) (hk0 : k0 ≤ 1000000000) :
    Calls Try.prog 26 #[v, .int .i64 (k0 : Nat)] w fun e w' => e = .returned (.int .i64 ((k0 + n : Nat) : Int)) ∧ w' = w := by
  obtain ⟨a, cap, rfl, hr⟩ := hv
  have HR := hide hr
  clear hr
  go_enter Try.func26, Try.ntmps26
  go_wp2
  go_loop [1, 5] (fun x i => ∃ j : Nat, j ≤ n ∧ i = .int .i64 j ∧ x = .int .i64 ((k0 + j : Nat) : Int)) (fun _ i => n - (intOf i).toNat)
  case atStart => exact ⟨0, Nat.zero_le _, rfl, rfl⟩
  case round =>
    obtain ⟨j, hj, rfl, rfl⟩ := hrel
    by_cases hlt : j < n
    · obtain ⟨b, off, rfl, hb, hrow⟩ := HR.out (by omega)
      have c0 := hrow j hlt
      have HE := hide (show ((k0 + (j + 1) : Nat) : Int) = ((k0 + j : Nat) : Int) + 1 by omega)
      have hE1 : ((k0 + j : Nat) : Int).tmod 3 = (((k0 + j) % 3 : Nat) : Int) := tmod3 _
      have hE2 : ((((k0 + j) % 3 : Nat) : Int) == 0) = mkb k0 j := mod3 _
      have hE3 : (mkb k0 j != mkb k0 j) = false := by simp
      have hb0 : k0 + j ≤ 1010000000 := by omega
      have hq : (k0 + j) % 3 < 3 := by omega
      generalize mkb k0 j = mj at *
      generalize (k0 + j) % 3 = q at *
      generalize k0 + j = m at *
      clear HR hrow
      go_wp2
      go_round
      case rel => exact ⟨j + 1, by omega, by go_num, by rw [HE.out]⟩
      case measure => simp [intOf]; omega
    · obtain rfl : j = n := by omega
      clear HR
      go_wp2
      go_ret
      exact ⟨rfl, rfl⟩
end Go.Proofs.Ytfjdbenbiakbbaa

/-
  Lists of bools of a call's own, with room behind: what they hold, what turns them, one more appended, and the law's marks on them.
-/
namespace Go.Proofs.Ytfjdbenbiakbbaa
open Go.RowKit M
open Go.Sort (grow)
namespace M
def bL (l : List Bool) : List Value := l.map Value.bool
theorem bL_len (l : List Bool) : (bL l).length = l.length := by simp [bL]
theorem bL_at {l : List Bool} {i : Nat} {x : Bool} (h : l[i]? = some x) : (bL l)[i]? = some (.bool x) := by simp [bL, h]
theorem bL_app (a b : List Bool) : bL (a ++ b) = bL a ++ bL b := by simp [bL]
theorem bL_set (l : List Bool) (j : Nat) (x : Bool) : (bL l).set j (.bool x) = bL (l.set j x) := by simp [bL, List.map_set]
/-- A slice of texts that is read. -/
def BL (w : World) (v : Value) (l : List Bool) : Prop :=
  ∃ a cap, v = .slice a l.length cap ∧ (0 < l.length → ∃ b off, a = some ⟨b, off, none⟩ ∧ b < w.heap.size ∧ ∀ i x, l[i]? = some x → w.cell? ⟨b, off + i, none⟩ = some (.bool x))
theorem BL.below {w w' : World} {v : Value} {l : List Bool} (h : BL w v l) (hb : Below w.heap.size w w') : BL w' v l := by
  obtain ⟨a, cap, hv, hr⟩ := h
  refine ⟨a, cap, hv, fun hn => ?_⟩
  obtain ⟨b, off, ha, hlt, hrow⟩ := hr hn
  exact ⟨b, off, ha, Nat.lt_of_lt_of_le hlt hb.size, fun i x hi => (hb.cell (p := ⟨b, off + i, none⟩) hlt).trans (hrow i x hi)⟩
theorem BL.form {w : World} {v : Value} {l : List Bool} (h : BL w v l) : ∃ a cap, v = .slice a l.length cap := by
  obtain ⟨a, cap, hv, _⟩ := h; exact ⟨a, cap, hv⟩
theorem BL.nil (w : World) (a : Option Addr) (c : Nat) : BL w (.slice a 0 c) [] := ⟨a, c, rfl, fun h => absurd h (Nat.lt_irrefl _)⟩
/-- A slice of texts of the call's own, from block B on, with room behind. -/
def OB (w : World) (B : Nat) (v : Value) (l : List Bool) : Prop := w.ownsRow B 4 1 v l.length (bL l)
theorem OB.down {w w' : World} {B : Nat} {v : Value} {l : List Bool} (h : OB w B v l) (hb : Below w.heap.size w w') : OB w' B v l := owns_below h hb
theorem OB.mono {w : World} {B B' : Nat} {v : Value} {l : List Bool} (h : OB w B v l) (hB : B' ≤ B) : OB w B' v l := owns_mono h hB
theorem OB.nil (w : World) (B : Nat) : OB w B (.slice none 0 0) [] := ⟨rfl, .inl ⟨rfl, rfl⟩⟩
theorem OB.split {w : World} {B : Nat} {v : Value} {l : List Bool} (h : OB w B v l) : (v = .slice none 0 0 ∧ l = []) ∨ ∃ g cap, v = .slice (some ⟨g, 0, none⟩) l.length cap ∧ B ≤ g ∧ g < w.heap.size ∧ l.length ≤ cap ∧ cap ≤ maxLen := by
  rcases h.2 with ⟨rfl, h0⟩ | ⟨g, cap, cur, rfl, hB, hg, hn, hc, hs, ht⟩
  · exact .inl ⟨rfl, List.length_eq_zero_iff.1 h0⟩
  · refine .inr ⟨g, cap, rfl, hB, ?_, hn, hc⟩
    rcases Nat.lt_or_ge g w.heap.size with h' | h'
    · exact h'
    · rw [Array.getElem?_eq_none h'] at hg; cases hg
theorem OB.bls {w : World} {B : Nat} {v : Value} {l : List Bool} (h : OB w B v l) : BL w v l := by
  obtain ⟨a, cap, hv, hr⟩ := own_cells h (by rw [bL_len]; omega)
  refine ⟨a, cap, hv, fun hn => ?_⟩
  obtain ⟨g, ha, _, hlt, hc⟩ := hr hn
  exact ⟨g, 0, ha, hlt, fun i x hi => by rw [Nat.zero_add]; exact hc i _ (bL_at hi)⟩
theorem OB.form {w : World} {B : Nat} {v : Value} {l : List Bool} (h : OB w B v l) : ∃ a cap, v = .slice a l.length cap := h.bls.form
theorem OB.cell {w : World} {B g n cap : Nat} {l : List Bool} (h : OB w B (.slice (some ⟨g, 0, none⟩) n cap) l) {j : Nat} {x : Bool} (hj : l[j]? = some x) : w.cell? ⟨g, j, none⟩ = some (.bool x) := by
  obtain ⟨a, c, hv, hr⟩ := own_cells h (by rw [bL_len]; omega)
  obtain ⟨g', ha, _, _, hc⟩ := hr (by have := (List.getElem?_eq_some_iff.1 hj).1; omega)
  simp only [Value.slice.injEq] at hv
  obtain ⟨rfl, -, -⟩ := hv
  simp only [Option.some.injEq, Addr.mk.injEq, and_true] at ha
  subst ha
  exact hc j _ (bL_at hj)
theorem OB.len {w : World} {B n cap : Nat} {a : Option Addr} {l : List Bool} (h : OB w B (.slice a n cap) l) : n = l.length := by
  obtain ⟨a', c, hv⟩ := h.form
  simp only [Value.slice.injEq] at hv
  exact hv.2.1
theorem OB.thaw {w : World} {B g n cap : Nat} {l : List Bool} (h : OB w B (.slice (some ⟨g, 0, none⟩) n cap) l) (j : Nat) : w.frozen? ⟨g, j, none⟩ = false := by
  have e := h.len
  subst e
  exact World.ownsRow.frozenAt h j
theorem OB.set {w : World} {B g n cap : Nat} {l : List Bool} (h : OB w B (.slice (some ⟨g, 0, none⟩) n cap) l) (j : Nat) (x : Bool) : OB (w.setCell ⟨g, j, none⟩ (.bool x)) B (.slice (some ⟨g, 0, none⟩) n cap) (l.set j x) := by
  have e := h.len
  subst e
  have := (World.ownsRow.stored h j (.bool x)).1
  unfold OB
  rw [List.length_set, ← bL_set]
  exact this
theorem OB.other {w w' : World} {B : Nat} {v : Value} {l : List Bool} {row : Option Nat} (h : OB w B v l) (hg : w.grownBy w' row) (hne : ∀ g, v.ownBlock = some g → some g ≠ row) : OB w' B v l := owns_other h hg hne
theorem OB.lt {w : World} {B g : Nat} {v : Value} {l : List Bool} (h : OB w B v l) (hg : v.ownBlock = some g) : B ≤ g ∧ g < w.heap.size := by
  rcases h.split with ⟨rfl, _⟩ | ⟨g', cap, rfl, h1, h2, _⟩
  · simp [Value.ownBlock] at hg
  · simp only [Value.ownBlock, Option.some.injEq] at hg
    subst hg; exact ⟨h1, h2⟩
theorem BL.fn {w : World} {v : Value} {l : List Bool} (h : BL w v l) : BoolsOf w v l.length (fun i => l.getD i false) := by
  obtain ⟨a, cap, hv, hr⟩ := h
  refine ⟨a, cap, hv, fun hn => ?_⟩
  obtain ⟨b, off, ha, hlt, hrow⟩ := hr hn
  refine ⟨b, off, ha, hlt, fun i hi => ?_⟩
  have hx : l[i]? = some l[i] := List.getElem?_eq_getElem hi
  rw [hrow i _ hx]
  simp [hi]
/-- Marks from k on. -/
def mkB (k n : Nat) : List Bool := (List.range n).map (fun i => mkb k i)
theorem mkB_len (k n : Nat) : (mkB k n).length = n := by simp [mkB]
theorem mkB_at {k n i : Nat} (h : i < n) : (mkB k n)[i]? = some (mkb k i) := by simp [mkB, h]
theorem BL.marks {w : World} {v : Value} {k n : Nat} (h : BL w v (mkB k n)) : BoolsOf w v n (mkb k) := by
  obtain ⟨a, cap, hv, hr⟩ := h
  rw [mkB_len] at hv hr
  refine ⟨a, cap, hv, fun hn => ?_⟩
  obtain ⟨b, off, ha, hlt, hrow⟩ := hr hn
  exact ⟨b, off, ha, hlt, fun i hi => hrow i _ (mkB_at hi)⟩
theorem take_snocL {α : Type} {l : List α} {k : Nat} {y : α} (hy : l[k]? = some y) : l.take (k + 1) = l.take k ++ [y] := by
  have hk : k < l.length := (List.getElem?_eq_some_iff.1 hy).1
  rw [List.getElem?_eq_getElem hk] at hy
  rw [List.take_succ_eq_append_getElem hk]
  simp at hy; rw [hy]
theorem set_stepL {l m : List Bool} {j : Nat} {x : Bool} (hj : j < l.length) (hm : m[j]? = some x) : (m.take j ++ l.drop j).set j x = m.take (j + 1) ++ l.drop (j + 1) := by
  have hml := (List.getElem?_eq_some_iff.1 hm).1
  have e : (m.take j).length = j := by rw [List.length_take]; omega
  rw [List.set_append_right _ _ (by omega), e, Nat.sub_self, List.drop_eq_getElem_cons hj, List.set_cons_zero, take_snocL hm]
  simp
theorem mid_atL {l m : List Bool} {j : Nat} {x : Bool} (hj : l[j]? = some x) (hml : j ≤ m.length) : (m.take j ++ l.drop j)[j]? = some x := by
  rw [List.getElem?_append_right (by rw [List.length_take]; omega), List.length_take, Nat.min_eq_left hml, Nat.sub_self, List.getElem?_drop]
  simpa using hj
end M
theorem eq_bl (v u : Value) (l : List Bool) (w : World) (hv : BL w v l) (hu : BL w u l) (hn : l.length ≤ 1048576) :
    Calls Try.prog 22 #[v, u] w fun e w' => e = .returned (.bool true) ∧ Below w.heap.size w w' := eq_bools _ _ _ _ _ hv.fn hu.fn hn
theorem held_bl (v : Value) (n k0 : Nat) (w : World) (hv : BL w v (mkB k0 n)) (hn : n ≤ 1048576) (hk0 : k0 ≤ 1000000000) :
    Calls Try.prog 26 #[v, .int .i64 (k0 : Nat)] w fun e w' => e = .returned (.int .i64 ((k0 + n : Nat) : Int)) ∧ w' = w := held_bools _ _ _ _ hv.marks hn hk0
set_option maxHeartbeats 2000000 in
theorem mark_bl (B k0 : Nat) (v : Value) (l : List Bool) (w : World) (h : OB w B v l) (hn : l.length ≤ 1048576) (hk0 : k0 ≤ 1000000000) :
    Calls Try.prog 25 #[v, .int .i64 (k0 : Nat)] w fun e w' => e = .returned (.int .i64 ((k0 + l.length : Nat) : Int)) ∧ OB w' B v (mkB k0 l.length) ∧ w.grownBy w' v.ownBlock := by
  have HP := hide h
  rcases h.split with ⟨rfl, rfl⟩ | ⟨g, cap, rfl, hB, hgl, -⟩
  · clear h
    refine (mark_nobool (k0 : Nat) w).mono ?_
    rintro e w' ⟨rfl, rfl⟩
    exact ⟨rfl, OB.nil _ _, gbT_refl _ _⟩
  clear h
  go_enter Try.func25, Try.ntmps25
  go_wp2
  go_loopw [1, 5] (fun x i wr => ∃ (j : Nat), j ≤ l.length ∧ i = .int .i64 j ∧ x = .int .i64 ((k0 + j : Nat) : Int) ∧ Hid (OB wr B (.slice (some ⟨g, 0, none⟩) l.length cap) ((mkB k0 l.length).take j ++ l.drop j)) ∧ Hid (w.grownBy wr (some g))) (fun _ i _ => l.length - (intOf i).toNat)
  case atStart => exact ⟨0, Nat.zero_le _, rfl, rfl, hide (by simpa using HP.out), hide (gbT_refl _ _)⟩
  case round =>
    obtain ⟨j, hj, rfl, rfl, HA, HG⟩ := hrel
    by_cases hlt : j < l.length
    · obtain ⟨x, hx⟩ : ∃ x, l[j]? = some x := ⟨l[j], List.getElem?_eq_getElem hlt⟩
      have d0 := HA.out.cell (mid_atL (m := mkB k0 l.length) hx (by rw [mkB_len]; omega))
      have f0 := HA.out.thaw j
      have h2 := HA.out.set j (mkb k0 j)
      rw [set_stepL hlt (mkB_at hlt)] at h2
      have HA2 := hide h2
      have HG2 := hide (gbT_set (o := j) (v := .bool (mkb k0 j)) HG.out)
      have HE := hide (show ((k0 + (j + 1) : Nat) : Int) = ((k0 + j : Nat) : Int) + 1 by omega)
      have hE1 : ((k0 + j : Nat) : Int).tmod 3 = (((k0 + j) % 3 : Nat) : Int) := tmod3 _
      have hE2 : ((((k0 + j) % 3 : Nat) : Int) == 0) = mkb k0 j := mod3 _
      have hb0 : k0 + j ≤ 1010000000 := by omega
      have hq : (k0 + j) % 3 < 3 := by omega
      clear h2 hx HA HG HP
      generalize mkb k0 j = mj at *
      generalize (k0 + j) % 3 = q at *
      generalize k0 + j = m at *
      go_wp2
      exact ⟨⟨j + 1, by omega, by go_num, by rw [HE.out], HA2, HG2⟩, by simp [intOf]; omega⟩
    · obtain rfl : j = l.length := by omega
      have hA := HA.out
      rw [List.drop_length, List.append_nil, List.take_of_length_le (by rw [mkB_len]; omega)] at hA
      have HB := hide hA
      clear HA hA
      go_wp2
      go_ret
      exact ⟨rfl, HB.out, HG.out⟩
theorem info_boolL : (Try.prog.info? 4).map (fun i => (i.zero, i.size, i.bytes)) = some (some (.bool false), 1, 1) := by kernel_rfl
theorem add_litL (b o j : Nat) : (⟨b, o, none⟩ : Addr).add j = ⟨b, o + j, none⟩ := by unfold Addr.add; split <;> simp_all
/-- One more bool behind a list of the call's own. -/
theorem wpList_appBl (w : World) {ops : Array Oper} {rest : List Oper} {o : Oper} {a : Act} {Q : Exit → Act → World → Prop} (hgd : o.guard = none) (s x : Operand)
    (ho : o.op = .call { callee := .builtin .append, args := #[s, x], argTypes := #[43, 43] }) (B : Nat) (l : List Bool) (i : Bool) (v : Value) (hs : a.eval s = v) (hown : OB w B v l)
    (b cu : Nat) (hx : a.eval x = .slice (some ⟨b, 0, none⟩) 1 cu) (hu : w.cell? ⟨b, 0, none⟩ = some (.bool i)) (hl : l.length ≤ 1048576) (hbase : B ≤ w.heap.size)
    (h : ∀ a' n' c' w', OB w' B (.slice a' n' c') (l ++ [i]) → w.grownBy w' v.ownBlock → ((Value.slice a' n' c').ownBlock = v.ownBlock ∨ (Value.slice a' n' c').ownBlock = some w.heap.size) → wpList Try.prog ops Q rest (a.put o.dst (.slice a' n' c')) w') : wpList Try.prog ops Q (o :: rest) a w := by
  obtain ⟨i0, hi, hz0, hz1, hz2⟩ := info_parts info_boolL
  have hsrc : ∀ j u, (bL [i])[j]? = some u → w.cell? ((⟨b, 0, none⟩ : Addr).add j) = some u := fun j u hj => by
    rw [add_litL, Nat.zero_add]
    match j, hj with
    | 0, hj => simp [bL] at hj; subst hj; exact hu
  obtain ⟨v', w', hrn, hown', hgr, -, hblk⟩ := run_append_own_at (P := Try.prog) (w := w) B 43 o.type 4 i0 _ 1 1 Try.underlying43 hi hz0 hz1 hz2 rfl (by decide) v _ _ hown ⟨b, 0, none⟩ 1 cu (bL [i]) rfl hsrc (fun v hv => by simp only [bL, List.map_cons, List.map_nil, List.mem_cons, List.not_mem_nil, or_false] at hv; subst hv; rfl) (by unfold maxLen; omega) (by omega) hbase
  have hO : OB w' B v' (l ++ [i]) := by
    unfold OB
    rw [List.length_append, bL_app]; exact hown'
  obtain ⟨a', c', rfl⟩ := hO.form
  exact Lib.wpList_append_run (P := Try.prog) w hgd s x 43 43 ho _ _ hs hx _ _ hrn (h _ _ _ w' hO hgr hblk)
end Go.Proofs.Ytfjdbenbiakbbaa

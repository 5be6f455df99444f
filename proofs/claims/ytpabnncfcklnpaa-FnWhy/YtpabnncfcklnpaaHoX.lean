/-
  The specification's reckoning in memory: its sets, by which rule each came, its counts, its queue; the first two loops.
-/
import Derived.Test.YtpabnncfcklnpaaHoJ
import Derived.Test.YtpabnncfcklnpaaHoV
namespace Go.Proofs.Ytpabnncfcklnpaa
open Go.RowKit M
open Clk (upd upd_same upd_other)
open Ho
namespace M
theorem GoodL.gr {k : Nat} {ts : Nat → Tk} (h : GoodL k ts) : GR k (rls ts) := fun i hi => ⟨(h.2 i hi).hd.2, (h.2 i hi).2.up⟩
theorem own_set {w : World} {B e s n b i : Nat} {v u : Value} {xs : List Value} (h : w.ownsRow B e s v n xs) (hb : b < B) : (w.setCell ⟨b, i, none⟩ u).ownsRow B e s v n xs := by
  refine ⟨h.1, ?_⟩
  rcases h.2 with h0 | ⟨g, cap, cur, hv, hB, hg, r⟩
  · exact .inl h0
  · exact .inr ⟨g, cap, cur, hv, hB, (Go.heap_setCell_other _ _ _ _ (show g ≠ b by omega)).trans hg, r⟩
/-- The reckoning's memory: the set, by which, the counts, the queue. -/
def R0 (w : World) (k : Nat) (cc : Nat → Int) (inn : Nat → Bool) (b : Nat → Int) (v : Value) (m : Nat) (L : List Nat) (W : World) : Prop :=
  Blk W w.heap.size 40 (bv inn) 4 ∧ Blk W (w.heap.size + 1) 40 (iv b) 3 ∧ Blk W (w.heap.size + 2) k (iv cc) 3 ∧ W.ownsRow (w.heap.size + 3) 3 1 v m (L.map nv) ∧ Below w.heap.size w W ∧ w.heap.size + 3 ≤ W.heap.size
theorem R0.down {w W W' : World} {k m : Nat} {cc : Nat → Int} {inn : Nat → Bool} {b : Nat → Int} {v : Value} {L : List Nat} (h : R0 w k cc inn b v m L W) (hb : Below W.heap.size W W') : R0 w k cc inn b v m L W' :=
  ⟨h.1.down hb, h.2.1.down hb, h.2.2.1.down hb, owns_below h.2.2.2.1 hb, h.2.2.2.2.1.trans (hb.mono h.2.2.2.2.1.size), Nat.le_trans h.2.2.2.2.2 hb.size⟩
theorem R0.setIn {w W : World} {k m : Nat} {cc : Nat → Int} {inn : Nat → Bool} {b : Nat → Int} {v : Value} {L : List Nat} (h : R0 w k cc inn b v m L W) (x : Nat) : R0 w k cc (upd inn x true) b v m L (W.setCell ⟨w.heap.size, x, none⟩ (.bool true)) :=
  ⟨h.1.set_bv x, h.2.1.set_other (by omega) _ _, h.2.2.1.set_other (by omega) _ _, own_set h.2.2.2.1 (by omega), h.2.2.2.2.1.setCell (Nat.le_refl _) _, by rw [World.size_setCell]; exact h.2.2.2.2.2⟩
theorem R0.setBy {w W : World} {k m : Nat} {cc : Nat → Int} {inn : Nat → Bool} {b : Nat → Int} {v : Value} {L : List Nat} (h : R0 w k cc inn b v m L W) (x : Nat) (z : Int) : R0 w k cc inn (upd b x z) v m L (W.setCell ⟨w.heap.size + 1, x, none⟩ (.int .i64 z)) :=
  ⟨h.1.set_other (by omega) _ _, h.2.1.set_int x z, h.2.2.1.set_other (by omega) _ _, own_set h.2.2.2.1 (by omega), h.2.2.2.2.1.setCell (show w.heap.size ≤ w.heap.size + 1 by omega) _, by rw [World.size_setCell]; exact h.2.2.2.2.2⟩
theorem R0.setC {w W : World} {k m : Nat} {cc : Nat → Int} {inn : Nat → Bool} {b : Nat → Int} {v : Value} {L : List Nat} (h : R0 w k cc inn b v m L W) (x : Nat) (z : Int) : R0 w k (upd cc x z) inn b v m L (W.setCell ⟨w.heap.size + 2, x, none⟩ (.int .i64 z)) :=
  ⟨h.1.set_other (by omega) _ _, h.2.1.set_other (by omega) _ _, h.2.2.1.set_int x z, own_set h.2.2.2.1 (by omega), h.2.2.2.2.1.setCell (show w.heap.size ≤ w.heap.size + 2 by omega) _, by rw [World.size_setCell]; exact h.2.2.2.2.2⟩
theorem R0.alloc {w W : World} {k m : Nat} {cc : Nat → Int} {inn : Nat → Bool} {b : Nat → Int} {v : Value} {L : List Nat} (h : R0 w k cc inn b v m L W) (o : Obj) : R0 w k cc inn b v m L (W.alloc o) := h.down ((Below.refl _ _).alloc (Nat.le_refl _) _)
theorem R0.app {w W W' : World} {k m : Nat} {cc : Nat → Int} {inn : Nat → Bool} {b : Nat → Int} {v v' : Value} {L : List Nat} (h : R0 w k cc inn b v m L W) {x : Nat} (hown : W'.ownsRow (w.heap.size + 3) 3 1 v' (m + 1) (L.map nv ++ [.int .i64 (x : Int)])) (hg : W.grownBy W' v.ownBlock) : R0 w k cc inn b v' (m + 1) (L ++ [x]) W' := by
  have hb : Below (w.heap.size + 3) W W' := (Below.refl _ _).grown hg h.2.2.2.2.2 (fun j hj => (h.2.2.2.1.lt j hj).1)
  refine ⟨h.1.below hb (by omega), h.2.1.below hb (by omega), h.2.2.1.below hb (by omega), ?_, h.2.2.2.2.1.trans (hb.mono (by omega)), Nat.le_trans h.2.2.2.2.2 hb.size⟩
  rw [List.map_append]; exact hown
/-- A rule's own copy. -/
def Rg (w : World) (gr x : Nat) (y : Value) (W : World) : Prop := w.heap.size + 3 ≤ gr ∧ Blk W gr 2 (p2 (.int .i64 (x : Int)) y) 48
theorem Rg.set {w W : World} {gr x b i : Nat} {y u : Value} (h : Rg w gr x y W) (hb : b < w.heap.size + 3) : Rg w gr x y (W.setCell ⟨b, i, none⟩ u) := ⟨h.1, h.2.set_other (by have := h.1; omega) _ _⟩
theorem Rg.down {w W W' : World} {gr x : Nat} {y : Value} (h : Rg w gr x y W) (hb : Below W.heap.size W W') : Rg w gr x y W' := ⟨h.1, h.2.down hb⟩
/-- A state of the reckoning in memory. -/
def RS (w : World) (k : Nat) (cc : Nat → Int) (g : Nat → Bool) (s : Sta) (v : Value) (m : Nat) (W : World) : Prop :=
  m = s.q.length ∧ WInv s ∧ ∃ b, ByI g s.q b ∧ R0 w k cc s.inn b v m (ns s.q) W
theorem RS.down {w W W' : World} {k m : Nat} {cc : Nat → Int} {g : Nat → Bool} {s : Sta} {v : Value} (h : RS w k cc g s v m W) (hb : Below W.heap.size W W') : RS w k cc g s v m W' := by
  obtain ⟨h1, h2, b, h3, h4⟩ := h; exact ⟨h1, h2, b, h3, h4.down hb⟩
theorem come_yes {s : Sta} {x : Nat} {o : Option Nat} (h : s.inn x = true) : come s x o = s := by unfold come; rw [if_pos h]
theorem come_no {s : Sta} {x : Nat} {o : Option Nat} (h : s.inn x = false) : come s x o = { s with inn := upd s.inn x true, q := s.q ++ [(x, o)] } := by unfold come; rw [h]; simp
theorem ns_snoc (q : List (Nat × Option Nat)) (x : Nat) (o : Option Nat) : ns (q ++ [(x, o)]) = ns q ++ [x] := by simp [ns]
/-- A rule has let its head come. -/
theorem RS.fired {w W : World} {k m i x : Nat} {cc : Nat → Int} {g : Nat → Bool} {s : Sta} {b : Nat → Int} {v' : Value} (hm : m = s.q.length) (hw : WInv s) (hB : ByI g s.q b) (hx : s.inn x = false) (hx4 : x < 40)
    (h : R0 w k cc (upd s.inn x true) (upd b x (i : Int)) v' (m + 1) (ns s.q ++ [x]) W) : RS w k cc g (come s x (some i)) v' (m + 1) W := by
  refine ⟨?_, hw.come _ hx4, upd b x (i : Int), ?_, ?_⟩
  · rw [come_no hx, hm]; simp
  · rw [come_no hx]; exact hB.fire hw hx
  · rw [come_no hx]; show R0 w k cc (upd s.inn x true) _ v' (m + 1) (ns (s.q ++ [(x, some i)])) W; rw [ns_snoc]; exact h
theorem RS.facted {w W : World} {k m x : Nat} {cc : Nat → Int} {g : Nat → Bool} {s : Sta} {b : Nat → Int} {v' : Value} (hm : m = s.q.length) (hw : WInv s) (hB : ByI g s.q b) (hx : s.inn x = false) (hx4 : x < 40)
    (h : R0 w k cc (upd s.inn x true) (upd b x (-1)) v' (m + 1) (ns s.q ++ [x]) W) : RS w k cc (upd g x true) (come s x none) v' (m + 1) W := by
  refine ⟨?_, hw.come _ hx4, upd b x (-1), hB.fact hw x, ?_⟩
  · rw [come_no hx, hm]; simp
  · rw [come_no hx]; show R0 w k cc (upd s.inn x true) _ v' (m + 1) (ns (s.q ++ [(x, none)])) W; rw [ns_snoc]; exact h
theorem RS.facted_old {w W : World} {k m x : Nat} {cc : Nat → Int} {g : Nat → Bool} {s : Sta} {b : Nat → Int} {v : Value} (hm : m = s.q.length) (hw : WInv s) (hB : ByI g s.q b) (hx : s.inn x = true)
    (h : R0 w k cc s.inn (upd b x (-1)) v m (ns s.q) W) : RS w k cc (upd g x true) (come s x none) v m W := by
  have := hB.fact hw x
  rw [come_yes hx] at this ⊢
  exact ⟨hm, hw, _, this, h⟩
/-- Counts that are laid one by one. -/
def lc (ts : Nat → Tk) (j : Nat) : Nat → Int := fun i => if i < j then ((ts i).nn : Int) else 0
theorem lc_zero (ts : Nat → Tk) : lc ts 0 = fun _ => 0 := by funext i; simp [lc]
theorem lc_succ (ts : Nat → Tk) (j : Nat) : upd (lc ts j) j ((ts j).nn : Int) = lc ts (j + 1) := by
  funext i; unfold upd lc
  by_cases e : i = j
  · subst e; simp
  · rw [if_neg e]
    by_cases h : i < j
    · rw [if_pos h, if_pos (by omega)]
    · rw [if_neg h, if_neg (by omega)]
end M
set_option maxHeartbeats 1000000 in
theorem l1has_to (v : Value) (n : Nat) (f : Nat → Int) (x : Int) (b : Bool) (w : World) (hv : IntsOf w v n f) (hn : n ≤ 1048576) (hb : b = true ↔ ∃ j, j < n ∧ f j = x) :
    Calls Try.prog 59 #[v, .int .i64 x] w fun e w' => e = .returned (.bool b) ∧ w' = w := by
  obtain ⟨a, cap, rfl, hr⟩ := hv
  have HR := hide hr
  have HB := hide hb
  clear hr hb
  go_enter Try.func59, Try.ntmps59
  go_wp2
  go_loop [9] (fun i => ∃ j : Nat, j ≤ n ∧ i = .int .i64 j ∧ Hid (∀ q, q < j → f q ≠ x)) (fun i => n - (intOf i).toNat)
  case atStart => exact ⟨0, Nat.zero_le _, rfl, hide (fun q h => absurd h (by omega))⟩
  case round =>
    obtain ⟨j, hj, rfl, HP⟩ := hrel
    by_cases hlt : j < n
    · obtain ⟨bb, off, rfl, hbb, hrow⟩ := HR.out (by omega)
      have c0 := hrow j hlt
      by_cases he : f j = x
      · have eb : b = true := HB.out.2 ⟨j, hlt, he⟩
        subst eb
        have hq : (f j == x) = true := by rw [he]; simp
        clear HR HB HP hrow he
        go_wp2
        go_ret
        exact ⟨rfl, rfl⟩
      · have hq : (f j == x) = false := by simp [he]
        have HP2 := hide (show ∀ q, q < j + 1 → f q ≠ x from fun q hq => by
          rcases (show q < j ∨ q = j by omega) with h1 | h1
          · exact HP.out q h1
          · subst h1; exact he)
        clear HR HB HP hrow he
        go_wp2
        go_round
        case rel => exact ⟨j + 1, by omega, by go_num, HP2⟩
        case measure => simp [intOf]; omega
    · have eb : b = false := by
        rw [← Bool.not_eq_true, HB.out]
        rintro ⟨q, hq, e⟩
        exact HP.out q (by omega) e
      subst eb
      clear HR HB HP
      go_wp2
      go_ret
      exact ⟨rfl, rfl⟩
end Go.Proofs.Ytpabnncfcklnpaa

/-
  What a fold over events keeps: the box of the state that events have made, and that of the answer.
-/
import Derived.Test.YtjgopjnkkhkcnaaGreatDoorStW
import Derived.Test.YtjgopjnkkhkcnaaGreatDoorStL0
namespace Go.Proofs.YtjgopjnkkhkcnaaGreatDoor
open Go.RowKit M
open Clk (upd upd_same upd_other)
open Go.Sort (grow)
namespace M
structure FB (w W : World) (g : Nat) (s : St) (u0 u1 : Value) : Prop where
  low : Below w.heap.size w W
  m : SM W w.heap.size g u0 u1 s
  rb : Blk W w.heap.size 6 (q6 (.int .i64 0) (.int .i64 0) (.bool false) (.int .i64 0) (.slice none 0 0) (.slice none 0 0)) 154
  ne : w.heap.size < g
theorem FB.down {w W W' : World} {g : Nat} {s : St} {u0 u1 : Value} (h : FB w W g s u0 u1) (hb : Below W.heap.size W W') : FB w W' g s u0 u1 :=
  ⟨h.low.trans (hb.mono h.low.size), h.m.down hb, h.rb.down hb, h.ne⟩
/-- Another state is stored into the box. -/
theorem FB.put {w W : World} {g : Nat} {s s' : St} {u0 u1 y0 y1 : Value} (h : FB w W g s u0 u1) (ha : AnsL W w.heap.size W.heap.size y0 y1 s'.sg s'.tm) :
    ∀ WZ, (((((W.setCell ⟨g, 0, none⟩ (.int .i64 s'.st)).setCell ⟨g, 1, none⟩ (.int .i64 s'.nx)).setCell ⟨g, 2, none⟩ (.bool s'.ca)).setCell ⟨g, 3, none⟩ (.int .i64 s'.dn)).setCell ⟨g, 4, none⟩ y0).setCell ⟨g, 5, none⟩ y1 = WZ → FB w WZ g s' y0 y1 := by
  intro WZ hWZ
  obtain ⟨k1, k2, k3⟩ := put6 h.m.box h.low h.m.lo _ _ _ _ _ _ WZ hWZ
  have n0 := ha.o0.ne_blk h.m.box (by decide)
  have n1 := ha.o1.ne_blk h.m.box (by decide)
  exact ⟨k2, ⟨k1, ha.o0.other k3 (fun q hq e => n0 (by rw [hq, e])), ha.o1.other k3 (fun q hq e => n1 (by rw [hq, e])), ha.ap, h.m.lo⟩, h.rb.gb k3 (fun e => by have := h.ne; simp only [Option.some.injEq] at e; omega), h.ne⟩
/-- What a fold answers: the state that the first k events make, and k; just k of them may come. -/
def FoA (w w' : World) (e' : Ending) (es : List Ev) (k : Nat) : Prop := ∃ u0 u1, e' = .returned (.tuple #[stv u0 u1 (sk es k), .int .i64 (k : Int)]) ∧ AnsL w' w.heap.size w'.heap.size u0 u1 (sk es k).sg (sk es k).tm
theorem FB.fin {w W : World} {g : Nat} {s : St} {u0 u1 : Value} (h : FB w W g s u0 u1) :
    ∀ WZ, (((((W.setCell ⟨w.heap.size, 0, none⟩ (.int .i64 s.st)).setCell ⟨w.heap.size, 1, none⟩ (.int .i64 s.nx)).setCell ⟨w.heap.size, 2, none⟩ (.bool s.ca)).setCell ⟨w.heap.size, 3, none⟩ (.int .i64 s.dn)).setCell ⟨w.heap.size, 4, none⟩ u0).setCell ⟨w.heap.size, 5, none⟩ u1 = WZ →
    Blk WZ w.heap.size 6 (sq u0 u1 s) 154 ∧ AnsL WZ w.heap.size WZ.heap.size u0 u1 s.sg s.tm ∧ Below w.heap.size w WZ := by
  intro WZ hWZ
  obtain ⟨k1, k2, k3⟩ := put6 h.rb h.low (Nat.le_refl _) _ _ _ _ _ _ WZ hWZ
  have n0 := h.m.o0.ne_blk h.rb (by decide)
  have n1 := h.m.o1.ne_blk h.rb (by decide)
  exact ⟨k1, AnsL.of (h.m.o0.other k3 (fun q hq e => n0 (by rw [hq, e]))) (h.m.o1.other k3 (fun q hq e => n1 (by rw [hq, e]))) h.m.ap, k2⟩
theorem good_short {s : St} (h : GoodSt s) : ShortT s ∧ NmT s := ⟨⟨by have := h.2.2.1.1; omega, by have := h.2.2.2.1.1; omega⟩, nm12 h.2.2.1, nm12 h.2.2.2.1⟩
end M
end Go.Proofs.YtjgopjnkkhkcnaaGreatDoor

/-
  The law of ReadEvent, walked: it returns true and turns nothing that was there. Condition: the tables and the library's variables read as their texts lay them.
-/
import Derived.Test.YtkcgckobaobogaaDoorRead
namespace Go.Proofs.YtkcgckobaobogaaDoor
open Go.RowKit M

set_option maxHeartbeats 1000000 in
theorem law_read_of (s : ByteArray) (I V K : Int) (N : ByteArray) (b : Bool) (w : World) (hl : ¬ (1048576 : Int) < (s.size : Int))
    (hspec : ∀ w, Calls Tryd.prog 14 #[.string s] w fun e w' => e = .returned (.tuple #[ev I V K N, .bool b]) ∧ Below w.heap.size w w')
    (himpl : ∀ w1, Below w.heap.size w w1 → Calls Tryd.prog 15 #[.string s] w1 fun e w' => e = .returned (.tuple #[ev I V K N, .bool b]) ∧ Below w1.heap.size w1 w') :
    Calls Tryd.prog 5 #[.string s] w fun e w' => e = .returned (.bool true) ∧ Below w.heap.size w w' := by
  have HS := hide hspec
  have HI := hide himpl
  clear hspec himpl
  go_enter Tryd.func5, Tryd.ntmps5
  go_wp2_with fail
  refine (HS.out _).mono ?_
  rintro e w1 ⟨rfl, hb1⟩
  have h2 : Below w.heap.size w (w1.alloc (.cells #[.int .i64 I, .int .i64 V, .int .i64 K, .string N] 26)) := hb1.alloc hb1.size _
  go_wp2_with fail
  refine (HI.out _ h2).mono ?_
  rintro e w2 ⟨rfl, hb2⟩
  have B3 := blk_below (heap_alloc_new w1 (.cells #[.int .i64 I, .int .i64 V, .int .i64 K, .string N] 26)) hb2
  have h3 : Below w.heap.size w w2 := h2.trans (hb2.mono h2.size)
  have hz2 : w1.heap.size < w2.heap.size := by have := hb2.size; rw [World.size_alloc] at this; omega
  obtain ⟨⟨f0, f1, f2, f3⟩, -⟩ := blk4 B3
  clear B3 hb2 h2
  go_wp2_with fail
  refine (eq_event _ _ _ _ _).mono ?_
  rintro e w3 ⟨rfl, hb3⟩
  have h4 : Below w.heap.size w w3 := (h3.alloc h3.size _).trans (hb3.mono (by rw [World.size_alloc]; have := h3.size; omega))
  clear f0 f1 f2 f3 hb3
  cases b
  all_goals
    go_wp2
    go_ret
    exact ⟨rfl, h4⟩

theorem law_read (s : ByteArray) (w : World) (hs : s.size ≤ maxLen) (hk : KK w) (hp : PT w) (hlb : LB w) :
    Calls Tryd.prog 5 #[.string s] w fun e w' => e = .returned (.bool true) ∧ Below w.heap.size w w' := by
  by_cases hl : (1048576 : Int) < (s.size : Int)
  · unfold maxLen at hs
    go_enter Tryd.func5, Tryd.ntmps5
    go_wp2
    go_ret
    exact ⟨rfl, Below.refl _ _⟩
  · by_cases he : ∃ (id ver kind : Nat) (name : ByteArray), goodB id ver kind name = true ∧ evB id ver kind name = s
    · obtain ⟨id, ver, kind, name, hg, rfl⟩ := he
      exact law_read_of _ id ver kind name true w hl (fun w => spec_read_ev id ver kind name w hg) (fun w1 hb => impl_read_ev id ver kind name w1 hg (hk.below hb) (hp.below hb) (hlb.below hb))
    · have hno : NoEv s := fun id ver kind name hg hq => he ⟨id, ver, kind, name, hg, hq⟩
      exact law_read_of s 0 0 0 ⟨#[]⟩ false w hl (fun w => spec_read_no s w hs hno) (fun w1 hb => impl_read_no s w1 (by omega) hno (hk.below hb) (hp.below hb) (hlb.below hb))
end Go.Proofs.YtkcgckobaobogaaDoor

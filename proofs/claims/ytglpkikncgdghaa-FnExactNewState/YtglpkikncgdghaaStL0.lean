/-
  NewState in both texts, and its law, walked: it returns true and turns nothing that was there.
-/
import Derived.Test.YtglpkikncgdghaaStA
namespace Go.Proofs.Ytglpkikncgdghaa
open Go.RowKit M
open Clk (upd upd_same upd_other)
namespace M
abbrev nil2 : Value := .slice none 0 0
theorem ans0 (w : World) (lo hi : Nat) : AnsL w lo hi nil2 nil2 [] [] := ⟨OwnT.nil _ _, OwnT.nil _ _, fun g h => (by cases h), fun g h => (by cases h), fun g h => (by cases h)⟩
end M
theorem spec_new (w : World) : Calls Try.prog 5 #[] w fun e w' => e = .returned (stv nil2 nil2 st0) ∧ Below w.heap.size w w' := by
  have hb := (Below.refl w.heap.size w).alloc (Nat.le_refl _) (.cells #[.int .i64 0, .int .i64 1, .bool false, .int .i64 0, .slice none 0 0, .slice none 0 0] 24)
  go_enter Try.func5, Try.ntmps5
  go_wp2
  exact bodyPost_ret (v := stv nil2 nil2 st0) (by simp [results, Try.results5, go_sem, st0]) rfl ⟨rfl, hb⟩
theorem impl_new (w : World) : Calls Try.prog 6 #[] w fun e w' => e = .returned (stv nil2 nil2 st0) ∧ Below w.heap.size w w' := by
  have hb := (Below.refl w.heap.size w).alloc (Nat.le_refl _) (.cells #[.int .i64 0, .int .i64 1, .bool false, .int .i64 0, .slice none 0 0, .slice none 0 0] 24)
  go_enter Try.func6, Try.ntmps6
  go_wp2
  exact bodyPost_ret (v := stv nil2 nil2 st0) (by simp [results, Try.results6, go_sem, st0]) rfl ⟨rfl, hb⟩
theorem short0 : ShortT st0 := ⟨Nat.zero_le _, Nat.zero_le _⟩
namespace M
abbrev arr0 : Array Value := #[.int .i64 st0.st, .int .i64 st0.nx, .bool st0.ca, .int .i64 st0.dn, .slice none 0 0, .slice none 0 0]
def N0 (w W : World) (g1 g2 : Nat) : Prop := Below w.heap.size w W ∧ Blk W g1 6 (sq nil2 nil2 st0) 24 ∧ Blk W g2 6 (sq nil2 nil2 st0) 24
theorem N0.down {w W W' : World} {g1 g2 : Nat} (h : N0 w W g1 g2) (hb : Below W.heap.size W W') : N0 w W' g1 g2 := ⟨h.1.trans (hb.mono h.1.size), h.2.1.down hb, h.2.2.down hb⟩
theorem N0.kept {w W W' : World} {g1 g2 : Nat} (h : N0 w W g1 g2) (hk : KeptB W.heap.size W.heap.size W W') : N0 w W' g1 g2 := h.down (hk.below (Nat.le_refl _) (Nat.le_refl _))
end M
set_option maxRecDepth 20000 in
set_option maxHeartbeats 2000000 in
theorem law_newSt (w : World) : Calls Try.prog 3 #[] w fun e w' => e = .returned (.bool true) ∧ Below w.heap.size w w' := by
  go_enter Try.func3, Try.ntmps3
  go_wp2_with fail
  refine (spec_new _).mono ?_
  rintro e w1 ⟨rfl, hb1⟩
  have hB1 : Blk (w1.alloc (.cells arr0 24)) w1.heap.size 6 (sq nil2 nil2 st0) 24 := new6 w1 _ _ _ _ _ _ 24
  have hd1 := (Below.refl w1.heap.size w1).alloc (Nat.le_refl _) (.cells arr0 24)
  have hb2 := hb1.trans (hd1.mono hb1.size)
  have HB1 := hide hB1
  clear hB1 hd1 hb1
  go_wp2_with fail
  refine (impl_new _).mono ?_
  rintro e w2 ⟨rfl, hb3⟩
  have HN := hide (show N0 w (w2.alloc (.cells arr0 24)) w1.heap.size w2.heap.size from by
    have hd := (Below.refl w2.heap.size w2).alloc (Nat.le_refl _) (.cells arr0 24)
    have h := hb2.trans (hb3.mono hb2.size)
    exact ⟨h.trans (hd.mono h.size), (HB1.out.down hb3).down hd, new6 w2 _ _ _ _ _ _ 24⟩)
  have hne : w1.heap.size < w2.heap.size := Nat.lt_of_lt_of_le (HB1.out.lt) hb3.size
  obtain ⟨W, hW⟩ : ∃ W, w2.alloc (.cells arr0 24) = W := ⟨_, rfl⟩
  obtain ⟨⟨d0, d1, d2, d3, d4, d5⟩, -⟩ := HN.out.2.1.hex
  obtain ⟨⟨e0, e1, e2, e3, e4, e5⟩, -⟩ := HN.out.2.2.hex
  have HWW := hide hW
  clear hb3 hb2 HB1 hW
  go_wp2_with fail
  rw [HWW.out] at HN ⊢
  clear d0 d1 d2 d3 d4 d5 e0 e1 e2 e3 e4 e5 HWW hne
  refine (eq_state _ _ _ _ st0 _ (ans0 _ 0 0).q (ans0 _ 0 0).q short0).mono ?_
  rintro e w3 ⟨rfl, hb⟩
  have HN3 := hide (HN.out.down hb)
  clear hb HN
  obtain ⟨⟨e0, e1, e2, e3, e4, e5⟩, -⟩ := HN3.out.2.2.hex
  go_wp2_with fail
  refine (mark_state w3.heap.size w3.heap.size _ _ st0 _ (ans0 _ _ _) short0 (Nat.le_refl _)).mono ?_
  rintro e w4 ⟨rfl, -, hk⟩
  have HN4 := hide (HN3.out.kept hk)
  clear hk HN3 e0 e1 e2 e3 e4 e5
  obtain ⟨⟨e0, e1, e2, e3, e4, e5⟩, -⟩ := HN4.out.2.2.hex
  go_wp2_with fail
  refine (held_state 0 0 _ _ st0 _ (ans0 _ _ _) short0).mono ?_
  rintro e w5 ⟨rfl, hb⟩
  have HN5 := hide (HN4.out.down hb)
  clear hb HN4 e0 e1 e2 e3 e4 e5
  go_wp2_with fail
  refine (impl_new _).mono ?_
  rintro e w6 ⟨rfl, hb⟩
  have hd := (Below.refl w6.heap.size w6).alloc (Nat.le_refl _) (.cells arr0 24)
  have HN6 := hide ((HN5.out.down hb).down hd)
  have hx1 : w1.heap.size < w6.heap.size := (HN5.out.down hb).2.1.lt
  obtain ⟨⟨d0, d1, d2, d3, d4, d5⟩, -⟩ := HN6.out.2.1.hex
  clear hb HN5 hd
  go_wp2_with fail
  refine (eq_state _ _ _ _ st0 _ (ans0 _ 0 0).q (ans0 _ 0 0).q short0).mono ?_
  rintro e w7 ⟨rfl, hb⟩
  have HN7 := hide (HN6.out.down hb)
  clear hb HN6 d0 d1 d2 d3 d4 d5
  obtain ⟨⟨e0, e1, e2, e3, e4, e5⟩, -⟩ := HN7.out.2.2.hex
  go_wp2_with fail
  refine (held_state 0 0 _ _ st0 _ (ans0 _ _ _) short0).mono ?_
  rintro e w8 ⟨rfl, hb⟩
  have hbz := (HN7.out.down hb).1
  clear hb HN7 e0 e1 e2 e3 e4 e5
  go_wp2
  go_ret
  exact ⟨rfl, hbz⟩
end Go.Proofs.Ytglpkikncgdghaa

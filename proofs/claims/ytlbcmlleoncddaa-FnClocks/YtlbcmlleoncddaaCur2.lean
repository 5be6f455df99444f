/-
  The specification's reader of choices: numbers, yes or no, one of two, how many processes.
-/
import Derived.Test.YtlbcmlleoncddaaCur
import Derived.Test.YtlbcmlleoncddaaCmp2
namespace Go.Proofs.Ytlbcmlleoncddaa
open Go.RowKit M
namespace M
/-- All that was there stands, but for block cb. -/
structure But (cb : Nat) (w w' : World) : Prop where
  os : w'.os = w.os
  tape : w'.tape = w.tape
  output : w'.output = w.output
  size : w.heap.size ≤ w'.heap.size
  block : ∀ k, k < w.heap.size → k ≠ cb → w'.heap[k]? = w.heap[k]?
theorem But.refl (cb : Nat) (w : World) : But cb w w := ⟨rfl, rfl, rfl, Nat.le_refl _, fun _ _ _ => rfl⟩
theorem But.trans {cb : Nat} {a b c : World} (h : But cb a b) (k : But cb b c) : But cb a c :=
  ⟨k.os.trans h.os, k.tape.trans h.tape, k.output.trans h.output, Nat.le_trans h.size k.size, fun i hi hne => (k.block i (Nat.lt_of_lt_of_le hi h.size) hne).trans (h.block i hi hne)⟩
theorem Only.but {cb : Nat} {w w' : World} (h : Only cb w w') : But cb w w' := ⟨h.os, h.tape, h.output, by rw [h.size]; exact Nat.le_refl _, fun k _ hne => h.block k hne⟩
theorem But.of_below {cb : Nat} {w w' : World} (h : Below w.heap.size w w') : But cb w w' := ⟨h.os, h.tape, h.output, h.size, fun k hk _ => h.block k hk⟩
theorem But.below {cb B : Nat} {w w' : World} (h : But cb w w') (hB : B ≤ cb) (hw : B ≤ w.heap.size) : Below B w w' :=
  ⟨h.os, h.tape, h.output, h.size, fun k hk => h.block k (by omega) (by omega)⟩
theorem But.blk {cb : Nat} {w w' : World} (h : But cb w w') {g n : Nat} {f : Nat → Value} {t : TypeId} (hb : Blk w g n f t) (hne : g ≠ cb) : Blk w' g n f t := by
  unfold Blk; rw [h.block g hb.lt hne]; exact hb
theorem But.owns {cb : Nat} {w w' : World} (h : But cb w w') {B e s n : Nat} {v : Value} {xs : List Value} (ho : w.ownsRow B e s v n xs) (hlt : cb < B) : w'.ownsRow B e s v n xs := by
  refine ⟨ho.1, ?_⟩
  rcases ho.2 with h0 | ⟨g, cap, cur, hv, hB, hg, r⟩
  · exact .inl h0
  · have hgl : g < w.heap.size := (Array.getElem?_eq_some_iff.1 hg).1
    exact .inr ⟨g, cap, cur, hv, hB, by rw [h.block g hgl (by omega)]; exact hg, r⟩
theorem CurAt.lt {w : World} {B cb N : Nat} (h : CurAt w B cb N) : cb < w.heap.size := by
  obtain ⟨v, n, f, t, s, ht, hn, hB, hk, _⟩ := h; exact hk.lt
theorem CurAt.more {w : World} {B cb N N' : Nat} (h : CurAt w B cb N) (hN : N ≤ N') : CurAt w B cb N' := by
  obtain ⟨v, n, f, t, s, ht, r⟩ := h; exact ⟨v, n, f, t, s, by omega, r⟩
end M
set_option maxHeartbeats 1000000 in
theorem cur_pick (B cb N m : Nat) (w : World) (h : CurAt w B cb N) (hN : N ≤ 1000000) (hm : m ≤ 200) :
    Calls Try.prog 59 #[.pointer (some ⟨cb, 0, none⟩), .int .i64 (m : Int)] w fun e w' => (∃ x : Nat, (x < m ∨ x = 0) ∧ e = .returned (.int .i64 (x : Int))) ∧ CurAt w' B cb (N + 1) ∧ But cb w w' := by
  have HC := hide h
  clear h
  by_cases h1 : m ≤ 1
  · have h1' : (m : Int) ≤ 1 := by omega
    go_enter Try.func59, Try.ntmps59
    go_wp2
    go_ret
    exact ⟨⟨0, .inr rfl, rfl⟩, HC.out.more (by omega), But.refl _ _⟩
  · have h1' : ¬ ((m : Int) ≤ 1) := by omega
    have h2' : ¬ ((m : Int) > 200) := by omega
    go_enter Try.func59, Try.ntmps59
    go_wp2_with fail
    refine (cur_next B cb N _ HC.out hN).mono ?_
    rintro e w1 ⟨⟨x, hx, rfl⟩, hc1, ho1⟩
    have hq : (x : Int).tmod (m : Int) = ((x % m : Nat) : Int) := by rw [Int.tmod_eq_emod_of_nonneg (by omega)]; omega
    have hm0 : (m : Int) ≠ 0 := by omega
    have HF := hide (And.intro hc1 ho1.but)
    have hlt : x % m < m := Nat.mod_lt _ (by omega)
    clear hc1 ho1
    generalize x % m = y at *
    go_wp2
    go_ret
    exact ⟨⟨y, .inl hlt, ret_int (by first | rfl | omega)⟩, HF.out.1, HF.out.2⟩
set_option maxHeartbeats 1000000 in
theorem cur_one (B cb N m : Nat) (w : World) (h : CurAt w B cb N) (hN : N ≤ 1000000) (hm : m ≤ 200) :
    Calls Try.prog 60 #[.pointer (some ⟨cb, 0, none⟩), .int .i64 (m : Int)] w fun e w' => (∃ b : Bool, e = .returned (.bool b)) ∧ CurAt w' B cb (N + 1) ∧ But cb w w' := by
  have HC := hide h
  clear h
  go_enter Try.func60, Try.ntmps60
  go_wp2_with fail
  refine (cur_pick B cb N m _ HC.out hN hm).mono ?_
  rintro e w1 ⟨⟨x, hx, rfl⟩, hc1, ho1⟩
  go_wp2
  go_ret
  exact ⟨⟨_, rfl⟩, hc1, ho1⟩
set_option maxHeartbeats 1000000 in
theorem cur_among (B cb N g : Nat) (f : Nat → Int) (w : World) (h : CurAt w B cb N) (hN : N ≤ 1000000) (hg : Blk w g 2 (iv f) 3) (hne : g ≠ cb) :
    Calls Try.prog 63 #[.pointer (some ⟨cb, 0, none⟩), .slice (some ⟨g, 0, none⟩) 2 2] w fun e w' => (∃ x : Nat, x < 2 ∧ e = .returned (.int .i64 (f x))) ∧ CurAt w' B cb (N + 1) ∧ But cb w w' := by
  have HC := hide h
  have HG := hide hg
  clear h hg
  go_enter Try.func63, Try.ntmps63
  go_wp2_with fail
  refine (cur_pick B cb N 2 _ HC.out hN (by omega)).mono ?_
  rintro e w1 ⟨⟨x, hx, rfl⟩, hc1, ho1⟩
  have hx2 : x < 2 := by omega
  have c0 := (ho1.blk HG.out hne).cell_ints hx2
  have hx0 : (0 : Int) ≤ (x : Int) := by omega
  have hx1 : (x : Int) < 2 := by omega
  go_wp2
  go_ret
  exact ⟨⟨x, hx2, rfl⟩, hc1, ho1⟩
set_option maxHeartbeats 1000000 in
theorem cur_procs (B cb N : Nat) (w : World) (h : CurAt w B cb N) (hN : N ≤ 900000) :
    Calls Try.prog 57 #[.pointer (some ⟨cb, 0, none⟩)] w fun e w' => (∃ x : Nat, (1 ≤ x ∧ x ≤ 7) ∧ e = .returned (.int .i64 (x : Int))) ∧ CurAt w' B cb (N + 2) ∧ But cb w w' := by
  have HC := hide h
  clear h
  go_enter Try.func57, Try.ntmps57
  go_wp2_with fail
  refine (cur_one B cb N 40 _ HC.out (by omega) (by omega)).mono ?_
  rintro e w1 ⟨⟨b, rfl⟩, hc1, ho1⟩
  have hlt := hc1.lt
  cases b
  · have HC1 := hide hc1
    clear hc1
    go_wp2_with fail
    refine (cur_pick B cb (N + 1) 4 _ HC1.out (by omega) (by omega)).mono ?_
    rintro e w2 ⟨⟨x, hx, rfl⟩, hc2, ho2⟩
    have hx4 : x ≤ 3 := by omega
    go_wp2
    go_ret
    exact ⟨⟨1 + x, by omega, ret_int (by omega)⟩, hc2, ho1.trans ho2⟩
  · have hb2 := (Below.refl w1.heap.size w1).alloc (Nat.le_refl _) (.cells #[.int .i64 6, .int .i64 7] 3)
    have HC1 := hide (hc1.below hb2)
    have HB := hide (show Blk (w1.alloc (.cells #[.int .i64 6, .int .i64 7] 3)) w1.heap.size 2 (iv fun i => if i = 0 then 6 else 7) 3 from Blk.fresh w1 _ 2 _ _ rfl)
    have HO := hide (ho1.trans (But.of_below hb2))
    clear hc1 hb2
    go_wp2_with fail
    refine (cur_among B cb (N + 1) w1.heap.size (fun i => if i = 0 then 6 else 7) _ HC1.out (by omega) HB.out (by omega)).mono ?_
    rintro e w2 ⟨⟨x, hx, rfl⟩, hc2, ho2⟩
    go_wp2
    · go_ret
      exact ⟨⟨6, by omega, rfl⟩, hc2, HO.out.trans ho2⟩
    · go_ret
      exact ⟨⟨7, by omega, rfl⟩, hc2, HO.out.trans ho2⟩
end Go.Proofs.Ytlbcmlleoncddaa

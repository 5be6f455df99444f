/-
  LcaOf, IsAhead and NewerOf in both texts.
-/
import Derived.Test.YtbajiamkgffhkaaItC
import Derived.Test.YtbajiamkgffhkaaItF
namespace Go.Proofs.Ytbajiamkgffhkaa
open Go.RowKit M
open Clk (upd upd_same upd_other)
namespace M
theorem same_ex (a b : Nat → Im) : ∀ k : Nat, ∃ i, i ≤ k ∧ (∀ j, j < i → a j = b j) ∧ (i < k → a i ≠ b i)
  | 0 => ⟨0, Nat.le_refl _, fun j h => absurd h (by omega), fun h => absurd h (by omega)⟩
  | k + 1 => by
    obtain ⟨i, h1, h2, h3⟩ := same_ex a b k
    by_cases e : i < k
    · exact ⟨i, by omega, h2, fun _ => h3 e⟩
    · obtain rfl : i = k := by omega
      rcases Classical.em (a i = b i) with q | q
      · exact ⟨i + 1, by omega, fun j hj => by
          by_cases e : j = i
          · subst e; exact q
          · exact h2 j (by omega), fun h => absurd h (by omega)⟩
      · exact ⟨i, by omega, h2, fun _ => q⟩
theorem com_ex {n m : Nat} {a b : Nat → Im} (ha : Ris n a) (hb : Ris m b) : ∃ c, Com n a m b c := by
  obtain ⟨i, h1, h2, h3⟩ := same_ex a b (min n m)
  have hn : i ≤ n := by omega
  have hm : i ≤ m := by omega
  by_cases e : i < n ∧ i < m
  · have h4 := h3 (by omega)
    by_cases hv : (a i).v = (b i).v
    · exact ⟨_, com_part ha hb e.1 e.2 h2 hv (fun hu => h4 (Im.ext2 hu hv))⟩
    · exact ⟨_, com_diff ha hb hn hm h2 (fun _ _ => hv)⟩
  · exact ⟨_, com_diff ha hb hn hm h2 (fun x y => absurd ⟨x, y⟩ e)⟩
/-- What LcaOf tells. -/
def RL (n : Nat) (a : Nat → Im) (m : Nat) (b : Nat → Im) (c : Im) (ok : Bool) : Prop :=
  (GoodI n a ∧ GoodI m b ∧ Com n a m b c ∧ ok = decide (c.u > 0)) ∨ (¬ (GoodI n a ∧ GoodI m b) ∧ c = im0 ∧ ok = false)
theorem rl_ex (n : Nat) (a : Nat → Im) (m : Nat) (b : Nat → Im) : ∃ c ok, RL n a m b c ok := by
  by_cases h : GoodI n a ∧ GoodI m b
  · obtain ⟨c, hc⟩ := com_ex h.1.2 h.2.2
    exact ⟨c, _, .inl ⟨h.1, h.2, hc, rfl⟩⟩
  · exact ⟨im0, false, .inr ⟨h, rfl, rfl⟩⟩
/-- What IsAhead tells. -/
def RA (n : Nat) (a : Nat → Im) (m : Nat) (b : Nat → Im) (r ok : Bool) : Prop :=
  (GoodI n a ∧ GoodI m b ∧ (∃ c, Com n a m b c ∧ r = (c.u == ah a n)) ∧ ok = true) ∨ (¬ (GoodI n a ∧ GoodI m b) ∧ r = false ∧ ok = false)
theorem ra_ex (n : Nat) (a : Nat → Im) (m : Nat) (b : Nat → Im) : ∃ r ok, RA n a m b r ok := by
  by_cases h : GoodI n a ∧ GoodI m b
  · obtain ⟨c, hc⟩ := com_ex h.1.2 h.2.2
    exact ⟨_, _, .inl ⟨h.1, h.2, ⟨c, hc, rfl⟩, rfl⟩⟩
  · exact ⟨false, false, .inr ⟨h, rfl, rfl⟩⟩
/-- What NewerOf tells. -/
def nwR (n : Nat) (a : Nat → Im) (m : Nat) (b : Nat → Im) : Int := if (lst a n).v > (lst b m).v then 1 else if (lst b m).v > (lst a n).v then 2 else 0
end M
set_option maxRecDepth 20000 in
set_option maxHeartbeats 2000000 in
theorem impl_lcaOf (va vb : Value) (n m : Nat) (a b : Nat → Im) (c : Im) (ok : Bool) (w : World) (ha : ItemsOf w va n a) (hb : ItemsOf w vb m b) (hn : n ≤ 1048576) (hm : m ≤ 1048576) (hR : RL n a m b c ok) :
    Calls Try.prog 26 #[va, vb] w fun e w' => e = .returned (.tuple #[.agg #[.int .i64 c.u, .int .i64 c.v], .bool ok]) ∧ Below w.heap.size w w' := by
  have hd0 := (Below.refl w.heap.size w).alloc (Nat.le_refl _) (.cells #[.int .i64 0, .int .i64 0] 39)
  have HX := hide (Bx.new w im0)
  have HA := hide (ha.below hd0)
  have HB := hide (hb.below hd0)
  obtain ⟨aa, ca, rfl⟩ := ha.form
  obtain ⟨ab, cb, rfl⟩ := hb.form
  clear ha hb
  cases hg : decide (GoodI n a)
  · rcases hR with h | ⟨-, rfl, rfl⟩
    · exact absurd h.1 (of_decide_eq_false hg)
    · go_enter Try.func26, Try.ntmps26
      go_wp2_with fail
      refine (impl_goodI _ n a _ HA.out hn).mono ?_
      rintro e w1 ⟨rfl, hb⟩
      rw [hg]
      have hB := hd0.trans (hb.mono hd0.size)
      have hX := HX.out.down hb
      have x0 := hX.u
      have x1 := hX.v
      have y0 := hX.th 0
      have y1 := hX.th 1
      have hbw := (hB.setCell (p := ⟨w.heap.size, 0, none⟩) (Nat.le_refl _) (.int .i64 0)).setCell (p := ⟨w.heap.size, 1, none⟩) (Nat.le_refl _) (.int .i64 0)
      clear HA HB HX hX hb
      go_wp2
      exact bodyPost_ret (v := .tuple #[.agg #[.int .i64 0, .int .i64 0], .bool false]) (by simp [results, Try.results26, go_sem, x0, x1]) rfl ⟨rfl, hbw⟩
  cases hg2 : decide (GoodI m b)
  · rcases hR with h | ⟨-, rfl, rfl⟩
    · exact absurd h.2.1 (of_decide_eq_false hg2)
    · go_enter Try.func26, Try.ntmps26
      go_wp2_with fail
      refine (impl_goodI _ n a _ HA.out hn).mono ?_
      rintro e w1 ⟨rfl, hb⟩
      rw [hg]
      go_wp2_with fail
      refine (impl_goodI _ m b _ (HB.out.below hb) hm).mono ?_
      rintro e w2 ⟨rfl, hb2⟩
      rw [hg2]
      have hB1 := hb.trans (hb2.mono hb.size)
      have hB := hd0.trans (hB1.mono hd0.size)
      have hX := HX.out.down hB1
      have x0 := hX.u
      have x1 := hX.v
      have y0 := hX.th 0
      have y1 := hX.th 1
      have hbw := (hB.setCell (p := ⟨w.heap.size, 0, none⟩) (Nat.le_refl _) (.int .i64 0)).setCell (p := ⟨w.heap.size, 1, none⟩) (Nat.le_refl _) (.int .i64 0)
      clear HA HB HX hX hb hb2 hB1
      go_wp2
      exact bodyPost_ret (v := .tuple #[.agg #[.int .i64 0, .int .i64 0], .bool false]) (by simp [results, Try.results26, go_sem, x0, x1]) rfl ⟨rfl, hbw⟩
  · rcases hR with ⟨g1, g2, hc, hok⟩ | ⟨h, -, -⟩
    · have HC := hide hc
      go_enter Try.func26, Try.ntmps26
      go_wp2_with fail
      refine (impl_goodI _ n a _ HA.out hn).mono ?_
      rintro e w1 ⟨rfl, hb⟩
      rw [hg]
      go_wp2_with fail
      refine (impl_goodI _ m b _ (HB.out.below hb) hm).mono ?_
      rintro e w2 ⟨rfl, hb2⟩
      rw [hg2]
      have hB1 := hb.trans (hb2.mono hb.size)
      clear hb hb2
      go_wp2_with fail
      refine (impl_common _ _ n m a b _ (HA.out.below hB1) (HB.out.below hB1) hn hm g1.2 g2.2).mono ?_
      rintro e w3 ⟨⟨c', rfl, hc'⟩, hb3⟩
      obtain rfl : c' = c := hc'.uniq HC.out
      have hB2 := hB1.trans (hb3.mono hB1.size)
      have hB := hd0.trans (hB2.mono hd0.size)
      have hX := HX.out.down hB2
      have hlt := hX.lt
      have x0 := hX.u
      have x1 := hX.v
      have y0 := hX.th 0
      have y1 := hX.th 1
      have hbw := (((hB.alloc hB.size (.cells #[.int .i64 c'.u, .int .i64 c'.v] 39)).setCell (p := ⟨w.heap.size, 0, none⟩) (Nat.le_refl _) (.int .i64 c'.u)).setCell (p := ⟨w.heap.size, 1, none⟩) (Nat.le_refl _) (.int .i64 c'.v))
      have hbx := ((hB.setCell (p := ⟨w.heap.size, 0, none⟩) (Nat.le_refl _) (.int .i64 c'.u)).setCell (p := ⟨w.heap.size, 1, none⟩) (Nat.le_refl _) (.int .i64 c'.v)).alloc (by simp; exact hB.size) (.cells #[.int .i64 c'.u, .int .i64 c'.v] 39)
      have hne : w.heap.size ≠ w3.heap.size := by omega
      have hne2 : w3.heap.size ≠ w.heap.size := by omega
      have HO := hide hok
      clear HA HB HX hX hB1 hb3 hB2 hc hc' hok HC g1 g2
      rcases (show 0 < c'.u ∨ ¬ 0 < c'.u by omega) with hp | hp
      · have hp2 : decide (c'.u > 0) = true := decide_eq_true hp
        obtain rfl : ok = true := by rw [HO.out, hp2]
        clear HO
        go_wp2
        go_region
        go_wp2
        exact bodyPost_ret (v := .tuple #[.agg #[.int .i64 c'.u, .int .i64 c'.v], .bool true]) (by simp [results, Try.results26, go_sem, x0, x1, hlt]) rfl ⟨rfl, by first | exact ⟨hbw.os, hbw.tape, hbw.output, hbw.size, hbw.block⟩ | exact ⟨hbx.os, hbx.tape, hbx.output, hbx.size, hbx.block⟩⟩
      · have hp2 : decide (c'.u > 0) = false := decide_eq_false hp
        obtain rfl : ok = false := by rw [HO.out, hp2]
        clear HO
        go_wp2
        go_region
        go_wp2
        exact bodyPost_ret (v := .tuple #[.agg #[.int .i64 c'.u, .int .i64 c'.v], .bool false]) (by simp [results, Try.results26, go_sem, x0, x1, hlt]) rfl ⟨rfl, by first | exact ⟨hbw.os, hbw.tape, hbw.output, hbw.size, hbw.block⟩ | exact ⟨hbx.os, hbx.tape, hbx.output, hbx.size, hbx.block⟩⟩
    · exact absurd ⟨of_decide_eq_true hg, of_decide_eq_true hg2⟩ h
set_option maxRecDepth 20000 in
set_option maxHeartbeats 2000000 in
theorem spec_lcaOf (va vb : Value) (n m : Nat) (a b : Nat → Im) (c : Im) (ok : Bool) (w : World) (ha : ItemsOf w va n a) (hb : ItemsOf w vb m b) (hn : n ≤ 1048576) (hm : m ≤ 1048576) (hR : RL n a m b c ok) :
    Calls Try.prog 25 #[va, vb] w fun e w' => e = .returned (.tuple #[.agg #[.int .i64 c.u, .int .i64 c.v], .bool ok]) ∧ Below w.heap.size w w' := by
  have hd0 := (Below.refl w.heap.size w).alloc (Nat.le_refl _) (.cells #[.int .i64 0, .int .i64 0] 39)
  have HX := hide (Bx.new w im0)
  have HA := hide (ha.below hd0)
  have HB := hide (hb.below hd0)
  obtain ⟨aa, ca, rfl⟩ := ha.form
  obtain ⟨ab, cb, rfl⟩ := hb.form
  clear ha hb
  cases hg : decide (GoodI n a)
  · rcases hR with h | ⟨-, rfl, rfl⟩
    · exact absurd h.1 (of_decide_eq_false hg)
    · go_enter Try.func25, Try.ntmps25
      go_wp2_with fail
      refine (spec_goodI _ n a _ HA.out hn).mono ?_
      rintro e w1 ⟨rfl, hb⟩
      rw [hg]
      have hB := hd0.trans (hb.mono hd0.size)
      have hX := HX.out.down hb
      have x0 := hX.u
      have x1 := hX.v
      have y0 := hX.th 0
      have y1 := hX.th 1
      have hbw := (hB.setCell (p := ⟨w.heap.size, 0, none⟩) (Nat.le_refl _) (.int .i64 0)).setCell (p := ⟨w.heap.size, 1, none⟩) (Nat.le_refl _) (.int .i64 0)
      clear HA HB HX hX hb
      go_wp2
      exact bodyPost_ret (v := .tuple #[.agg #[.int .i64 0, .int .i64 0], .bool false]) (by simp [results, Try.results25, go_sem, x0, x1]) rfl ⟨rfl, hbw⟩
  cases hg2 : decide (GoodI m b)
  · rcases hR with h | ⟨-, rfl, rfl⟩
    · exact absurd h.2.1 (of_decide_eq_false hg2)
    · go_enter Try.func25, Try.ntmps25
      go_wp2_with fail
      refine (spec_goodI _ n a _ HA.out hn).mono ?_
      rintro e w1 ⟨rfl, hb⟩
      rw [hg]
      go_wp2_with fail
      refine (spec_goodI _ m b _ (HB.out.below hb) hm).mono ?_
      rintro e w2 ⟨rfl, hb2⟩
      rw [hg2]
      have hB1 := hb.trans (hb2.mono hb.size)
      have hB := hd0.trans (hB1.mono hd0.size)
      have hX := HX.out.down hB1
      have x0 := hX.u
      have x1 := hX.v
      have y0 := hX.th 0
      have y1 := hX.th 1
      have hbw := (hB.setCell (p := ⟨w.heap.size, 0, none⟩) (Nat.le_refl _) (.int .i64 0)).setCell (p := ⟨w.heap.size, 1, none⟩) (Nat.le_refl _) (.int .i64 0)
      clear HA HB HX hX hb hb2 hB1
      go_wp2
      exact bodyPost_ret (v := .tuple #[.agg #[.int .i64 0, .int .i64 0], .bool false]) (by simp [results, Try.results25, go_sem, x0, x1]) rfl ⟨rfl, hbw⟩
  · rcases hR with ⟨g1, g2, hc, hok⟩ | ⟨h, -, -⟩
    · have HC := hide hc
      go_enter Try.func25, Try.ntmps25
      go_wp2_with fail
      refine (spec_goodI _ n a _ HA.out hn).mono ?_
      rintro e w1 ⟨rfl, hb⟩
      rw [hg]
      go_wp2_with fail
      refine (spec_goodI _ m b _ (HB.out.below hb) hm).mono ?_
      rintro e w2 ⟨rfl, hb2⟩
      rw [hg2]
      have hB1 := hb.trans (hb2.mono hb.size)
      clear hb hb2
      go_wp2_with fail
      refine (spec_lca _ _ n m a b _ (HA.out.below hB1) (HB.out.below hB1) hn hm g1.2 g2.2).mono ?_
      rintro e w3 ⟨⟨r, rfl, hr⟩, hb3⟩
      obtain rfl : r = c.u := hr.uniq HC.out.1
      have hB2 := hB1.trans (hb3.mono hB1.size)
      have HO := hide hok
      have h0 := hr.1
      clear hB1 hb3 hr hc hok g1 g2
      rcases (show 0 < c.u ∨ c.u = 0 by omega) with hp | hp
      · have hp3 : (c.u == 0) = false := by simp; omega
        have hp2 : decide (c.u > 0) = true := decide_eq_true hp
        obtain rfl : ok = true := by rw [HO.out, hp2]
        have HE := hide (HC.out.2.2 hp)
        clear HO
        go_wp2_with fail
        refine (spec_at _ n a _ _ (HA.out.below hB2) hn).mono ?_
        rintro e w4 ⟨rfl, hb4⟩
        rw [← HE.out]
        have hB3 := hB2.trans (hb4.mono hB2.size)
        have hB := hd0.trans (hB3.mono hd0.size)
        have hX := HX.out.down hB3
        have x0 := hX.u
        have x1 := hX.v
        have y0 := hX.th 0
        have y1 := hX.th 1
        have hbw := (hB.setCell (p := ⟨w.heap.size, 0, none⟩) (Nat.le_refl _) (.int .i64 c.u)).setCell (p := ⟨w.heap.size, 1, none⟩) (Nat.le_refl _) (.int .i64 c.v)
        clear HA HB HX hX hb4 hB3 hB2 HC HE
        go_wp2
        exact bodyPost_ret (v := .tuple #[.agg #[.int .i64 c.u, .int .i64 c.v], .bool true]) (by simp [results, Try.results25, go_sem, x0, x1]) rfl ⟨rfl, hbw⟩
      · have hp3 : (c.u == 0) = true := by simp; omega
        obtain rfl : c = im0 := Im.ext2 hp (HC.out.2.1 hp)
        obtain rfl : ok = false := HO.out
        have hB := hd0.trans (hB2.mono hd0.size)
        have hX := HX.out.down hB2
        have x0 := hX.u
        have x1 := hX.v
        have y0 := hX.th 0
        have y1 := hX.th 1
        have hbw := (hB.setCell (p := ⟨w.heap.size, 0, none⟩) (Nat.le_refl _) (.int .i64 0)).setCell (p := ⟨w.heap.size, 1, none⟩) (Nat.le_refl _) (.int .i64 0)
        clear HA HB HX hX hB2 HC HO
        go_wp2
        exact bodyPost_ret (v := .tuple #[.agg #[.int .i64 0, .int .i64 0], .bool false]) (by simp [results, Try.results25, go_sem, x0, x1]) rfl ⟨rfl, hbw⟩
    · exact absurd ⟨of_decide_eq_true hg, of_decide_eq_true hg2⟩ h
end Go.Proofs.Ytbajiamkgffhkaa

/-
  The last common event of two good tellings: the program's way over the items, and the specification's, Id by Id.
-/
import Derived.Test.YtbajiamkgffhkaaItG
namespace Go.Proofs.Ytbajiamkgffhkaa
open Go.RowKit M
open Clk (upd upd_same upd_other)
namespace M
theorem Bx.set_other {w : World} {g : Nat} {x : Im} (h : Bx w g x) {g' : Nat} (hne : g ≠ g') (i : Nat) (v : Value) : Bx (w.setCell ⟨g', i, none⟩ v) g x := Blk.set_other h hne i v
theorem same_succ {a b : Nat → Im} {j : Nat} (h : ∀ q, q < j → a q = b q) (hu : (a j).u = (b j).u) (hv : (a j).v = (b j).v) : ∀ q, q < j + 1 → a q = b q := fun q hq => by
  by_cases e : q = j
  · subst e; exact Im.ext2 hu hv
  · exact h q (by omega)
end M
set_option maxRecDepth 20000 in
set_option maxHeartbeats 4000000 in
theorem impl_common (va vb : Value) (n m : Nat) (a b : Nat → Im) (w : World) (ha : ItemsOf w va n a) (hb : ItemsOf w vb m b) (hn : n ≤ 1048576) (hm : m ≤ 1048576) (ga : Ris n a) (gb : Ris m b) :
    Calls Try.prog 45 #[va, vb] w fun e w' => (∃ c : Im, e = .returned (.agg #[.int .i64 c.u, .int .i64 c.v]) ∧ Com n a m b c) ∧ Below w.heap.size w w' := by
  obtain ⟨aa, ca, rfl, hra⟩ := ha
  obtain ⟨ab, cb, rfl, hrb⟩ := hb
  have HRA := hide hra
  have HRB := hide hrb
  have HGA := hide ga
  have HGB := hide gb
  obtain ⟨k, hk, hkn, hkm, hkd⟩ : ∃ k : Nat, (if m < n then (m : Int) else (n : Int)) = (k : Int) ∧ k ≤ n ∧ k ≤ m ∧ (k = n ∨ k = m) := by
    by_cases h : m < n
    · exact ⟨m, if_pos h, by omega, Nat.le_refl _, .inr rfl⟩
    · exact ⟨n, if_neg h, Nat.le_refl _, by omega, .inl rfl⟩
  have HB0 := hide (Bx.new (w.alloc (.cells #[.int .i64 0, .int .i64 0] 39)) im0)
  have HX0 := hide ((Bx.new w im0).down ((Below.refl _ _).alloc (Nat.le_refl _) (.cells #[.int .i64 0, .int .i64 0] 39)))
  have hb0 := ((Below.refl w.heap.size w).alloc (Nat.le_refl _) (.cells #[.int .i64 0, .int .i64 0] 39)).alloc (by simp) (.cells #[.int .i64 0, .int .i64 0] 39)
  have hgs : (w.alloc (.cells #[.int .i64 0, .int .i64 0] 39)).heap.size = w.heap.size + 1 := by simp
  rw [hgs] at HB0
  have HKD := hide hkd
  clear hra hrb ga gb hgs hkd
  go_enter Try.func45, Try.ntmps45
  go_wp2
  go_loopw [12] (fun i wr => ∃ j : Nat, j ≤ k ∧ i = .int .i64 j ∧ Hid (Bx wr (w.heap.size + 1) (lst a j) ∧ Bx wr w.heap.size im0) ∧ Hid (∀ q, q < j → a q = b q) ∧ Below w.heap.size w wr) (fun i _ => k - (intOf i).toNat)
  case atStart => exact ⟨0, Nat.zero_le _, rfl, hide ⟨HB0.out, HX0.out⟩, hide (fun q h => absurd h (by omega)), hb0⟩
  case round =>
    obtain ⟨j, hj, rfl, HB, HE, hbw⟩ := hrel
    clear HB0 HX0 hb0
    by_cases hlt : j < k
    · obtain ⟨ba, oa, rfl, hba, hrow⟩ := HRA.out (by omega)
      obtain ⟨bb, ob, rfl, hbb, hrow2⟩ := HRB.out (by omega)
      have c0 := (hbw.cell (p := ⟨ba, oa + j * 2, none⟩) hba).trans (hrow j (by omega)).1
      have c1 := (hbw.cell (p := ⟨ba, oa + j * 2 + 1, none⟩) hba).trans (hrow j (by omega)).2
      have d0 := (hbw.cell (p := ⟨bb, ob + j * 2, none⟩) hbb).trans (hrow2 j (by omega)).1
      have d1 := (hbw.cell (p := ⟨bb, ob + j * 2 + 1, none⟩) hbb).trans (hrow2 j (by omega)).2
      have hi0 : (0 : Int) ≤ (j : Int) := by omega
      have hi1 : (j : Int) < (n : Int) := by omega
      have hi2 : (j : Int) < (m : Int) := by omega
      have hna : ba ≠ w.heap.size + 1 := by omega
      have hnb : bb ≠ w.heap.size + 1 := by omega
      have hna2 : ba ≠ w.heap.size := by omega
      have hnb2 : bb ≠ w.heap.size := by omega
      have e0 := HB.out.1.u
      have e1 := HB.out.1.v
      have f0 := HB.out.1.th 0
      have f1 := HB.out.1.th 1
      have x0 := HB.out.2.u
      have x1 := HB.out.2.v
      have y0 := HB.out.2.th 0
      have y1 := HB.out.2.th 1
      clear hrow hrow2 HRA HRB
      by_cases hvv : (a j).v = (b j).v
      · have hv2 : ((a j).v != (b j).v) = false := by simp [hvv]
        obtain ⟨mu, hmu, hmm⟩ : ∃ mu : Int, (if (b j).u < (a j).u then (b j).u else (a j).u) = mu ∧ mu = min (a j).u (b j).u := ⟨_, rfl, by split <;> omega⟩
        have HMM := hide hmm
        have HP := hide (HB.out.1.put ⟨mu, (a j).v⟩)
        have HQ := hide ((HB.out.2.set_other (g' := w.heap.size + 1) (by omega) 0 (.int .i64 mu)).set_other (g' := w.heap.size + 1) (by omega) 1 (.int .i64 (a j).v))
        have hbw2 := (hbw.setCell (p := ⟨w.heap.size + 1, 0, none⟩) (by simp) (.int .i64 mu)).setCell (p := ⟨w.heap.size + 1, 1, none⟩) (by simp) (.int .i64 (a j).v)
        by_cases huu : (a j).u = (b j).u
        · have hu2 : ((a j).u != (b j).u) = false := by simp [huu]
          have HE2 := hide (same_succ HE.out huu hvv)
          have HP2 := hide (show mu = (a j).u by rw [hmm]; omega)
          have HL := hide (show lst a (j + 1) = ⟨mu, (a j).v⟩ from Im.ext2 HP2.out.symm rfl)
          clear HE hmm HB HGA HGB HKD huu hvv HP2 HMM
          go_wp2
          go_big_quiet (fail)
          go_wp2
          go_region
          go_wp2
          go_big_quiet (fail)
          go_wp2
          exact ⟨⟨j + 1, by omega, by go_num, hide ⟨by rw [HL.out]; exact HP.out, HQ.out⟩, HE2, ⟨hbw2.os, hbw2.tape, hbw2.output, hbw2.size, hbw2.block⟩⟩, by simp [intOf]; omega⟩
        · have hu2 : ((a j).u != (b j).u) = true := by simp [huu]
          have HC := hide (show Com n a m b ⟨mu, (a j).v⟩ by rw [hmm]; exact com_part HGA.out HGB.out (by omega) (by omega) HE.out hvv huu)
          have hbw3 := (hbw2.setCell (p := ⟨w.heap.size, 0, none⟩) (Nat.le_refl _) (.int .i64 mu)).setCell (p := ⟨w.heap.size, 1, none⟩) (Nat.le_refl _) (.int .i64 (a j).v)
          clear HE hmm HB HGA HGB HKD huu hvv HMM HP HQ
          go_wp2
          go_big_quiet (fail)
          go_wp2
          go_region
          go_wp2
          go_big_quiet (fail)
          go_wp2
          exact bodyPost_ret (v := .agg #[.int .i64 mu, .int .i64 (a j).v]) (by simp [results, Try.results45, go_sem, x0, x1]) rfl ⟨⟨_, rfl, HC.out⟩, ⟨hbw3.os, hbw3.tape, hbw3.output, hbw3.size, hbw3.block⟩⟩
      · have hv2 : ((a j).v != (b j).v) = true := by simp [hvv]
        have HC := hide (com_diff HGA.out HGB.out (i := j) (by omega) (by omega) HE.out (fun _ _ => hvv))
        have hbw3 := (hbw.setCell (p := ⟨w.heap.size, 0, none⟩) (Nat.le_refl _) (.int .i64 (lst a j).u)).setCell (p := ⟨w.heap.size, 1, none⟩) (Nat.le_refl _) (.int .i64 (lst a j).v)
        clear HE HB HGA HGB HKD hvv
        generalize lst a j = y at *
        go_wp2
        go_big_quiet (fail)
        go_wp2
        exact bodyPost_ret (v := .agg #[.int .i64 y.u, .int .i64 y.v]) (by simp [results, Try.results45, go_sem, x0, x1]) rfl ⟨⟨y, rfl, HC.out⟩, ⟨hbw3.os, hbw3.tape, hbw3.output, hbw3.size, hbw3.block⟩⟩
    · obtain rfl : j = k := by omega
      have HC := hide (com_diff HGA.out HGB.out (i := j) (by omega) (by omega) HE.out (fun h1 h2 => by rcases HKD.out with q | q <;> omega))
      have hbw3 := (hbw.setCell (p := ⟨w.heap.size, 0, none⟩) (Nat.le_refl _) (.int .i64 (lst a j).u)).setCell (p := ⟨w.heap.size, 1, none⟩) (Nat.le_refl _) (.int .i64 (lst a j).v)
      have e0 := HB.out.1.u
      have e1 := HB.out.1.v
      have x0 := HB.out.2.u
      have x1 := HB.out.2.v
      have y0 := HB.out.2.th 0
      have y1 := HB.out.2.th 1
      clear HE HB HGA HGB HKD HRA HRB
      generalize lst a j = y at *
      go_wp2
      exact bodyPost_ret (v := .agg #[.int .i64 y.u, .int .i64 y.v]) (by simp [results, Try.results45, go_sem, x0, x1]) rfl ⟨⟨y, rfl, HC.out⟩, ⟨hbw3.os, hbw3.tape, hbw3.output, hbw3.size, hbw3.block⟩⟩
set_option maxRecDepth 20000 in
set_option maxHeartbeats 4000000 in
theorem spec_lca (va vb : Value) (n m : Nat) (a b : Nat → Im) (w : World) (ha : ItemsOf w va n a) (hb : ItemsOf w vb m b) (hn : n ≤ 1048576) (hm : m ≤ 1048576) (ga : Ris n a) (gb : Ris m b) :
    Calls Try.prog 44 #[va, vb] w fun e w' => (∃ r : Int, e = .returned (.int .i64 r) ∧ Lc n a m b r) ∧ Below w.heap.size w w' := by
  have HA := hide ha
  have HB := hide hb
  obtain ⟨aa, ca, rfl⟩ := ha.form
  obtain ⟨ab, cb, rfl⟩ := hb.form
  have h1000 := (ga.ah_le (Nat.le_refl n)).2
  have h1001 := (gb.ah_le (Nat.le_refl m)).2
  have h1002 := (ga.ah_le (Nat.le_refl n)).1
  have h1003 := (gb.ah_le (Nat.le_refl m)).1
  clear ha hb ga gb
  go_enter Try.func44, Try.ntmps44
  go_wp2
  go_loopw [5] (fun i wr => ∃ j : Nat, i = .int .i64 j ∧ (j : Int) ≤ ah a n ∧ (j : Int) ≤ ah b m ∧ Hid (∀ q : Int, 1 ≤ q → q ≤ (j : Int) → vA n a q = vA m b q) ∧ Below w.heap.size w wr) (fun i _ => 1000 - (intOf i).toNat)
  case atStart => exact ⟨0, rfl, h1002, h1003, hide (fun q h1 h2 => absurd h2 (by omega)), Below.refl _ _⟩
  case round =>
    obtain ⟨j, rfl, hja, hjb, HE, hbw⟩ := hrel
    by_cases h1 : (j : Int) < ah a n
    · by_cases h2 : (j : Int) < ah b m
      · by_cases h3 : vA n a ((j : Int) + 1) = vA m b ((j : Int) + 1)
        · have h4 : (vA n a ((j : Int) + 1) == vA m b ((j : Int) + 1)) = true := by simp [h3]
          have HE2 := hide (show ∀ q : Int, 1 ≤ q → q ≤ ((j + 1 : Nat) : Int) → vA n a q = vA m b q from fun q q1 q2 => by
            by_cases e : q = (j : Int) + 1
            · subst e; exact h3
            · exact HE.out q q1 (by omega))
          clear HE h3
          go_wp2_with fail
          refine (spec_last _ n a _ (HA.out.below hbw) hn).mono ?_
          rintro e w1 ⟨rfl, rfl⟩
          go_wp2_with fail
          refine (spec_last _ m b _ (HB.out.below hbw) hm).mono ?_
          rintro e w2 ⟨rfl, rfl⟩
          go_wp2_with fail
          refine (spec_at _ n a _ _ (HA.out.below hbw) hn).mono ?_
          rintro e w3 ⟨rfl, hb⟩
          have hbw3 := hbw.trans (hb.mono hbw.size)
          clear hb
          go_wp2_with fail
          refine (spec_at _ m b _ _ (HB.out.below hbw3) hm).mono ?_
          rintro e w4 ⟨rfl, hb⟩
          have hbw4 := hbw3.trans (hb.mono hbw3.size)
          clear hb hbw3
          go_wp2
          exact ⟨⟨j + 1, by go_num, by omega, by omega, HE2, hbw4⟩, by simp [intOf]; omega⟩
        · have h4 : (vA n a ((j : Int) + 1) == vA m b ((j : Int) + 1)) = false := by simp [h3]
          have HR := hide (show Lc n a m b (j : Int) from ⟨by omega, hja, hjb, HE.out, fun _ _ => h3⟩)
          clear HE h3
          go_wp2_with fail
          refine (spec_last _ n a _ (HA.out.below hbw) hn).mono ?_
          rintro e w1 ⟨rfl, rfl⟩
          go_wp2_with fail
          refine (spec_last _ m b _ (HB.out.below hbw) hm).mono ?_
          rintro e w2 ⟨rfl, rfl⟩
          go_wp2_with fail
          refine (spec_at _ n a _ _ (HA.out.below hbw) hn).mono ?_
          rintro e w3 ⟨rfl, hb⟩
          have hbw3 := hbw.trans (hb.mono hbw.size)
          clear hb
          go_wp2_with fail
          refine (spec_at _ m b _ _ (HB.out.below hbw3) hm).mono ?_
          rintro e w4 ⟨rfl, hb⟩
          have hbw4 := hbw3.trans (hb.mono hbw3.size)
          clear hb hbw3
          go_wp2
          go_ret
          exact ⟨⟨_, rfl, HR.out⟩, hbw4⟩
      · have HR := hide (show Lc n a m b (j : Int) from ⟨by omega, hja, hjb, HE.out, fun _ h => absurd h h2⟩)
        have h5 : ¬ ah b m > (j : Int) := by omega
        clear HE
        go_wp2_with fail
        refine (spec_last _ n a _ (HA.out.below hbw) hn).mono ?_
        rintro e w1 ⟨rfl, rfl⟩
        go_wp2_with fail
        refine (spec_last _ m b _ (HB.out.below hbw) hm).mono ?_
        rintro e w2 ⟨rfl, rfl⟩
        go_wp2
        go_ret
        exact ⟨⟨_, rfl, HR.out⟩, hbw⟩
    · have HR := hide (show Lc n a m b (j : Int) from ⟨by omega, hja, hjb, HE.out, fun h => absurd h h1⟩)
      clear HE
      go_wp2_with fail
      refine (spec_last _ n a _ (HA.out.below hbw) hn).mono ?_
      rintro e w1 ⟨rfl, rfl⟩
      go_wp2
      go_ret
      exact ⟨⟨_, rfl, HR.out⟩, hbw⟩
end Go.Proofs.Ytbajiamkgffhkaa

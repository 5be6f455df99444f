/-
  The last common event of two good tellings: the program's way over the items, and the specification's, Id by Id.
-/
import Derived.Test.YtbajiamkgffhkaaDoorItG
namespace Go.Proofs.YtbajiamkgffhkaaDoor
open Go.RowKit M
open Clk (upd upd_same upd_other)
namespace M
theorem Bx.set_other {w : World} {g : Nat} {x : Im} (h : Bx w g x) {g' : Nat} (hne : g ≠ g') (i : Nat) (v : Value) : Bx (w.setCell ⟨g', i, none⟩ v) g x := Blk.set_other h hne i v
theorem same_succ {a b : Nat → Im} {j : Nat} (h : ∀ q, q < j → a q = b q) (hu : (a j).u = (b j).u) (hv : (a j).v = (b j).v) : ∀ q, q < j + 1 → a q = b q := fun q hq => by
  by_cases e : q = j
  · subst e; exact Im.ext2 hu hv
  · exact h q (by omega)
end M
set_option maxRecDepth 20000 in
set_option maxHeartbeats 4000000 in
theorem impl_common (va vb : Value) (n m : Nat) (a b : Nat → Im) (w : World) (ha : ItemsOf w va n a) (hb : ItemsOf w vb m b) (hn : n ≤ 1048576) (hm : m ≤ 1048576) (ga : Ris n a) (gb : Ris m b) :
    Calls Tryd.prog 42 #[va, vb] w fun e w' => (∃ c : Im, e = .returned (.agg #[.int .i64 c.u, .int .i64 c.v]) ∧ Com n a m b c) ∧ Below w.heap.size w w' := by
  obtain ⟨aa, ca, rfl, hra⟩ := ha
  obtain ⟨ab, cb, rfl, hrb⟩ := hb
  have HRA := hide hra
  have HRB := hide hrb
  have HGA := hide ga
  have HGB := hide gb
  obtain ⟨k, hk, hkn, hkm, hkd⟩ : ∃ k : Nat, (if m < n then (m : Int) else (n : Int)) = (k : Int) ∧ k ≤ n ∧ k ≤ m ∧ (k = n ∨ k = m) := by
    by_cases h : m < n
    · exact ⟨m, if_pos h, by omega, Nat.le_refl _, .inr rfl⟩
    · exact ⟨n, if_neg h, Nat.le_refl _, by omega, .inl rfl⟩
  have HB0 := hide (Bx.new (w.alloc (.cells #[.int .i64 0, .int .i64 0] 57)) im0)
  have HX0 := hide ((Bx.new w im0).down ((Below.refl _ _).alloc (Nat.le_refl _) (.cells #[.int .i64 0, .int .i64 0] 57)))
  have hb0 := ((Below.refl w.heap.size w).alloc (Nat.le_refl _) (.cells #[.int .i64 0, .int .i64 0] 57)).alloc (by simp) (.cells #[.int .i64 0, .int .i64 0] 57)
  have hgs : (w.alloc (.cells #[.int .i64 0, .int .i64 0] 57)).heap.size = w.heap.size + 1 := by simp
  rw [hgs] at HB0
  have HKD := hide hkd
  clear hra hrb ga gb hgs hkd
  go_enter Tryd.func42, Tryd.ntmps42
  go_wp2
  go_loopw [12] (fun i wr => ∃ j : Nat, j ≤ k ∧ i = .int .i64 j ∧ Hid (Bx wr (w.heap.size + 1) (lst a j) ∧ Bx wr w.heap.size im0) ∧ Hid (∀ q, q < j → a q = b q) ∧ Below w.heap.size w wr) (fun i _ => k - (intOf i).toNat)
  case atStart => exact ⟨0, Nat.zero_le _, rfl, hide ⟨HB0.out, HX0.out⟩, hide (fun q h => absurd h (by omega)), hb0⟩
  case round =>
    obtain ⟨j, hj, rfl, HB, HE, hbw⟩ := hrel
    clear HB0 HX0 hb0
    by_cases hlt : j < k
    · obtain ⟨ba, oa, rfl, hba, hrow⟩ := HRA.out (by omega)
      obtain ⟨bb, ob, rfl, hbb, hrow2⟩ := HRB.out (by omega)
      have c0 := (hbw.cell (p := ⟨ba, oa + j * 2, none⟩) hba).trans (hrow j (by omega)).1
      have c1 := (hbw.cell (p := ⟨ba, oa + j * 2 + 1, none⟩) hba).trans (hrow j (by omega)).2
      have d0 := (hbw.cell (p := ⟨bb, ob + j * 2, none⟩) hbb).trans (hrow2 j (by omega)).1
      have d1 := (hbw.cell (p := ⟨bb, ob + j * 2 + 1, none⟩) hbb).trans (hrow2 j (by omega)).2
      have hi0 : (0 : Int) ≤ (j : Int) := by omega
      have hi1 : (j : Int) < (n : Int) := by omega
      have hi2 : (j : Int) < (m : Int) := by omega
      have hna : ba ≠ w.heap.size + 1 := by omega
      have hnb : bb ≠ w.heap.size + 1 := by omega
      have hna2 : ba ≠ w.heap.size := by omega
      have hnb2 : bb ≠ w.heap.size := by omega
      have e0 := HB.out.1.u
      have e1 := HB.out.1.v
      have f0 := HB.out.1.th 0
      have f1 := HB.out.1.th 1
      have x0 := HB.out.2.u
      have x1 := HB.out.2.v
      have y0 := HB.out.2.th 0
      have y1 := HB.out.2.th 1
      clear hrow hrow2 HRA HRB
      by_cases hvv : (a j).v = (b j).v
      · have hv2 : ((a j).v != (b j).v) = false := by simp [hvv]
        obtain ⟨mu, hmu, hmm⟩ : ∃ mu : Int, (if (b j).u < (a j).u then (b j).u else (a j).u) = mu ∧ mu = min (a j).u (b j).u := ⟨_, rfl, by split <;> omega⟩
        have HMM := hide hmm
        have HP := hide (HB.out.1.put ⟨mu, (a j).v⟩)
        have HQ := hide ((HB.out.2.set_other (g' := w.heap.size + 1) (by omega) 0 (.int .i64 mu)).set_other (g' := w.heap.size + 1) (by omega) 1 (.int .i64 (a j).v))
        have hbw2 := (hbw.setCell (p := ⟨w.heap.size + 1, 0, none⟩) (by simp) (.int .i64 mu)).setCell (p := ⟨w.heap.size + 1, 1, none⟩) (by simp) (.int .i64 (a j).v)
        by_cases huu : (a j).u = (b j).u
        · have hu2 : ((a j).u != (b j).u) = false := by simp [huu]
          have HE2 := hide (same_succ HE.out huu hvv)
          have HP2 := hide (show mu = (a j).u by rw [hmm]; omega)
          have HL := hide (show lst a (j + 1) = ⟨mu, (a j).v⟩ from Im.ext2 HP2.out.symm rfl)
          clear HE hmm HB HGA HGB HKD huu hvv HP2 HMM
          go_wp2
          go_big_quiet (fail)
          go_wp2
          go_region
          go_wp2
          go_big_quiet (fail)
          go_wp2
          exact ⟨⟨j + 1, by omega, by go_num, hide ⟨by rw [HL.out]; exact HP.out, HQ.out⟩, HE2, ⟨hbw2.os, hbw2.tape, hbw2.output, hbw2.size, hbw2.block⟩⟩, by simp [intOf]; omega⟩
        · have hu2 : ((a j).u != (b j).u) = true := by simp [huu]
          have HC := hide (show Com n a m b ⟨mu, (a j).v⟩ by rw [hmm]; exact com_part HGA.out HGB.out (by omega) (by omega) HE.out hvv huu)
          have hbw3 := (hbw2.setCell (p := ⟨w.heap.size, 0, none⟩) (Nat.le_refl _) (.int .i64 mu)).setCell (p := ⟨w.heap.size, 1, none⟩) (Nat.le_refl _) (.int .i64 (a j).v)
          clear HE hmm HB HGA HGB HKD huu hvv HMM HP HQ
          go_wp2
          go_big_quiet (fail)
          go_wp2
          go_region
          go_wp2
          go_big_quiet (fail)
          go_wp2
          exact bodyPost_ret (v := .agg #[.int .i64 mu, .int .i64 (a j).v]) (by simp [results, Tryd.results42, go_sem, x0, x1]) rfl ⟨⟨_, rfl, HC.out⟩, ⟨hbw3.os, hbw3.tape, hbw3.output, hbw3.size, hbw3.block⟩⟩
      · have hv2 : ((a j).v != (b j).v) = true := by simp [hvv]
        have HC := hide (com_diff HGA.out HGB.out (i := j) (by omega) (by omega) HE.out (fun _ _ => hvv))
        have hbw3 := (hbw.setCell (p := ⟨w.heap.size, 0, none⟩) (Nat.le_refl _) (.int .i64 (lst a j).u)).setCell (p := ⟨w.heap.size, 1, none⟩) (Nat.le_refl _) (.int .i64 (lst a j).v)
        clear HE HB HGA HGB HKD hvv
        generalize lst a j = y at *
        go_wp2
        go_big_quiet (fail)
        go_wp2
        exact bodyPost_ret (v := .agg #[.int .i64 y.u, .int .i64 y.v]) (by simp [results, Tryd.results42, go_sem, x0, x1]) rfl ⟨⟨y, rfl, HC.out⟩, ⟨hbw3.os, hbw3.tape, hbw3.output, hbw3.size, hbw3.block⟩⟩
    · obtain rfl : j = k := by omega
      have HC := hide (com_diff HGA.out HGB.out (i := j) (by omega) (by omega) HE.out (fun h1 h2 => by rcases HKD.out with q | q <;> omega))
      have hbw3 := (hbw.setCell (p := ⟨w.heap.size, 0, none⟩) (Nat.le_refl _) (.int .i64 (lst a j).u)).setCell (p := ⟨w.heap.size, 1, none⟩) (Nat.le_refl _) (.int .i64 (lst a j).v)
      have e0 := HB.out.1.u
      have e1 := HB.out.1.v
      have x0 := HB.out.2.u
      have x1 := HB.out.2.v
      have y0 := HB.out.2.th 0
      have y1 := HB.out.2.th 1
      clear HE HB HGA HGB HKD HRA HRB
      generalize lst a j = y at *
      go_wp2
      exact bodyPost_ret (v := .agg #[.int .i64 y.u, .int .i64 y.v]) (by simp [results, Tryd.results42, go_sem, x0, x1]) rfl ⟨⟨y, rfl, HC.out⟩, ⟨hbw3.os, hbw3.tape, hbw3.output, hbw3.size, hbw3.block⟩⟩
end Go.Proofs.YtbajiamkgffhkaaDoor

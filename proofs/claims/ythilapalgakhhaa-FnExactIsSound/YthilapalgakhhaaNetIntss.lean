/-
  The law's helpers on slices of slices of numbers: held against one another, marked, found held.
-/
import Derived.Test.YthilapalgakhhaaNetMarks
import Derived.Test.YthilapalgakhhaaAns
import Derived.Test.YthilapalgakhhaaNetAid3
import Derived.Lib.QuietBelow
import Derived.BigQuiet
namespace Go.Proofs.Ythilapalgakhhaa
open Go.RowKit M
open Clk (upd upd_same upd_other)
open Go.Sort (grow)
namespace M
theorem AnsV.rng {w w' : World} {B m k lo hi : Nat} {r : Value} {f : Nat → Nat → Int} (h : AnsV w B r m k f) (ho : Rng lo hi w w') (hB : hi ≤ B) : AnsV w' B r m k f := by
  rcases h with h | ⟨b, cap, gs, hr, hBb, hk, hg, hd⟩
  · exact .inl h
  · exact .inr ⟨b, cap, gs, hr, hBb, ho.blk hk (.inr (by omega)), fun i hi => ⟨(hg i hi).1, ho.blk (hg i hi).2 (.inr (by have := (hg i hi).1; omega))⟩, hd⟩
end M
set_option maxHeartbeats 1000000 in
theorem eq_intss (v u : Value) (m k : Nat) (f : Nat → Nat → Int) (w : World) (hv : IntssOf w v m k f) (hu : IntssOf w u m k f) (hm : m ≤ 1048576) (hk : k ≤ 1048576) :
    Calls Try.prog 31 #[v, u] w fun e w' => e = .returned (.bool true) ∧ Below w.heap.size w w' := by
  have HV := hide hv
  have HU := hide hu
  obtain ⟨a, cap, rfl⟩ := hv.form
  obtain ⟨a2, cap2, rfl⟩ := hu.form
  clear hv hu
  go_enter Try.func31, Try.ntmps31
  go_wp2
  go_loopw [5] (fun i wr => ∃ j : Nat, j ≤ m ∧ i = .int .i64 j ∧ Below w.heap.size w wr) (fun i _ => m - (intOf i).toNat)
  case atStart => exact ⟨0, Nat.zero_le _, rfl, Below.refl _ _⟩
  case round =>
    obtain ⟨j, hj, rfl, hbw⟩ := hrel
    by_cases hlt : j < m
    · obtain ⟨_, _, ev, hr⟩ := HV.out.below hbw
      obtain ⟨_, _, eu, hr2⟩ := HU.out.below hbw
      obtain ⟨b, off, hb0, hb, hrow⟩ := hr (by omega)
      obtain ⟨b2, off2, hb20, hb2, hrow2⟩ := hr2 (by omega)
      obtain ⟨rfl, -⟩ : a = some ⟨b, off, none⟩ ∧ True := by refine ⟨?_, trivial⟩; rw [← hb0]; simp only [Value.slice.injEq] at ev; exact ev.1
      obtain ⟨rfl, -⟩ : a2 = some ⟨b2, off2, none⟩ ∧ True := by refine ⟨?_, trivial⟩; rw [← hb20]; simp only [Value.slice.injEq] at eu; exact eu.1
      obtain ⟨r, hc, hI⟩ := hrow j hlt
      obtain ⟨r2, hc2, hI2⟩ := hrow2 j hlt
      obtain ⟨x1, x2, rfl⟩ := hI.form
      obtain ⟨y1, y2, rfl⟩ := hI2.form
      have k0 := cell_regrown hc
      have k1 := cell_regrown hc2
      have hi0 : (0 : Int) ≤ (j : Int) := by omega
      have hi1 : (j : Int) < (m : Int) := by omega
      have HE := hide (show ∀ d os, Calls Try.prog 21 #[.slice x1 k x2, .slice y1 k y2] (grow (redrawn wr d) os) fun e w'' => e = .returned (.bool true) ∧ ∃ p : Regrown, w'' = grow (redrawn wr p.d) p.os from fun d os => Calls.regrown_of (eq_ints _ _ k (f j) _ (hI.below (below_regrown wr d os)) (hI2.below (below_regrown wr d os)) hk))
      clear hrow hrow2 hr hr2 hI hI2 hc hc2 ev eu hb0 hb20
      go_wp2
      refine wp_region_quiet_below (by kernel_rfl) (by kernel_rfl) ?_
      repeat (go_big_quiet_step (exact HE.out _ _))
      refine wpQuiet_nil ?_
      intro _ hw'
      obtain ⟨⟨dq, osq⟩, hw''⟩ := hw'
      subst hw''
      have hbw2 := hbw.trans ((below_regrown wr dq osq).mono hbw.size)
      go_wp2
      go_roundw
      case rel => exact ⟨j + 1, by omega, by go_num, hbw2⟩
      case measure => simp [intOf]; omega
    · go_wp2
      go_ret
      exact ⟨rfl, hbw⟩
namespace M
/-- The marks of row i. -/
def mk2 (k0 k : Nat) : Nat → Nat → Int := fun i => mk1 (k0 + i * k)
end M
set_option maxHeartbeats 1000000 in
theorem mark_intss (B m k k0 : Nat) (r : Value) (f : Nat → Nat → Int) (w : World) (h : AnsV w B r m k f) (hm : m ≤ 400) (hk : k ≤ 8) (hk0 : k0 ≤ 1000) :
    Calls Try.prog 32 #[r, .int .i64 (k0 : Nat)] w fun e w' => e = .returned (.int .i64 ((k0 + m * k : Nat) : Int)) ∧ AnsV w' B r m k (mk2 k0 k) ∧ Below B w w' ∧ w'.heap.size = w.heap.size := by
  rcases h with ⟨rfl, rfl⟩ | ⟨b, cap, gs, rfl, hB, hb, hgs, hd⟩
  · go_enter Try.func32, Try.ntmps32
    go_wp2
    refine wp_loop_rounds 1 ?_; rw [rounds_succ]
    go_wp2
    go_ret
    exact ⟨ret_int (by simp), .inl ⟨rfl, rfl⟩, Below.refl _ _, rfl⟩
  · have HB := hide hb
    have HGS := hide hgs
    have HD := hide hd
    clear hb hgs hd
    go_enter Try.func32, Try.ntmps32
    go_wp2
    go_loopw [1, 5] (fun x i wr => ∃ j : Nat, j ≤ m ∧ i = .int .i64 j ∧ x = .int .i64 ((k0 + j * k : Nat) : Int) ∧ Hid (Blk wr b m (rowsV gs k) 33 ∧ (∀ i, i < m → Blk wr (gs i) k (iv (if i < j then mk2 k0 k i else f i)) 3)) ∧ Below B w wr ∧ wr.heap.size = w.heap.size) (fun _ i _ => m - (intOf i).toNat)
    case atStart => exact ⟨0, Nat.zero_le _, rfl, by simp, hide ⟨HB.out, fun i hi => (HGS.out i hi).2⟩, Below.refl _ _, rfl⟩
    case round =>
      obtain ⟨j, hj, rfl, rfl, HA, hbw, hsz⟩ := hrel
      have HSZ := hide hsz
      clear hsz
      have hjk : j * k ≤ 3200 := by have := Nat.mul_le_mul (show j ≤ 400 by omega) hk; omega
      by_cases hlt : j < m
      · have c0 := HA.out.1.cell hlt
        have hgj := HA.out.2 j hlt
        rw [if_neg (by omega)] at hgj
        have HJ := hide hgj
        have hBg := (HGS.out j hlt).1
        have hne : b ≠ gs j := fun e => by
          have h1 := HA.out.1
          have h2 := hgj
          unfold Blk at h1 h2
          rw [e, h2] at h1
          simp only [Option.some.injEq, Obj.cells.injEq] at h1
          exact absurd h1.2.1 (by decide)
        clear hgj
        go_wp2_with fail
        refine (mark_ints (gs j) k k (k0 + j * k) (f j) _ HJ.out (by omega) (by omega)).mono ?_
        rintro e w2 ⟨rfl, hk2, ho⟩
        have HA2 := hide (show Blk w2 b m (rowsV gs k) 33 ∧ (∀ i, i < m → Blk w2 (gs i) k (iv (if i < j + 1 then mk2 k0 k i else f i)) 3) from ⟨ho.blk HA.out.1 hne, fun i hi => by
          by_cases he : i = j
          · subst he; rw [if_pos (by omega)]; exact hk2
          · have h0 := ho.blk (HA.out.2 i hi) (HD.out i j hi hlt he)
            by_cases h2 : i < j
            · rw [if_pos (by omega)]; rw [if_pos h2] at h0; exact h0
            · rw [if_neg (by omega)]; rw [if_neg h2] at h0; exact h0⟩)
        have hbw2 := hbw.trans (ho.below hBg)
        have HSZ2 := hide (ho.size.trans HSZ.out)
        have hstep : (j + 1) * k = j * k + k := by rw [Nat.add_mul, Nat.one_mul]
        have HST := hide hstep
        clear ho hk2 HA HJ HSZ c0 hstep
        go_wp2
        go_roundw
        case rel => exact ⟨j + 1, by omega, by go_num, by rw [HST.out]; go_num, HA2, hbw2, HSZ2.out⟩
        case measure => simp [intOf]; omega
      · obtain rfl : j = m := by omega
        have HF := hide (show AnsV wr B (.slice (some ⟨b, 0, none⟩) j cap) j k (mk2 k0 k) from .inr ⟨b, cap, gs, rfl, hB, HA.out.1, fun i hi => ⟨(HGS.out i hi).1, by have := HA.out.2 i hi; rw [if_pos hi] at this; exact this⟩, HD.out⟩)
        clear HA HB HGS HD
        go_wp2
        go_ret
        exact ⟨rfl, HF.out, hbw, HSZ.out⟩
set_option maxHeartbeats 1000000 in
theorem held_intss (v : Value) (m k k0 : Nat) (w : World) (hv : IntssOf w v m k (mk2 k0 k)) (hm : m ≤ 400) (hk : k ≤ 8) (hk0 : k0 ≤ 1000) :
    Calls Try.prog 33 #[v, .int .i64 (k0 : Nat)] w fun e w' => e = .returned (.int .i64 ((k0 + m * k : Nat) : Int)) ∧ w' = w := by
  obtain ⟨a, cap, rfl, hr⟩ := hv
  have HR := hide hr
  clear hr
  go_enter Try.func33, Try.ntmps33
  go_wp2
  go_loop [1, 5] (fun x i => ∃ j : Nat, j ≤ m ∧ i = .int .i64 j ∧ x = .int .i64 ((k0 + j * k : Nat) : Int)) (fun _ i => m - (intOf i).toNat)
  case atStart => exact ⟨0, Nat.zero_le _, rfl, by simp⟩
  case round =>
    obtain ⟨j, hj, rfl, rfl⟩ := hrel
    have hjk : j * k ≤ 3200 := by have := Nat.mul_le_mul (show j ≤ 400 by omega) hk; omega
    by_cases hlt : j < m
    · obtain ⟨b, off, rfl, hb, hrow⟩ := HR.out (by omega)
      obtain ⟨r, hc, hI⟩ := hrow j hlt
      obtain ⟨x1, x2, rfl⟩ := hI.form
      have HI := hide hI
      have HST := hide (show (j + 1) * k = j * k + k by rw [Nat.add_mul, Nat.one_mul])
      clear HR hrow hI
      go_wp2_with fail
      refine (held_ints _ k (k0 + j * k) _ HI.out (by omega) (by omega)).mono ?_
      rintro e w2 ⟨rfl, rfl⟩
      have hnn : ¬ (((k0 + j * k + k : Nat) : Int) < 0) := by omega
      go_wp2
      go_round
      case rel => exact ⟨j + 1, by omega, by go_num, by rw [HST.out]; go_num⟩
      case measure => simp [intOf]; omega
    · obtain rfl : j = m := by omega
      clear HR
      go_wp2
      go_ret
      exact ⟨rfl, rfl⟩
end Go.Proofs.Ythilapalgakhhaa

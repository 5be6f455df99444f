/-
  The number of some bytes; a text that is spoilt; a text with a frame ahead, drawn.
-/
import Derived.Test.YtoelclgpmjecmaaFrC
namespace Go.Proofs.Ytoelclgpmjecmaa
open Go.RowKit M
namespace M
def nf (f : Nat → Nat) : Nat → Nat
  | 0 => 0
  | k + 1 => (31 * nf f k + f k) % 1000003
theorem nf_lt (f : Nat → Nat) (k : Nat) : nf f k < 1000003 := by
  cases k
  · exact Nat.succ_pos _
  · exact Nat.mod_lt _ (by omega)
theorem nf_succ (f : Nat → Nat) (k : Nat) : nf f (k + 1) = (31 * nf f k + f k) % 1000003 := rfl
end M
set_option maxHeartbeats 1000000 in
theorem num_of (v : Value) (n : Nat) (f : Nat → Nat) (w : World) (hv : OctetsOf w v n f) (hn : n ≤ 1048576) :
    Calls Try.prog 14 #[v] w fun e w' => e = .returned (.int .i64 (nf f n : Int)) ∧ w' = w := by
  obtain ⟨a, cap, rfl, hf, hr⟩ := hv
  have HR := hide hr
  have HF := hide hf
  clear hr hf
  go_enter Try.func14, Try.ntmps14
  go_wp2
  go_loop [3, 8] (fun x i => ∃ k y : Nat, k ≤ n ∧ i = .int .i64 k ∧ x = .int .i64 y ∧ y < 1000003 ∧ Hid (y = nf f k)) (fun _ i => n - (intOf i).toNat)
  case atStart => exact ⟨0, 0, Nat.zero_le _, rfl, rfl, by decide, hide rfl⟩
  case round =>
    obtain ⟨k, y, hk, rfl, rfl, hy, HE⟩ := hrel
    by_cases hlt : k < n
    · obtain ⟨b, off, rfl, hb, hrow⟩ := HR.out (by omega)
      have c0 := hrow k hlt
      have hx := HF.out k hlt
      have hi0 : (0 : Int) ≤ (k : Int) := by omega
      have hi1 : (k : Int) < (n : Int) := by omega
      have HN := hide (show (31 * y + f k) % 1000003 = nf f (k + 1) by rw [nf_succ, HE.out])
      have hq : (31 * (y : Int) + (f k : Int)).tmod 1000003 = (((31 * y + f k) % 1000003 : Nat) : Int) := by rw [Int.tmod_eq_emod_of_nonneg (by omega)]; omega
      have hl2 : (31 * y + f k) % 1000003 < 1000003 := Nat.mod_lt _ (by omega)
      clear hrow HR HF HE
      generalize f k = z at *
      go_wp2
      go_round
      case rel => exact ⟨k + 1, (31 * y + z) % 1000003, by omega, by go_num, by go_num, by omega, HN⟩
      case measure => simp [intOf]; omega
    · obtain rfl : k = n := by omega
      go_wp2
      go_ret
      exact ⟨ret_int (by rw [HE.out]), rfl⟩
theorem slice_lo (s : ByteArray) (i : Nat) (h : i ≤ s.size) (w : World) : (Instr.slice 9 (.string s) (some (.int .i64 (i : Int))) none none).run Try.prog w = .ok (.string (s.extract i s.size)) w := by
  have h := run_slice_string_l (P := Try.prog) (w := w) (t := 9) (s := s) Try.underlying9 .i64 (i : Int) (by omega) (by omega)
  rw [h]; congr 3
theorem slice_hi (s : ByteArray) (i : Nat) (h : i ≤ s.size) (w : World) : (Instr.slice 9 (.string s) none (some (.int .i64 (i : Int))) none).run Try.prog w = .ok (.string (s.extract 0 i)) w := by
  have h := run_slice_string_h (P := Try.prog) (w := w) (t := 9) (s := s) Try.underlying9 .i64 (i : Int) (by omega) (by omega)
  rw [h]; congr 3
end Go.Proofs.Ytoelclgpmjecmaa

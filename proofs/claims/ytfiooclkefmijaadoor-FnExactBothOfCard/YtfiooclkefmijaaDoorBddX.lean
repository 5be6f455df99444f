/-
  TableOf of both texts: a byte for each number of bits; and its law.
-/
import Derived.Test.YtfiooclkefmijaaDoorBddW
namespace Go.Proofs.YtfiooclkefmijaaDoor
open Go.RowKit M
open Clk (upd upd_same upd_other)
open Bdd (formT)
namespace M
open Bdd
/-- A table's bytes. -/
def tby (x : T) (i : Nat) : Int := if x.getLsbD i then 49 else 48
def tbn (x : T) (n : Nat) : Nat → Value := fun i => .int .u8 (if i < n then tby x i else 0)
theorem tbn_zero (x : T) : tbn x 0 = fun _ => .int .u8 0 := by funext i; simp [tbn]
theorem tbn_succ (x : T) (n : Nat) {c : Int} (h : tby x n = c) : upd (tbn x n) n (.int .u8 c) = tbn x (n + 1) := by
  funext i; unfold upd tbn
  by_cases hi : i = n
  · subst hi; simp [h]
  · rw [if_neg hi]
    by_cases h2 : i < n
    · rw [if_pos h2, if_pos (by omega)]
    · rw [if_neg h2, if_neg (by omega)]
def tabS (x : T) : ByteArray := strOfNums ((List.range 64).map (tby x))
theorem shr_at (x : T) (n : Nat) (h : n < 64) (k : IntKind) : Op.shift .shr .u64 (tn x) k (n : Int) = pure (uv (x >>> n)) := by
  rw [shift_shr .u64 k (tn x) (n : Int) (by omega) (by simp only [IntKind.bits]; omega)]
  show pure (Value.int .u64 _) = pure (Value.int .u64 (tn (x >>> n)))
  have e : tn x / 2 ^ (n : Int).toNat = tn (x >>> n) := u_shr n _ (by simp) x
  rw [e]
theorem low_bit (x : T) (n : Nat) : bits .and .u64 (tn (x >>> n)) 1 = if x.getLsbD n then 1 else 0 := by
  have e : bits .and .u64 (tn (x >>> n)) 1 = tn ((x >>> n) &&& 1#64) := u_and _ 1#64
  rw [e]
  have : (x >>> n) &&& 1#64 = if x.getLsbD n then 1#64 else 0#64 := by
    apply t_ext
    intro i hi
    rw [BitVec.getLsbD_and, BitVec.getLsbD_ushiftRight]
    by_cases h0 : i = 0
    · subst h0
      cases x.getLsbD n <;> simp
    · cases x.getLsbD n <;> simp [BitVec.getLsbD_one, h0]
  rw [this]
  split <;> rfl
end M
theorem info_u8 : (Tryd.prog.info? 5).map (fun i => (i.zero, i.size, i.bytes)) = some (some (.int .u8 0), 1, 1) := by kernel_rfl
theorem make_bytes64 (w : World) : (Instr.makeSlice 55 (.int .i64 64) (.int .i64 64)).run Tryd.prog w = .ok (.slice (some ⟨w.heap.size, 0, none⟩) 64 64) (w.alloc (.cells (cf 64 (fun _ => .int .u8 0)) 5)) := by
  obtain ⟨i, hi, hz0, hz1, hz2⟩ := info_parts info_u8
  have hr := run_make (P := Tryd.prog) w 55 5 i _ Tryd.underlying55 hi hz0 .i64 .i64 64 64 (by omega) (Int.le_refl _) (by rw [hz2]; omega) (by omega)
  rw [hr, hz1]
  rw [← show madeCells #[(.int .u8 0 : Value)] 64 = M.cf 64 (fun _ => .int .u8 0) from M.cf_made _ 64]
  rfl
set_option maxHeartbeats 1000000 in
theorem impl_table_yes (s : ByteArray) (x : Bdd.T) (w : World) (hK : Calls Tryd.prog 36 #[.string s] w fun e w' => e = .returned (.tuple #[uv x, .bool true]) ∧ Below w.heap.size w w') :
    Calls Tryd.prog 15 #[.string s] w fun e w' => e = .returned (.tuple #[.string (tabS x), .bool true]) ∧ Below w.heap.size w w' := by
  have HK := hide hK
  clear hK
  go_enter Tryd.func15, Tryd.ntmps15
  go_wp2_with fail
  refine HK.out.mono ?_
  rintro e w1 ⟨rfl, hb1⟩
  have hmk := make_bytes64 w1
  clear HK
  go_wp2
  go_loopw [7, 18] (fun _ i wr => ∃ n : Nat, n ≤ 64 ∧ i = .int .i64 n ∧ Hid (Blk wr w1.heap.size 64 (tbn x n) 5) ∧ Below w1.heap.size w1 wr) (fun _ i _ => 64 - (intOf i).toNat)
  case atStart => exact ⟨0, Nat.zero_le _, rfl, hide (by rw [tbn_zero]; exact Blk.new w1 64 _ _), (Below.refl _ _).alloc (Nat.le_refl _) _⟩
  case round =>
    obtain ⟨n, hn, rfl, HA, hbw⟩ := hrel
    clear hmk
    by_cases hlt : n < 64
    · have HL := hide hlt
      have hd : decide ((n : Int) < 64) = true := by simp; omega
      have hd2 : (0 : Int) ≤ (n : Int) := by omega
      have c1 := HA.out.cell hlt
      have f1 := HA.out.thaw n
      have hs := shr_at x n hlt .i64
      have hl := low_bit x n
      have hw : IntKind.u64.wrap (n : Int) = (n : Int) := by rw [show IntKind.u64.wrap (n : Int) = (n : Int) % 18446744073709551616 from rfl]; omega
      obtain ⟨y, hy⟩ : ∃ y, x >>> n = y := ⟨_, rfl⟩
      rw [hy] at hs hl
      by_cases hb : x.getLsbD n = true
      · rw [if_pos hb] at hl
        have HA2 := hide (HA.out.set n (.int .u8 49))
        rw [tbn_succ x n (by unfold tby; rw [if_pos hb])] at HA2
        have hbw2 := hbw.setCell (p := ⟨w1.heap.size, n, none⟩) (Nat.le_refl _) (.int .u8 49)
        have HB2 := hide hbw2
        clear HA hlt hn hb hy hbw hbw2
        go_wp2
        all_goals first | exact ⟨⟨n + 1, by have := HL.out; omega, by go_num, HA2, HB2.out⟩, by have := HL.out; simp [intOf]; omega⟩ | (exfalso; have := HL.out; omega)
      · rw [if_neg hb] at hl
        have HA2 := hide (HA.out.set n (.int .u8 48))
        rw [tbn_succ x n (by unfold tby; rw [if_neg hb])] at HA2
        have hbw2 := hbw.setCell (p := ⟨w1.heap.size, n, none⟩) (Nat.le_refl _) (.int .u8 48)
        have HB2 := hide hbw2
        clear HA hlt hn hb hy hbw hbw2
        go_wp2
        all_goals first | exact ⟨⟨n + 1, by have := HL.out; omega, by go_num, HA2, HB2.out⟩, by have := HL.out; simp [intOf]; omega⟩ | (exfalso; have := HL.out; omega)
    · have hd : decide ((n : Int) < 64) = false := by simp; omega
      obtain rfl : n = 64 := by omega
      have hcv : (convert 55 9 (.slice (some ⟨w1.heap.size, 0, none⟩) 64 64)).run Tryd.prog wr = .ok (.string (tabS x)) wr := by
        refine run_convert_bytes_arg (P := Tryd.prog) wr 55 5 Tryd.underlying55 Tryd.underlying5 _ 0 64 64 ((List.range 64).map (tby x)) (by simp) (fun i hi => ?_) 9 Tryd.underlying9
        rw [Nat.zero_add, HA.out.cell hi]
        unfold tbn
        rw [if_pos hi]
        simp [List.getD, hi]
      have HB2 := hide (hb1.trans (hbw.mono hb1.size))
      clear HA hlt hn hbw hb1
      go_wp2
      go_ret2
      exact ⟨rfl, HB2.out⟩
theorem impl_table_no (s : ByteArray) (w : World) (hK : Calls Tryd.prog 36 #[.string s] w fun e w' => (∃ x, e = .returned (.tuple #[uv x, .bool false])) ∧ Below w.heap.size w w') :
    Calls Tryd.prog 15 #[.string s] w fun e w' => e = .returned (.tuple #[.string noText, .bool false]) ∧ Below w.heap.size w w' := by
  have HK := hide hK
  clear hK
  go_enter Tryd.func15, Tryd.ntmps15
  go_wp2_with (refine HK.out.mono ?_; rintro e w1 ⟨⟨x, rfl⟩, hb1⟩)
  go_ret2
  exact ⟨rfl, hb1⟩
set_option maxHeartbeats 1000000 in
theorem spec_table_yes (s : ByteArray) (x : Bdd.T) (w : World) (hK : Calls Tryd.prog 35 #[.string s] w fun e w' => e = .returned (.tuple #[uv x, .bool true]) ∧ Below w.heap.size w w') :
    Calls Tryd.prog 14 #[.string s] w fun e w' => e = .returned (.tuple #[.string (tabS x), .bool true]) ∧ Below w.heap.size w w' := by
  have HK := hide hK
  clear hK
  go_enter Tryd.func14, Tryd.ntmps14
  go_wp2_with fail
  refine HK.out.mono ?_
  rintro e w1 ⟨rfl, hb1⟩
  have hmk := make_bytes64 w1
  clear HK
  go_wp2
  go_loopw [7, 18] (fun _ i wr => ∃ n : Nat, n ≤ 64 ∧ i = .int .i64 n ∧ Hid (Blk wr w1.heap.size 64 (tbn x n) 5) ∧ Below w1.heap.size w1 wr) (fun _ i _ => 64 - (intOf i).toNat)
  case atStart => exact ⟨0, Nat.zero_le _, rfl, hide (by rw [tbn_zero]; exact Blk.new w1 64 _ _), (Below.refl _ _).alloc (Nat.le_refl _) _⟩
  case round =>
    obtain ⟨n, hn, rfl, HA, hbw⟩ := hrel
    clear hmk
    by_cases hlt : n < 64
    · have HL := hide hlt
      have hd : decide ((n : Int) < 64) = true := by simp; omega
      have hd2 : (0 : Int) ≤ (n : Int) := by omega
      have c1 := HA.out.cell hlt
      have f1 := HA.out.thaw n
      have hs := shr_at x n hlt .u64
      have hl := low_bit x n
      have hw : IntKind.u64.wrap (n : Int) = (n : Int) := by rw [show IntKind.u64.wrap (n : Int) = (n : Int) % 18446744073709551616 from rfl]; omega
      obtain ⟨y, hy⟩ : ∃ y, x >>> n = y := ⟨_, rfl⟩
      rw [hy] at hs hl
      by_cases hb : x.getLsbD n = true
      · rw [if_pos hb] at hl
        have HA2 := hide (HA.out.set n (.int .u8 49))
        rw [tbn_succ x n (by unfold tby; rw [if_pos hb])] at HA2
        have hbw2 := hbw.setCell (p := ⟨w1.heap.size, n, none⟩) (Nat.le_refl _) (.int .u8 49)
        have HB2 := hide hbw2
        clear HA hlt hn hb hy hbw hbw2
        go_wp2
        all_goals first | exact ⟨⟨n + 1, by have := HL.out; omega, by go_num, HA2, HB2.out⟩, by have := HL.out; simp [intOf]; omega⟩ | (exfalso; have := HL.out; omega)
      · rw [if_neg hb] at hl
        have HA2 := hide (HA.out.set n (.int .u8 48))
        rw [tbn_succ x n (by unfold tby; rw [if_neg hb])] at HA2
        have hbw2 := hbw.setCell (p := ⟨w1.heap.size, n, none⟩) (Nat.le_refl _) (.int .u8 48)
        have HB2 := hide hbw2
        clear HA hlt hn hb hy hbw hbw2
        go_wp2
        all_goals first | exact ⟨⟨n + 1, by have := HL.out; omega, by go_num, HA2, HB2.out⟩, by have := HL.out; simp [intOf]; omega⟩ | (exfalso; have := HL.out; omega)
    · have hd : decide ((n : Int) < 64) = false := by simp; omega
      obtain rfl : n = 64 := by omega
      have hcv : (convert 55 9 (.slice (some ⟨w1.heap.size, 0, none⟩) 64 64)).run Tryd.prog wr = .ok (.string (tabS x)) wr := by
        refine run_convert_bytes_arg (P := Tryd.prog) wr 55 5 Tryd.underlying55 Tryd.underlying5 _ 0 64 64 ((List.range 64).map (tby x)) (by simp) (fun i hi => ?_) 9 Tryd.underlying9
        rw [Nat.zero_add, HA.out.cell hi]
        unfold tbn
        rw [if_pos hi]
        simp [List.getD, hi]
      have HB2 := hide (hb1.trans (hbw.mono hb1.size))
      clear HA hlt hn hbw hb1
      go_wp2
      go_ret2
      exact ⟨rfl, HB2.out⟩
theorem spec_table_no (s : ByteArray) (w : World) (hK : Calls Tryd.prog 35 #[.string s] w fun e w' => (∃ x, e = .returned (.tuple #[uv x, .bool false])) ∧ Below w.heap.size w w') :
    Calls Tryd.prog 14 #[.string s] w fun e w' => e = .returned (.tuple #[.string noText, .bool false]) ∧ Below w.heap.size w w' := by
  have HK := hide hK
  clear hK
  go_enter Tryd.func14, Tryd.ntmps14
  go_wp2_with (refine HK.out.mono ?_; rintro e w1 ⟨⟨x, rfl⟩, hb1⟩)
  go_ret2
  exact ⟨rfl, hb1⟩
end Go.Proofs.YtfiooclkefmijaaDoor

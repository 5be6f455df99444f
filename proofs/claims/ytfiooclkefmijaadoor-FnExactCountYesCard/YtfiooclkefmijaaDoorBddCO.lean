/-
  How many bits are 1: math/bits.OnesCount64.
-/
import Derived.Test.YtfiooclkefmijaaDoorBddC
import Derived.Test.YtfiooclkefmijaaDoorBddB
namespace Go.Proofs.YtfiooclkefmijaaDoor
open Go.RowKit M
open Clk (upd upd_same upd_other)
namespace M
open Bdd Cnt
/-- How many bits of a table are 1. -/
def pc (t : T) : Nat := pop 64 t.toNat
theorem pc_less {t : T} (h : t ≠ 0) : pc (t &&& (t - 1)) + 1 = pc t := by
  have h0 : 0 < t.toNat := Nat.pos_of_ne_zero (fun e => h (BitVec.eq_of_toNat_eq (by simpa using e)))
  unfold pc
  have e : (t &&& (t - 1)).toNat = t.toNat &&& (t.toNat - 1) := by
    rw [BitVec.toNat_and]
    congr 1
    have := t.isLt
    rw [BitVec.toNat_sub]
    simp
    omega
  rw [e]
  exact pop_less 64 t.toNat h0 t.isLt
theorem pc_zero : pc 0 = 0 := pop_zero 64
theorem pc_le (t : T) : pc t ≤ 64 := pop_le 64 _
theorem tn_sub (t : T) (h : t ≠ 0) : IntKind.u64.wrap (tn t - 1) = tn (t - 1) := by
  have h0 : 0 < t.toNat := Nat.pos_of_ne_zero (fun e => h (BitVec.eq_of_toNat_eq (by simpa using e)))
  have := t.isLt
  rw [tn_def, tn_def, show IntKind.u64.wrap ((t.toNat : Int) - 1) = ((t.toNat : Int) - 1) % 18446744073709551616 from rfl, BitVec.toNat_sub]
  simp
  omega
theorem band (x y : Nat) (hx : x < 18446744073709551616) (hy : y < 18446744073709551616) : bits .and .u64 (x : Int) (y : Int) = ((x &&& y : Nat) : Int) := by
  have h : (BitVec.ofInt 64 (x : Int) &&& BitVec.ofInt 64 (y : Int)).toNat = x &&& y := by
    rw [BitVec.toNat_and, BitVec.ofInt_natCast, BitVec.ofInt_natCast, BitVec.toNat_ofNat, BitVec.toNat_ofNat]
    rw [Nat.mod_eq_of_lt (show x < 2 ^ 64 from hx), Nat.mod_eq_of_lt (show y < 2 ^ 64 from hy)]
  show IntKind.u64.wrap ((BitVec.ofInt 64 (x : Int) &&& BitVec.ofInt 64 (y : Int)).toNat : Int) = _
  rw [h, show IntKind.u64.wrap ((x &&& y : Nat) : Int) = ((x &&& y : Nat) : Int) % 18446744073709551616 from rfl]
  have : x &&& y ≤ x := Nat.and_le_left
  omega
theorem low7 (x : Nat) (hx : x < 18446744073709551616) : bits .and .i64 (x : Int) 127 = ((x % 128 : Nat) : Int) := by
  have h : (BitVec.ofInt 64 (x : Int) &&& BitVec.ofInt 64 127).toNat = x % 128 := by
    rw [BitVec.toNat_and, BitVec.ofInt_natCast, BitVec.toNat_ofNat, Nat.mod_eq_of_lt (show x < 2 ^ 64 from hx)]
    exact Nat.and_two_pow_sub_one_eq_mod x 7
  show IntKind.i64.wrap ((BitVec.ofInt 64 (x : Int) &&& BitVec.ofInt 64 127).toNat : Int) = _
  rw [h, IntKind.wrap_i64]
  omega
theorem fin_def (y : Nat) : Cnt.fin y = (y + y / 256 + (y + y / 256) / 65536 + (y + y / 256 + (y + y / 256) / 65536) / 4294967296) % 128 := by
  show (y + y / 2 ^ 8 + (y + y / 2 ^ 8) / 2 ^ 16 + (y + y / 2 ^ 8 + (y + y / 2 ^ 8) / 2 ^ 16) / 2 ^ 32) % 128 = _
  rw [show (2 : Nat) ^ 8 = 256 from by decide, show (2 : Nat) ^ 16 = 65536 from by decide, show (2 : Nat) ^ 32 = 4294967296 from by decide]
theorem pc_of0 {t : T} (h : t = 0) : pc t = 0 := by subst h; exact pc_zero
theorem tn_of0 {t : T} (h : t = 0) : tn t = 0 := by subst h; rfl
theorem pc_end {n : Nat} {s t d : T} (h0 : s = 0) (hp : n + pc s = pc t) (h : t = d) : pc d = n := by
  rw [← h, ← hp, pc_of0 h0]; omega
theorem tn_pos {t : T} (h : t ≠ 0) : 0 < tn t := by
  have h0 : 0 < t.toNat := Nat.pos_of_ne_zero (fun e => h (BitVec.eq_of_toNat_eq (by simpa using e)))
  rw [tn_def]; omega
theorem tn_less {t : T} (h : t ≠ 0) : (tn (t &&& (t - 1))).toNat < (tn t).toNat := by
  have h0 : 0 < t.toNat := Nat.pos_of_ne_zero (fun e => h (BitVec.eq_of_toNat_eq (by simpa using e)))
  have e : (t &&& (t - 1)).toNat = t.toNat &&& (t.toNat - 1) := by
    rw [BitVec.toNat_and]
    congr 1
    have := t.isLt
    rw [BitVec.toNat_sub]
    simp
    omega
  have h2 := Cnt.and_less t.toNat h0
  rw [tn_def, tn_def, e, Int.toNat_natCast, Int.toNat_natCast]
  exact h2
theorem round_facts {n : Nat} {s t : T} (h0 : s ≠ 0) (hp : n + pc s = pc t) : n + 1 + pc (s &&& (s - 1)) = pc t ∧ (n : Int) ≤ 64 := by
  have h1 := pc_less h0
  have h2 := pc_le t
  omega
theorem stepn (a k b n : Nat) (h : a + a / k = b) (ha : a ≤ n) : b ≤ n + n := by
  have := Nat.div_le_self a k
  omega
theorem i64w (x : Nat) (h : x ≤ 4629771061636907072) : IntKind.i64.wrap (x : Int) = (x : Int) := by rw [IntKind.wrap_i64]; omega
theorem w64w (x : Nat) (h : x ≤ 4629771061636907072) : wrap64 (x : Int) = (x : Int) := by unfold wrap64; omega
theorem uwrap (x : Nat) (hx : x < 18446744073709551616) : IntKind.u64.wrap (x : Int) = (x : Int) := by
  rw [show IntKind.u64.wrap (x : Int) = (x : Int) % 18446744073709551616 from rfl]; omega
end M
set_option maxRecDepth 20000 in
set_option maxHeartbeats 8000000 in
theorem ones_count (t : Bdd.T) (w : World) :
    Calls Tryd.prog 51 #[uv t] w fun e w' => e = .returned (.int .i64 (pc t : Int)) ∧ w' = w := by
  have hX := t.isLt
  obtain ⟨X, hXd⟩ : ∃ X, t.toNat = X := ⟨_, rfl⟩
  have hpc : pc t = Cnt.fin (Cnt.G 8 X) := by unfold pc; rw [hXd]; exact (Cnt.pop_G X).1.symm
  have hG := (Cnt.pop_G X).2
  have ht : uv t = .int .u64 (X : Int) := by show Value.int .u64 (t.toNat : Int) = _; rw [hXd]
  rw [ht]
  rw [hXd] at hX
  have m1 : Cnt.ms 0x55 8 = 6148914691236517205 := by decide
  have m2 : Cnt.ms 0x33 8 = 3689348814741910323 := by decide
  have m3 : Cnt.ms 0x0f 8 = 1085102592571150095 := by decide
  obtain ⟨A1, hA1⟩ : ∃ A1, X / 2 &&& 6148914691236517205 = A1 := ⟨_, rfl⟩
  obtain ⟨B1, hB1⟩ : ∃ B1, X &&& 6148914691236517205 = B1 := ⟨_, rfl⟩
  have hA1' : A1 ≤ 6148914691236517205 := by rw [← hA1]; exact Nat.and_le_right
  have hB1' : B1 ≤ 6148914691236517205 := by rw [← hB1]; exact Nat.and_le_right
  have f1 : bits .and .u64 ((X : Int) / 2) 6148914691236517205 = (A1 : Int) := by rw [← hA1]; exact band (X / 2) 6148914691236517205 (by omega) (by omega)
  have f2 : bits .and .u64 (X : Int) 6148914691236517205 = (B1 : Int) := by rw [← hB1]; exact band X 6148914691236517205 (by omega) (by omega)
  obtain ⟨Y1, hY1⟩ : ∃ Y1, A1 + B1 = Y1 := ⟨_, rfl⟩
  have f3 : IntKind.u64.wrap ((A1 : Int) + (B1 : Int)) = (Y1 : Int) := by rw [← hY1]; exact uwrap (A1 + B1) (by omega)
  obtain ⟨A2, hA2⟩ : ∃ A2, Y1 / 4 &&& 3689348814741910323 = A2 := ⟨_, rfl⟩
  obtain ⟨B2, hB2⟩ : ∃ B2, Y1 &&& 3689348814741910323 = B2 := ⟨_, rfl⟩
  have hA2' : A2 ≤ 3689348814741910323 := by rw [← hA2]; exact Nat.and_le_right
  have hB2' : B2 ≤ 3689348814741910323 := by rw [← hB2]; exact Nat.and_le_right
  have f4 : bits .and .u64 ((Y1 : Int) / 4) 3689348814741910323 = (A2 : Int) := by rw [← hA2]; exact band (Y1 / 4) 3689348814741910323 (by omega) (by omega)
  have f5 : bits .and .u64 (Y1 : Int) 3689348814741910323 = (B2 : Int) := by rw [← hB2]; exact band Y1 3689348814741910323 (by omega) (by omega)
  obtain ⟨Y2, hY2⟩ : ∃ Y2, A2 + B2 = Y2 := ⟨_, rfl⟩
  have f6 : IntKind.u64.wrap ((A2 : Int) + (B2 : Int)) = (Y2 : Int) := by rw [← hY2]; exact uwrap (A2 + B2) (by omega)
  obtain ⟨Z, hZ⟩ : ∃ Z, Y2 / 16 + Y2 = Z := ⟨_, rfl⟩
  have f7 : IntKind.u64.wrap ((Y2 : Int) / 16 + (Y2 : Int)) = (Z : Int) := by rw [← hZ]; exact uwrap (Y2 / 16 + Y2) (by omega)
  obtain ⟨Y3, hY3⟩ : ∃ Y3, Z &&& 1085102592571150095 = Y3 := ⟨_, rfl⟩
  have f8 : bits .and .u64 (Z : Int) 1085102592571150095 = (Y3 : Int) := by rw [← hY3]; exact band Z 1085102592571150095 (by omega) (by omega)
  have hGY : Cnt.G 8 X = Y3 := by
    unfold Cnt.G Cnt.st3 Cnt.st2 Cnt.st1
    rw [m1, m2, m3]
    show ((((X / 2 &&& 6148914691236517205) + (X &&& 6148914691236517205)) / 4 &&& 3689348814741910323) + (((X / 2 &&& 6148914691236517205) + (X &&& 6148914691236517205)) &&& 3689348814741910323)) / 16 + ((((X / 2 &&& 6148914691236517205) + (X &&& 6148914691236517205)) / 4 &&& 3689348814741910323) + (((X / 2 &&& 6148914691236517205) + (X &&& 6148914691236517205)) &&& 3689348814741910323)) &&& 1085102592571150095 = Y3
    rw [hA1, hB1, hY1, hA2, hB2, hY2, hZ, hY3]
  rw [hGY] at hG hpc
  obtain ⟨Y4, hY4⟩ : ∃ Y4, Y3 + Y3 / 256 = Y4 := ⟨_, rfl⟩
  have b4 : Y4 ≤ 1157442765409226768 := stepn Y3 256 Y4 578721382704613384 hY4 hG
  have f9 : IntKind.u64.wrap ((Y3 : Int) + (Y3 : Int) / 256) = (Y4 : Int) := by rw [← hY4]; exact uwrap (Y3 + Y3 / 256) (by rw [hY4]; exact Nat.lt_of_le_of_lt b4 (by decide))
  obtain ⟨Y5, hY5⟩ : ∃ Y5, Y4 + Y4 / 65536 = Y5 := ⟨_, rfl⟩
  have b5 : Y5 ≤ 2314885530818453536 := stepn Y4 65536 Y5 1157442765409226768 hY5 b4
  have f10 : IntKind.u64.wrap ((Y4 : Int) + (Y4 : Int) / 65536) = (Y5 : Int) := by rw [← hY5]; exact uwrap (Y4 + Y4 / 65536) (by rw [hY5]; exact Nat.lt_of_le_of_lt b5 (by decide))
  obtain ⟨Y6, hY6⟩ : ∃ Y6, Y5 + Y5 / 4294967296 = Y6 := ⟨_, rfl⟩
  have b6 : Y6 ≤ 4629771061636907072 := stepn Y5 4294967296 Y6 2314885530818453536 hY6 b5
  have f11 : IntKind.u64.wrap ((Y5 : Int) + (Y5 : Int) / 4294967296) = (Y6 : Int) := by rw [← hY6]; exact uwrap (Y5 + Y5 / 4294967296) (by rw [hY6]; exact Nat.lt_of_le_of_lt b6 (by decide))
  have f12 : IntKind.i64.wrap (Y6 : Int) = (Y6 : Int) := i64w Y6 b6
  have f12' : wrap64 (Y6 : Int) = (Y6 : Int) := w64w Y6 b6
  obtain ⟨R, hR⟩ : ∃ R, Y6 % 128 = R := ⟨_, rfl⟩
  have f13 : bits .and .i64 (Y6 : Int) 127 = (R : Int) := by rw [← hR]; exact low7 Y6 (Nat.lt_of_le_of_lt b6 (by decide))
  have HR := hide (show pc t = R from by
    rw [hpc, fin_def, hY4, hY5, hY6, hR])
  clear b4 b5 b6 hX hXd hpc hG ht m1 m2 m3 hA1 hB1 hA1' hB1' hY1 hA2 hB2 hA2' hB2' hY2 hZ hY3 hGY hY4 hY5 hY6 hR
  go_enter Tryd.func51, Tryd.ntmps51
  go_wp2
  go_ret
  exact ⟨by rw [HR.out]; rfl, rfl⟩
end Go.Proofs.YtfiooclkefmijaaDoor

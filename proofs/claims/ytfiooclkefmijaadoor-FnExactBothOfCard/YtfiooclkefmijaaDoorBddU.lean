/-
  Tables as numbers of 64 bits in the two texts: and, or, not, shifts; the table of the variables; a table with one variable so.
-/
import Derived.Test.YtfiooclkefmijaaDoorMem
import Derived.Test.YtfiooclkefmijaaDoorBddP
import Derived.Lib.QuietBelow
import Derived.BigQuiet
namespace Go.Proofs.YtfiooclkefmijaaDoor
open Go.RowKit M
namespace M
open Bdd
/-- A table as a value. -/
def tn (t : T) : Int := (t.toNat : Int)
abbrev uv (t : T) : Value := .int .u64 (tn t)
/-- The program's table of variables. -/
def OV (w : World) : Prop := ∀ k, k < 6 → w.cell? ⟨0, k, none⟩ = some (uv (vt k))
theorem OV.below {w w' : World} (h : OV w) (hb : Below w.heap.size w w') : OV w' := fun k hk => by
  have hc := h k hk
  have hlt : 0 < w.heap.size := World.block_lt_of_cell? w _ hc
  rw [hb.cell (p := ⟨0, k, none⟩) hlt]; exact hc
theorem OV.alloc {w : World} (h : OV w) (o : Obj) : OV (w.alloc o) := h.below ((Below.refl _ w).alloc (Nat.le_refl _) o)
theorem OV.drew {w : World} (h : OV w) : OV w.drew := h.below (Below.refl _ w).drew
theorem tn_def (t : T) : tn t = (t.toNat : Int) := rfl
theorem u_of (t : T) : BitVec.ofInt 64 (tn t) = t := by
  apply BitVec.eq_of_toNat_eq
  simp [tn]
theorem u_wrap (t : T) : IntKind.u64.wrap (tn t) = tn t := by
  have := t.isLt
  rw [tn_def, show IntKind.u64.wrap (t.toNat : Int) = (t.toNat : Int) % 18446744073709551616 from rfl]
  omega
theorem u_and (x y : T) : bits .and .u64 (tn x) (tn y) = tn (x &&& y) := by
  show IntKind.u64.wrap (tn (BitVec.ofInt 64 (tn x) &&& BitVec.ofInt 64 (tn y))) = _
  rw [u_of, u_of, u_wrap]
theorem u_or (x y : T) : bits .or .u64 (tn x) (tn y) = tn (x ||| y) := by
  show IntKind.u64.wrap (tn (BitVec.ofInt 64 (tn x) ||| BitVec.ofInt 64 (tn y))) = _
  rw [u_of, u_of, u_wrap]
theorem u_xor (x y : T) : bits .xor .u64 (tn x) (tn y) = tn (x ^^^ y) := by
  show IntKind.u64.wrap (tn (BitVec.ofInt 64 (tn x) ^^^ BitVec.ofInt 64 (tn y))) = _
  rw [u_of, u_of, u_wrap]
theorem u_andNot (x y : T) : bits .andNot .u64 (tn x) (tn y) = tn (x &&& ~~~y) := by
  show IntKind.u64.wrap (tn (BitVec.ofInt 64 (tn x) &&& ~~~BitVec.ofInt 64 (tn y))) = _
  rw [u_of, u_of, u_wrap]
theorem u_not (x : T) : bits .xor .u64 IntKind.u64.max (tn x) = tn (~~~x) := by
  show IntKind.u64.wrap (tn (BitVec.ofInt 64 (tn all1) ^^^ BitVec.ofInt 64 (tn x))) = _
  rw [u_of, u_of, u_wrap, show all1 ^^^ x = ~~~x from by rw [BitVec.xor_comm]; exact BitVec.xor_allOnes]
theorem u_shr (k : Nat) (d : Int) (hd : d = ((2 ^ k : Nat) : Int)) (x : T) : tn x / d = tn (x >>> k) := by
  subst hd
  rw [tn_def, tn_def, BitVec.toNat_ushiftRight, Nat.shiftRight_eq_div_pow]
  rfl
theorem u_shl (k : Nat) (d : Int) (hd : d = ((2 ^ k : Nat) : Int)) (x : T) : IntKind.u64.wrap (tn x * d) = tn (x <<< k) := by
  subst hd
  rw [tn_def, tn_def, show IntKind.u64.wrap ((x.toNat : Int) * ((2 ^ k : Nat) : Int)) = ((x.toNat : Int) * ((2 ^ k : Nat) : Int)) % ((18446744073709551616 : Nat) : Int) from rfl, BitVec.toNat_shiftLeft, Nat.shiftLeft_eq, ← Int.natCast_mul, ← Int.natCast_emod]
end M
theorem with_v (t : Bdd.T) (v : Nat) (hv : v < 6) (b : Bool) (w : World) (ho : OV w) :
    Calls Tryd.prog 54 #[uv t, .int .i64 (v : Int), .bool b] w fun e w' => e = .returned (uv (Bdd.hf t v b)) ∧ w' = w := by
  have c := ho v hv
  have h1 := u_and
  have h2 := u_or
  have h3 := u_andNot
  rcases (show v = 0 ∨ v = 1 ∨ v = 2 ∨ v = 3 ∨ v = 4 ∨ v = 5 by omega) with rfl | rfl | rfl | rfl | rfl | rfl
  · have h4 := u_shr 1 2 (by decide)
    have h5 := u_shl 1 2 (by decide)
    cases b
    · go_enter Tryd.func54, Tryd.ntmps54
      go_wp2
      go_ret
      exact ⟨rfl, rfl⟩
    · go_enter Tryd.func54, Tryd.ntmps54
      go_wp2
      go_ret
      exact ⟨rfl, rfl⟩
  · have h4 := u_shr 2 4 (by decide)
    have h5 := u_shl 2 4 (by decide)
    cases b
    · go_enter Tryd.func54, Tryd.ntmps54
      go_wp2
      go_ret
      exact ⟨rfl, rfl⟩
    · go_enter Tryd.func54, Tryd.ntmps54
      go_wp2
      go_ret
      exact ⟨rfl, rfl⟩
  · have h4 := u_shr 4 16 (by decide)
    have h5 := u_shl 4 16 (by decide)
    cases b
    · go_enter Tryd.func54, Tryd.ntmps54
      go_wp2
      go_ret
      exact ⟨rfl, rfl⟩
    · go_enter Tryd.func54, Tryd.ntmps54
      go_wp2
      go_ret
      exact ⟨rfl, rfl⟩
  · have h4 := u_shr 8 256 (by decide)
    have h5 := u_shl 8 256 (by decide)
    cases b
    · go_enter Tryd.func54, Tryd.ntmps54
      go_wp2
      go_ret
      exact ⟨rfl, rfl⟩
    · go_enter Tryd.func54, Tryd.ntmps54
      go_wp2
      go_ret
      exact ⟨rfl, rfl⟩
  · have h4 := u_shr 16 65536 (by decide)
    have h5 := u_shl 16 65536 (by decide)
    cases b
    · go_enter Tryd.func54, Tryd.ntmps54
      go_wp2
      go_ret
      exact ⟨rfl, rfl⟩
    · go_enter Tryd.func54, Tryd.ntmps54
      go_wp2
      go_ret
      exact ⟨rfl, rfl⟩
  · have h4 := u_shr 32 4294967296 (by decide)
    have h5 := u_shl 32 4294967296 (by decide)
    cases b
    · go_enter Tryd.func54, Tryd.ntmps54
      go_wp2
      go_ret
      exact ⟨rfl, rfl⟩
    · go_enter Tryd.func54, Tryd.ntmps54
      go_wp2
      go_ret
      exact ⟨rfl, rfl⟩
end Go.Proofs.YtfiooclkefmijaaDoor

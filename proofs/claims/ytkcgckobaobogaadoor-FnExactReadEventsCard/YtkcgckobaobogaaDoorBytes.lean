/-
  Both texts of EventBytes return the text of a good event, and the zero answer of another; nothing that was there is turned. Condition: the tables knownKinds and uint64pow10 read as the texts lay them.
-/
import Derived.Test.YtkcgckobaobogaaDoorNum
import Derived.Lib.QuietBelow
import Derived.BigQuiet
namespace Go.Proofs.YtkcgckobaobogaaDoor
open Go.RowKit M
open Go.Sort (grow)
namespace M
def evB (id ver kind : Nat) (name : ByteArray) : ByteArray := numB kind ++ ⟨#[46]⟩ ++ numB id ++ ⟨#[46]⟩ ++ numB ver ++ ⟨#[46]⟩ ++ name ++ ⟨#[46]⟩
/-- The library's table of powers of ten reads as its text lays it. -/
def PT (w : World) : Prop := Lib.TabIs Tryd.prog w "internal/strconv.uint64pow10" .u64 Lib.pow10Tab
theorem evB_size (id ver kind : Nat) (name : ByteArray) (h1 : id ≤ 1000000) (h2 : ver ≤ 1000000) (h3 : kind ≤ 1000000) (h4 : name.size ≤ 12) : (evB id ver kind name).size ≤ 37 := by
  have a := numB_size id h1
  have b := numB_size ver h2
  have c := numB_size kind h3
  have d : (⟨#[46]⟩ : ByteArray).size = 1 := rfl
  unfold evB
  simp only [ByteArray.size_append, d]
  omega
theorem good_parts {id ver kind : Int} {name : ByteArray} (h : goodB id ver kind name = true) : (1 ≤ id ∧ id ≤ 1000) ∧ (0 ≤ ver ∧ ver ≤ 1000000) ∧ (1 ≤ kind ∧ kind ≤ 6) ∧ name.size ≤ 12 := by
  unfold goodB inB goodName at h
  simp at h
  omega
theorem cell_box (w : World) (a b c d : Value) (t : TypeId) : (w.alloc (.cells #[a, b, c, d] t)).cell? ⟨w.heap.size, 0, none⟩ = some a ∧ (w.alloc (.cells #[a, b, c, d] t)).cell? ⟨w.heap.size, 1, none⟩ = some b ∧ (w.alloc (.cells #[a, b, c, d] t)).cell? ⟨w.heap.size, 2, none⟩ = some c ∧ (w.alloc (.cells #[a, b, c, d] t)).cell? ⟨w.heap.size, 3, none⟩ = some d := by
  refine ⟨?_, ?_, ?_, ?_⟩ <;> (rw [World.cell?_alloc_mark]; rfl)
end M

theorem bcell2 {W w1 : World} (hb : Below W.heap.size W w1) : (∀ b o, b < W.heap.size → w1.cell? ⟨b, o, none⟩ = W.cell? ⟨b, o, none⟩) ∧ (∀ b o, b < W.heap.size → w1.frozen? ⟨b, o, none⟩ = W.frozen? ⟨b, o, none⟩) :=
  ⟨fun b o h => hb.cell (p := ⟨b, o, none⟩) h, fun b o h => hb.frozen (p := ⟨b, o, none⟩) h⟩

theorem gPow : Tryd.prog.globalNamed "internal/strconv.uint64pow10" = some 1 := by kernel_rfl
theorem M.PT.below {w w' : World} (h : PT w) (hb : Below w.heap.size w w') : PT w' := by
  have hc : w.cell? ⟨1, 0, none⟩ = some _ := Lib.TabIs.cell h gPow 0 (by decide)
  exact var?_below hb gPow (World.block_lt_of_cell? w _ hc) h
theorem M.PT.alloc {w : World} (h : PT w) (o : Obj) : PT (w.alloc o) := h.below ((Below.refl _ w).alloc (Nat.le_refl _) o)

theorem below_grow (w : World) (k : Nat) (os : Array Obj) : Below w.heap.size w (grow (w.drewN k) os) := below_regrown w (w.drewN k).drawn os

theorem itoa (n : Nat) (w : World) (h : n ≤ 1000000) (ht : PT w) :
    Calls Tryd.prog 32 #[.int .i64 (n : Int)] w fun e w' => e = .returned (.string (numB n)) ∧ Below w.heap.size w w' := by
  refine (Tryd.strconv_Itoa (n : Int) (by omega) (by omega) w ht).mono ?_
  rintro e w' ⟨rfl, k, os, rfl⟩
  exact ⟨by rw [Lib.itoa_nonneg]; rfl, below_grow w k os⟩

set_option maxHeartbeats 1000000 in
set_option maxRecDepth 100000 in
theorem spec_bytes (id ver kind : Nat) (name : ByteArray) (w : World) (h1 : id ≤ 1000000) (h2 : ver ≤ 1000000) (h3 : kind ≤ 1000000) (h4 : name.size ≤ 12) :
    Calls Tryd.prog 31 #[ev id ver kind name] w fun e w' => e = .returned (.string (evB id ver kind name)) ∧ Below w.heap.size w w' := by
  have z1 := numB_size id h1
  have z2 := numB_size ver h2
  have z3 := numB_size kind h3
  have zd : (⟨#[46]⟩ : ByteArray).size = 1 := rfl
  have za := @ByteArray.size_append
  have cN : ∀ (n : Nat) (W : World), n ≤ 1000000 → ∀ d os, Calls Tryd.prog 46 #[.int .i64 (n : Int)] (grow (redrawn W d) os) fun e w'' => e = .returned (.string (numB n)) ∧ ∃ p : Regrown, w'' = grow (redrawn W p.d) p.os := fun n W hn d os => Calls.regrown_of (spec_num n hn _)
  have HN := hide cN
  clear cN
  have cb := cell_box w (.int .i64 (id : Int)) (.int .i64 (ver : Int)) (.int .i64 (kind : Int)) (.string name) 26
  have k0 := cell_regrown cb.1
  have k1 := cell_regrown cb.2.1
  have k2 := cell_regrown cb.2.2.1
  have k3 := cell_regrown cb.2.2.2
  clear cb
  have n1 : ¬ 9223372036854775807 < (numB kind).size + 1 := by omega
  have n2 : ¬ 9223372036854775807 < (numB kind).size + 1 + (numB id).size := by omega
  have n3 : ¬ 9223372036854775807 < (numB kind).size + 1 + (numB id).size + 1 := by omega
  have n4 : ¬ 9223372036854775807 < (numB kind).size + 1 + (numB id).size + 1 + (numB ver).size := by omega
  have n5 : ¬ 9223372036854775807 < (numB kind).size + 1 + (numB id).size + 1 + (numB ver).size + 1 := by omega
  have n6 : ¬ 9223372036854775807 < (numB kind).size + 1 + (numB id).size + 1 + (numB ver).size + 1 + name.size := by omega
  have n7 : ¬ 9223372036854775807 < (numB kind).size + 1 + (numB id).size + 1 + (numB ver).size + 1 + name.size + 1 := by omega
  go_enter Tryd.func31, Tryd.ntmps31
  go_wp2
  refine wp_region_quiet_below (by kernel_rfl) (by kernel_rfl) ?_
  repeat (quiet_step (exact HN.out _ _ (by assumption) _ _))
  refine wpQuiet_nil ?_
  intro _ hw'
  obtain ⟨⟨dq, osq⟩, hw''⟩ := hw'
  subst hw''
  go_wp2
  go_ret
  exact ⟨rfl, ((Below.refl _ w).alloc (Nat.le_refl _) _).trans ((below_regrown _ dq osq).mono (by simp))⟩

theorem spec_evbytes (id ver kind : Int) (name : ByteArray) (w : World) (hn : name.size ≤ maxLen) (hg : goodB id ver kind name = true) :
    Calls Tryd.prog 12 #[ev id ver kind name] w fun e w' => e = .returned (.tuple #[.string (evB id.toNat ver.toNat kind.toNat name), .bool true]) ∧ Below w.heap.size w w' := by
  obtain ⟨⟨a1, a2⟩, ⟨b1, b2⟩, ⟨c1, c2⟩, d⟩ := good_parts hg
  obtain ⟨id, rfl⟩ := Int.eq_ofNat_of_zero_le (show 0 ≤ id by omega)
  obtain ⟨ver, rfl⟩ := Int.eq_ofNat_of_zero_le b1
  obtain ⟨kind, rfl⟩ := Int.eq_ofNat_of_zero_le (show 0 ≤ kind by omega)
  simp only [Int.toNat_natCast]
  go_enter Tryd.func12, Tryd.ntmps12
  go_wp2_with fail
  refine (spec_good _ _ _ _ _ hn).mono ?_
  rintro e w1 ⟨rfl, hb1⟩
  rw [hg]
  obtain ⟨hc1, hf1⟩ := bcell2 hb1
  go_wp2_with fail
  refine (spec_bytes _ _ _ _ _ (by omega) (by omega) (by omega) d).mono ?_
  rintro e w2 ⟨rfl, hb⟩
  have hb2 := hb1.trans (hb.mono hb1.size)
  clear hb hc1 hf1
  go_wp2
  go_ret2
  exact ⟨rfl, ((Below.refl _ w).alloc (Nat.le_refl _) _).trans (hb2.mono (by simp))⟩

theorem spec_evbytes_no (id ver kind : Int) (name : ByteArray) (w : World) (hn : name.size ≤ maxLen) (hg : goodB id ver kind name = false) :
    Calls Tryd.prog 12 #[ev id ver kind name] w fun e w' => e = .returned (.tuple #[.string ByteArray.empty, .bool false]) ∧ Below w.heap.size w w' := by
  go_enter Tryd.func12, Tryd.ntmps12
  go_wp2_with fail
  refine (spec_good _ _ _ _ _ hn).mono ?_
  rintro e w1 ⟨rfl, hb1⟩
  rw [hg]
  go_wp2
  go_ret2
  exact ⟨rfl, ((Below.refl _ w).alloc (Nat.le_refl _) _).trans (hb1.mono (by simp))⟩

theorem impl_evbytes_no (id ver kind : Int) (name : ByteArray) (w : World) (hn : name.size ≤ maxLen) (hk : KK w) (hg : goodB id ver kind name = false) :
    Calls Tryd.prog 13 #[ev id ver kind name] w fun e w' => e = .returned (.tuple #[.string ByteArray.empty, .bool false]) ∧ Below w.heap.size w w' := by
  go_enter Tryd.func13, Tryd.ntmps13
  go_wp2_with fail
  refine (impl_good _ _ _ _ _ hn (hk.alloc _)).mono ?_
  rintro e w1 ⟨rfl, hb1⟩
  rw [hg]
  go_wp2
  go_ret2
  exact ⟨rfl, ((Below.refl _ w).alloc (Nat.le_refl _) _).trans (hb1.mono (by simp))⟩

set_option maxHeartbeats 1000000 in
set_option maxRecDepth 100000 in
theorem impl_evbytes (id ver kind : Int) (name : ByteArray) (w : World) (hn : name.size ≤ maxLen) (hk : KK w) (hp : PT w) (hg : goodB id ver kind name = true) :
    Calls Tryd.prog 13 #[ev id ver kind name] w fun e w' => e = .returned (.tuple #[.string (evB id.toNat ver.toNat kind.toNat name), .bool true]) ∧ Below w.heap.size w w' := by
  obtain ⟨⟨a1, a2⟩, ⟨b1, b2⟩, ⟨c1, c2⟩, d⟩ := good_parts hg
  obtain ⟨id, rfl⟩ := Int.eq_ofNat_of_zero_le (show 0 ≤ id by omega)
  obtain ⟨ver, rfl⟩ := Int.eq_ofNat_of_zero_le b1
  obtain ⟨kind, rfl⟩ := Int.eq_ofNat_of_zero_le (show 0 ≤ kind by omega)
  simp only [Int.toNat_natCast]
  have h1 : id ≤ 1000000 := by omega
  have h2 : ver ≤ 1000000 := by omega
  have h3 : kind ≤ 1000000 := by omega
  clear a1 a2 b1 b2 c1 c2
  have z1 := numB_size id h1
  have z2 := numB_size ver h2
  have z3 := numB_size kind h3
  have zd : (⟨#[46]⟩ : ByteArray).size = 1 := rfl
  have za := @ByteArray.size_append
  have n1 : ¬ 9223372036854775807 < (numB kind).size + 1 := by omega
  have n2 : ¬ 9223372036854775807 < (numB kind).size + 1 + (numB id).size := by omega
  have n3 : ¬ 9223372036854775807 < (numB kind).size + 1 + (numB id).size + 1 := by omega
  have n4 : ¬ 9223372036854775807 < (numB kind).size + 1 + (numB id).size + 1 + (numB ver).size := by omega
  have n5 : ¬ 9223372036854775807 < (numB kind).size + 1 + (numB id).size + 1 + (numB ver).size + 1 := by omega
  have n6 : ¬ 9223372036854775807 < (numB kind).size + 1 + (numB id).size + 1 + (numB ver).size + 1 + name.size := by omega
  have n7 : ¬ 9223372036854775807 < (numB kind).size + 1 + (numB id).size + 1 + (numB ver).size + 1 + name.size + 1 := by omega
  have cb := cell_box w (.int .i64 (id : Int)) (.int .i64 (ver : Int)) (.int .i64 (kind : Int)) (.string name) 26
  have HP := hide (hp.alloc (.cells #[.int .i64 (id : Int), .int .i64 (ver : Int), .int .i64 (kind : Int), .string name] 26))
  clear hp
  go_enter Tryd.func13, Tryd.ntmps13
  go_wp2_with fail
  refine (impl_good _ _ _ _ _ hn (hk.alloc _)).mono ?_
  rintro e w1 ⟨rfl, hb1⟩
  rw [hg]
  have hlt : w.heap.size < (w.alloc (.cells #[.int .i64 (id : Int), .int .i64 (ver : Int), .int .i64 (kind : Int), .string name] 26)).heap.size := by simp
  have k0 := cell_regrown ((hb1.cell (p := ⟨w.heap.size, 0, none⟩) hlt).trans cb.1)
  have k1 := cell_regrown ((hb1.cell (p := ⟨w.heap.size, 1, none⟩) hlt).trans cb.2.1)
  have k2 := cell_regrown ((hb1.cell (p := ⟨w.heap.size, 2, none⟩) hlt).trans cb.2.2.1)
  have k3 := cell_regrown ((hb1.cell (p := ⟨w.heap.size, 3, none⟩) hlt).trans cb.2.2.2)
  have hp1 : PT w1 := HP.out.below hb1
  have cN : ∀ (n : Nat), n ≤ 1000000 → ∀ d os, Calls Tryd.prog 32 #[.int .i64 (n : Int)] (grow (redrawn w1 d) os) fun e w'' => e = .returned (.string (numB n)) ∧ ∃ p : Regrown, w'' = grow (redrawn w1 p.d) p.os := fun n hn d os => Calls.regrown_of (itoa n _ hn (hp1.below (below_regrown w1 d os)))
  have HN := hide cN
  clear cN cb hlt hp1 HP
  go_wp2
  refine wp_region_quiet_below (by kernel_rfl) (by kernel_rfl) ?_
  repeat (quiet_step (exact HN.out _ (by assumption) _ _))
  refine wpQuiet_nil ?_
  intro _ hw'
  obtain ⟨⟨dq, osq⟩, hw''⟩ := hw'
  subst hw''
  go_wp2
  go_ret2
  exact ⟨rfl, (((Below.refl _ w).alloc (Nat.le_refl _) _).trans (hb1.mono (by simp))).trans ((below_regrown _ dq osq).mono (by have := hb1.size; simp at this; omega))⟩
end Go.Proofs.YtkcgckobaobogaaDoor

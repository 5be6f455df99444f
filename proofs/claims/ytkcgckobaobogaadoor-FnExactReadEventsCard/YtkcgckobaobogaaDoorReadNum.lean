/-
  The program's readNumber returns the number whose numeral the text is, and the zero answer where it is none. Condition: the library's variables read as their texts lay them.
-/
import Derived.Test.YtkcgckobaobogaaDoorReadMath
import Derived.Test.YtkcgckobaobogaaDoorShelf2
import Derived.Lib.SmallJoins
namespace Go.Proofs.YtkcgckobaobogaaDoor
open Go.RowKit M
namespace M
/-- What the library's variables hold, as far as the walks ask. -/
def LB (w : World) : Prop := (∃ m, w.cell? ⟨2, 0, none⟩ = some (.int .i64 m)) ∧ (∃ ev, w.cell? ⟨3, 0, none⟩ = some ev ∧ (ev = .nilIface ∨ ∃ te pe, ev = .iface te pe)) ∧
  (∃ ev, w.cell? ⟨4, 0, none⟩ = some ev ∧ (ev = .nilIface ∨ ∃ te pe, ev = .iface te pe))
theorem LB.below {w w' : World} (h : LB w) (hb : Below w.heap.size w w') : LB w' := by
  obtain ⟨⟨m, h1⟩, ⟨e1, h2, h3⟩, e2, h4, h5⟩ := h
  have k : ∀ {a : Addr} {v : Value}, w.cell? a = some v → w'.cell? a = some v := fun {a v} hc => by
    rw [hb.cell (World.block_lt_of_cell? w _ hc)]; exact hc
  exact ⟨⟨m, k h1⟩, ⟨e1, k h2, h3⟩, e2, k h4, h5⟩
theorem LB.alloc {w : World} (h : LB w) (o : Obj) : LB (w.alloc o) := h.below ((Below.refl _ w).alloc (Nat.le_refl _) o)
theorem atoi_bd {l : List UInt8} {v : Int} (h : Lib.atoiAll l = .ok v) : -9223372036854775808 ≤ v ∧ v ≤ 9223372036854775807 := by
  unfold Lib.atoiAll at h
  split at h
  · cases h
  · simp only at h
    split at h
    · cases h
    · cases h
    · split at h
      · cases h
      · split at h
        · cases h
        · injection h with h
          split at h <;> omega
def numV (l : List UInt8) : Int := match readNum l with
  | some n => (n : Int)
  | none => 0
def numOk (l : List UInt8) : Bool := (readNum l).isSome
theorem num_no {l : List UInt8} (h : readNum l = none) : numV l = 0 ∧ numOk l = false := by simp [numV, numOk, h]
theorem num_yes {l : List UInt8} {n : Nat} (h : readNum l = some n) : numV l = n ∧ numOk l = true := by simp [numV, numOk, h]
theorem readNum_neg {l : List UInt8} {v : Int} (h : Lib.atoiAll l = .ok v) (hv : v < 0) : readNum l = none := by
  unfold readNum; rw [h]; simp only; rw [if_neg (by omega)]
theorem readNum_ne {l : List UInt8} {v : Int} (h : Lib.atoiAll l = .ok v) (hn : Lib.decDigits v.toNat ≠ l) : readNum l = none := by
  unfold readNum; rw [h]; simp only; rw [if_neg (fun c => hn c.2)]
theorem readNum_eq {l : List UInt8} {v : Int} (h : Lib.atoiAll l = .ok v) (hv : 0 ≤ v) (hn : Lib.decDigits v.toNat = l) : readNum l = some v.toNat := by
  unfold readNum; rw [h]; simp only; rw [if_pos ⟨hv, hn⟩]
theorem str_ne3 {a b : ByteArray} (h : a ≠ b) : (a.toList == b.toList) = false := by
  rw [beq_eq_false_iff_ne]
  intro e
  rw [Lib.toList_data, Lib.toList_data] at e
  exact h (ba_eq e)
end M

theorem itoa_all (n : Nat) (w : World) (h : n ≤ 9223372036854775807) (ht : PT w) :
    Calls Tryd.prog 32 #[.int .i64 (n : Int)] w fun e w' => e = .returned (.string (numB n)) ∧ Below w.heap.size w w' := by
  refine (Tryd.strconv_Itoa (n : Int) (by omega) (by omega) w ht).mono ?_
  rintro e w' ⟨rfl, k, os, rfl⟩
  exact ⟨by rw [Lib.itoa_nonneg]; rfl, below_grow w k os⟩

theorem atoi_ok (s : ByteArray) (w : World) (v : Int) (hs : s.size ≤ 1048576) (h : Lib.atoiAll s.data.toList = .ok v) :
    Calls Tryd.prog 49 #[.string s] w fun e w' => e = .returned (.tuple #[.int .i64 v, .nilIface]) ∧ Below w.heap.size w w' := by
  refine (Tryd.strconv_Atoi_ok s (by omega) v h w).mono ?_
  rintro e w' ⟨rfl, hw⟩
  refine ⟨rfl, ?_⟩
  rcases hw with rfl | ⟨t, rfl⟩
  · exact Below.refl _ _
  · exact Go.Joins.below_bytesWorld _ _ _ _ (Nat.le_refl _)

/-- Where Atoi tells an error: some number, and an error that is not nil. -/
theorem atoi_err (s : ByteArray) (w : World) (hs : s.size ≤ 1048576) (hl : LB w) (h : ∀ v, Lib.atoiAll s.data.toList ≠ .ok v) :
    Calls Tryd.prog 49 #[.string s] w fun e w' => (∃ v N, e = .returned (.tuple #[.int .i64 v, .iface 95 (.pointer (some ⟨N, 0, none⟩))])) ∧ Below w.heap.size w w' := by
  obtain ⟨-, ⟨e1, h2, h3⟩, e2, h4, h5⟩ := hl
  cases hc : Lib.atoiAll s.data.toList
  · exact absurd hc (h _)
  · refine (Any.strconv_Atoi_syntax Tryd.laysC172 s (by omega) hc e1 w h2 h3).mono ?_
    rintro e w' ⟨N, rfl, -, -, hb⟩
    exact ⟨⟨_, N, rfl⟩, hb⟩
  · refine (Any.strconv_Atoi_range Tryd.laysC172 s (by omega) hc e2 w h4 h5).mono ?_
    rintro e w' ⟨N, rfl, -, -, hb⟩
    exact ⟨⟨_, N, rfl⟩, hb⟩

theorem impl_num (s : ByteArray) (w : World) (hs : s.size ≤ 1048576) (hp : PT w) (hl : LB w) :
    Calls Tryd.prog 36 #[.string s] w fun e w' => e = .returned (.tuple #[.int .i64 (numV s.data.toList), .bool (numOk s.data.toList)]) ∧ Below w.heap.size w w' := by
  by_cases hok : ∃ v, Lib.atoiAll s.data.toList = .ok v
  · obtain ⟨v, hv⟩ := hok
    have hbd := atoi_bd hv
    by_cases hneg : v < 0
    · obtain ⟨r1, r2⟩ := num_no (readNum_neg hv hneg)
      rw [r1, r2]
      have HV := hide hv
      clear hv r1 r2
      go_enter Tryd.func36, Tryd.ntmps36
      go_wp2_with fail
      refine (atoi_ok _ _ v hs HV.out).mono ?_
      rintro e w1 ⟨rfl, hb1⟩
      go_wp2
      go_ret2
      exact ⟨rfl, hb1⟩
    · obtain ⟨n, rfl⟩ := Int.eq_ofNat_of_zero_le (show 0 ≤ v by omega)
      by_cases he : numB n = s
      · have hd : Lib.decDigits ((n : Int)).toNat = s.data.toList := by rw [← he]; simp [numB]
        obtain ⟨r1, r2⟩ := num_yes (readNum_eq hv (by omega) hd)
        simp only [Int.toNat_natCast] at r1
        rw [r1, r2]
        have HV := hide hv
        have HP := hide hp
        clear hv r1 r2 hd hp
        go_enter Tryd.func36, Tryd.ntmps36
        go_wp2_with fail
        refine (atoi_ok _ _ _ hs HV.out).mono ?_
        rintro e w1 ⟨rfl, hb1⟩
        go_wp2_with fail
        refine (itoa_all n _ (by omega) (HP.out.below hb1)).mono ?_
        rintro e w2 ⟨rfl, hb⟩
        have hb2 := hb1.trans (hb.mono hb1.size)
        clear hb
        go_wp2
        go_ret2
        exact ⟨rfl, hb2⟩
      · have hd : Lib.decDigits ((n : Int)).toNat ≠ s.data.toList := fun e => he (ba_eq (by simpa [numB] using e))
        obtain ⟨r1, r2⟩ := num_no (readNum_ne hv hd)
        rw [r1, r2]
        have hq := str_ne3 he
        have HV := hide hv
        have HP := hide hp
        clear hv r1 r2 hd hp he
        go_enter Tryd.func36, Tryd.ntmps36
        go_wp2_with fail
        refine (atoi_ok _ _ _ hs HV.out).mono ?_
        rintro e w1 ⟨rfl, hb1⟩
        go_wp2_with fail
        refine (itoa_all n _ (by omega) (HP.out.below hb1)).mono ?_
        rintro e w2 ⟨rfl, hb⟩
        have hb2 := hb1.trans (hb.mono hb1.size)
        clear hb
        go_wp2
        go_ret2
        exact ⟨rfl, hb2⟩
  · have hno : readNum s.data.toList = none := by
      unfold readNum
      split
      · rename_i v hv; exact absurd ⟨v, hv⟩ hok
      · rfl
    obtain ⟨r1, r2⟩ := num_no hno
    rw [r1, r2]
    have HO := hide (show ∀ v, Lib.atoiAll s.data.toList ≠ .ok v from fun v hv => hok ⟨v, hv⟩)
    clear hok hno r1 r2
    go_enter Tryd.func36, Tryd.ntmps36
    go_wp2_with fail
    refine (atoi_err _ _ hs hl HO.out).mono ?_
    rintro e w1 ⟨⟨v, N, rfl⟩, hb1⟩
    go_wp2
    go_ret2
    exact ⟨rfl, hb1⟩
end Go.Proofs.YtkcgckobaobogaaDoor

/-
  The laws of FailOver and MergeDomains.
-/
import Derived.Test.YtgccoognklolbaaDmR
import Derived.Test.YtgccoognklolbaaDmF
namespace Go.Proofs.Ytgccoognklolbaa
open Go.RowKit M
theorem foa_len (l : Dms) (x : ByteArray) (r : Int) (h : l.length ≤ 1048576) : (foa l x r).length ≤ 1048576 := by
  unfold foa; split
  · simpa using h
  · simp
theorem mga_len (a c : Dms) : (mga a c).length ≤ 1048576 := by
  cases hb : mgb a c
  · rw [mga_no hb]; simp
  · rw [mga_yes hb]
    unfold mgb at hb
    simp only [Bool.and_eq_true, decide_eq_true_eq] at hb
    omega
theorem law_fail {p : Prop} (v : Value) (l : Dms) (x : ByteArray) (r : Int) (w : World) (hv : DomsOf w v l) (hl : LenD l) (hx : x.size ≤ maxLen) (_ : p) :
    Calls Try.prog 7 #[v, .string x, .int .i64 r] w fun e w' => e = .returned (.bool true) ∧ Below w.heap.size w w' :=
  law_fail_run v l x r (foa l x r) (fob l x r) w hv hl hx (foa_len l x r) (fun hn b W hd => spec_fail b 0 _ l x r W hd hn hl) (fun hn _ W hd => impl_fail _ l x r W hd hn hl)
theorem law_merge (va : Value) (la : Dms) (vc : Value) (lc : Dms) (w : World) (ha : DomsOf w va la) (hla : LenD la) (hc : DomsOf w vc lc) (hlc : LenD lc) :
    Calls Try.prog 8 #[va, vc] w fun e w' => e = .returned (.bool true) ∧ Below w.heap.size w w' :=
  law_merge_run va la vc lc (mga la lc) (mgb la lc) w ha hla hc hlc (fun _ _ => mga_len la lc) (fun hn hm _ _ W d0 d1 => spec_merge _ _ la lc W d0 d1 hn hm hla hlc) (fun hn hm _ _ W d0 d1 => impl_merge _ _ la lc W d0 d1 hn hm hla hlc)
end Go.Proofs.Ytgccoognklolbaa

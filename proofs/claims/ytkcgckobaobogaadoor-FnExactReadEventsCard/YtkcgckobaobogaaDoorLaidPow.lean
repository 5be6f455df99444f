/-
  What the rows' list of variables gives the walks: the library's table of powers of ten; and the tables laid in a world for the witness.
-/
import Derived.Test.YtkcgckobaobogaaDoorLaid
import Derived.Test.YtkcgckobaobogaaDoorBytes
namespace Go.Proofs.YtkcgckobaobogaaDoor
open Go.RowKit M

theorem gPowType : (Tryd.prog.globals[1]?).map (·.type) = some 100 := by kernel_rfl
theorem cellsPow : Tryd.prog.cellsOf 100 = 20 := by kernel_rfl
theorem cellsU64 : Tryd.prog.cellsOf 84 = 1 := by kernel_rfl

theorem pt_of {l : List (String × DataW Unit)} {W : World} (h : laidMet Tryd.prog l W) (hm : ("internal/strconv.uint64pow10", Rows.laid_internal_strconv_uint64pow10) ∈ l) : PT W := by
  obtain ⟨ps, hl, _⟩ := h
  obtain ⟨g, t, cs, fuel, p, h1, h2, h3, h4⟩ := laid_mem hl _ _ hm
  obtain rfl := Option.some.inj (gPow.symm.trans h1)
  obtain rfl := Option.some.inj (gPowType.symm.trans h2)
  have ed : (Rows.laid_internal_strconv_uint64pow10 : DataW Unit) = Lib.tabData .u64 Lib.pow10Tab := by kernel_rfl
  rw [ed] at h4
  have e := Lib.cells_of_tab Tryd.underlying100 Tryd.underlying84 cellsU64 cellsPow h4
  show W.var? Tryd.prog "internal/strconv.uint64pow10" = _
  rw [h3, ← e]

def litCells : List (DataW Unit) → List Value
  | [] => []
  | .lit (.int k n) :: r => .int k n :: litCells r
  | .lit (.bool b) :: r => .bool b :: litCells r
  | .agg [.lit (.int k n), .lit (.int k' n')] :: r => .int k n :: .int k' n' :: litCells r
  | _ :: r => litCells r
def layAll (h : Array Obj) : List (Nat × DataW Unit) → Array Obj
  | [] => h
  | (g, .agg l) :: r => layAll (h.modify g fun
      | .cells _ t frozen => .cells (litCells l).toArray t frozen
      | o => o) r
  | _ :: r => layAll h r
end Go.Proofs.YtkcgckobaobogaaDoor

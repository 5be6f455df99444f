/-
  What the rows' list of variables gives the walks: the table ofVariable, cell for cell.
-/
import Derived.Test.YtfiooclkefmijaaDoorRows
import Derived.Test.YtfiooclkefmijaaDoorBddU
import Derived.Lib.LaidTab
namespace Go.Proofs.YtfiooclkefmijaaDoor
open Go.RowKit M

theorem laid_mem {P : Program} {w : World} : ∀ {l : List (String × DataW Unit)} {ps : List MemPlace}, DataW.LaidVars P w l ps → ∀ n d, (n, d) ∈ l →
    ∃ g t cs fuel p, P.globalNamed n = some g ∧ (P.globals[g]?).map (·.type) = some t ∧ w.var? P n = some cs ∧ DataW.trod (fun _ => ()) P w 0 (fun _ => true) false fuel t cs.toList = some (d, p)
  | [], _, _, n, d, hm => by cases hm
  | (n', d') :: r, ps, h, n, d, hm => by
    obtain ⟨g, t, cs, fuel, p, q, h1, h2, h3, h4, h5, _⟩ := h
    rcases List.mem_cons.1 hm with e | hm
    · cases e; exact ⟨g, t, cs, fuel, p, h1, h2, h3, h4⟩
    · exact laid_mem h5 n d hm
theorem gOfv : Tryd.prog.globalNamed "loop.example/g00269/impl.ofVariable" = some 0 := by kernel_rfl
theorem gOfvType : (Tryd.prog.globals[0]?).map (·.type) = some 88 := by kernel_rfl
theorem cellsOfv : Tryd.prog.cellsOf 88 = 6 := by kernel_rfl
theorem cellsDec : Tryd.prog.cellsOf 52 = 1 := by kernel_rfl
theorem ov_of {l : List (String × DataW Unit)} {W : World} (h : laidMet Tryd.prog l W) (hm : ("loop.example/g00269/impl.ofVariable", Rows.laid_loop_example_g00269_impl_ofVariable) ∈ l) : OV W := by
  obtain ⟨ps, hl, _⟩ := h
  obtain ⟨g, t, cs, fuel, p, h1, h2, h3, h4⟩ := laid_mem hl _ _ hm
  obtain rfl := Option.some.inj (gOfv.symm.trans h1)
  obtain rfl := Option.some.inj (gOfvType.symm.trans h2)
  have ed : (Rows.laid_loop_example_g00269_impl_ofVariable : DataW Unit) = Lib.tabData .u64 [12297829382473034410, 14757395258967641292, 17361641481138401520, 18374966859414961920, 18446462603027742720, 18446744069414584320] := by kernel_rfl
  rw [ed] at h4
  have e := Lib.cells_of_tab Tryd.underlying88 Tryd.underlying52 cellsDec cellsOfv h4
  intro k hk
  rw [World.var?_cell h1 h3 k]
  have e2 : cs = #[.int .u64 12297829382473034410, .int .u64 14757395258967641292, .int .u64 17361641481138401520, .int .u64 18374966859414961920, .int .u64 18446462603027742720, .int .u64 18446744069414584320] := by
    apply Array.toList_inj.1; rw [e]; rfl
  subst e2
  rcases (show k = 0 ∨ k = 1 ∨ k = 2 ∨ k = 3 ∨ k = 4 ∨ k = 5 by omega) with rfl | rfl | rfl | rfl | rfl | rfl <;> rfl
def laidW (h : World) : World :=
  { h with heap := h.heap.modify 0 fun
      | .cells _ t frozen => .cells #[.int .u64 12297829382473034410, .int .u64 14757395258967641292, .int .u64 17361641481138401520, .int .u64 18374966859414961920, .int .u64 18446462603027742720, .int .u64 18446744069414584320] t frozen
      | o => o }
end Go.Proofs.YtfiooclkefmijaaDoor

/-
  What the rows' list of variables and the world's shape give the walks: the library's error variables and its greatest length; and a world for the witness.
-/
import Derived.Test.YtkcgckobaobogaaDoorLaidPow
import Derived.Test.YtkcgckobaobogaaDoorReadNum
namespace Go.Proofs.YtkcgckobaobogaaDoor
open Go.RowKit M

theorem gSyn : Tryd.prog.globalNamed "strconv.ErrSyntax" = some 3 := by kernel_rfl
theorem gRange : Tryd.prog.globalNamed "strconv.ErrRange" = some 4 := by kernel_rfl
theorem gSynType : (Tryd.prog.globals[3]?).map (·.type) = some 63 := by kernel_rfl
theorem gRangeType : (Tryd.prog.globals[4]?).map (·.type) = some 63 := by kernel_rfl

theorem lb_of {l : List (String × DataW Unit)} {W : World} (h : laidMet Tryd.prog l W) (hsh : W.ShapedOpen Tryd.prog) (hm : ("strconv.ErrSyntax", Rows.laid_strconv_ErrSyntax) ∈ l) (hm2 : ("strconv.ErrRange", Rows.laid_strconv_ErrRange) ∈ l) : LB W := by
  obtain ⟨ps, hl, _⟩ := h
  refine ⟨cell_of_shapedOpen_int (zero := #[.int .i64 0]) (t := 3) hsh (of_decide_eq_true (by kernel_rfl)) (by kernel_rfl) rfl (by kernel_rfl) (by kernel_rfl) Tryd.underlying3, ?_, ?_⟩
  · obtain ⟨g, t, cs, fuel, p, h1, h2, h3, h4⟩ := laid_mem hl _ _ hm
    obtain rfl := Option.some.inj (gSyn.symm.trans h1)
    obtain rfl := Option.some.inj (gSynType.symm.trans h2)
    obtain ⟨_, u, v, e, -, -⟩ := iface_of_trod Tryd.underlying63 h4
    have hc := World.var?_cell h1 h3 0
    obtain ⟨cs⟩ := cs
    simp only at e
    subst e
    exact ⟨.iface u v, by simpa using hc, .inr ⟨u, v, rfl⟩⟩
  · obtain ⟨g, t, cs, fuel, p, h1, h2, h3, h4⟩ := laid_mem hl _ _ hm2
    obtain rfl := Option.some.inj (gRange.symm.trans h1)
    obtain rfl := Option.some.inj (gRangeType.symm.trans h2)
    obtain ⟨_, u, v, e, -, -⟩ := iface_of_trod Tryd.underlying63 h4
    have hc := World.var?_cell h1 h3 0
    obtain ⟨cs⟩ := cs
    simp only at e
    subst e
    exact ⟨.iface u v, by simpa using hc, .inr ⟨u, v, rfl⟩⟩

def layErr (h : Array Obj) (g : Nat) (text : List UInt8) : Array Obj :=
  (h.modify g fun
    | .cells _ t frozen => .cells #[.iface 117 (.pointer (some ⟨h.size, 0, none⟩))] t frozen
    | o => o).push (.cells #[.string ⟨text.toArray⟩] 119)
def laidE (h : World) : World :=
  { h with heap := layErr (layErr (layAll h.heap [(0, Rows.laid_loop_example_g00269_impl_knownKinds), (1, Rows.laid_internal_strconv_uint64pow10), (7, Rows.laid_math_bits_deBruijn32tab), (8, Rows.laid_math_bits_deBruijn64tab), (6, Rows.laid_unicode_utf8_acceptRanges), (5, Rows.laid_unicode_utf8_first)])
      3 [105, 110, 118, 97, 108, 105, 100, 32, 115, 121, 110, 116, 97, 120]) 4 [118, 97, 108, 117, 101, 32, 111, 117, 116, 32, 111, 102, 32, 114, 97, 110, 103, 101] }
end Go.Proofs.YtkcgckobaobogaaDoor

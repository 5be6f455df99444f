/-
  The law of BothOf.
-/
import Derived.Test.YtfiooclkefmijaaDoorBddBI
import Derived.Test.YtfiooclkefmijaaDoorBddLB
namespace Go.Proofs.YtfiooclkefmijaaDoor
open Go.RowKit M
open Clk (upd upd_same upd_other)
open Bdd (dia dec)
theorem law_BothOf (v1 : Value) (l1 : List Bdd.Ch) (r1 : Int) (v2 : Value) (l2 : List Bdd.Ch) (r2 : Int) (w : World) (ho : OV w) (hv1 : ChsOf w v1 l1) (hm1 : l1.length ≤ maxLen) (hv2 : ChsOf w v2 l2) (hm2 : l2.length ≤ maxLen) :
    Calls Tryd.prog 10 #[dgV v1 r1, dgV v2 r2] w fun e w' => e = .returned (.bool true) ∧ Below w.heap.size w w' := by
  obtain ⟨b1, hb1⟩ := good_bool l1 r1
  obtain ⟨b2, hb2⟩ := good_bool l2 r2
  refine law_BothOf_run v1 l1 r1 v2 l2 r2 w ho hv1 hm1 hv2 hm2 fun hn1 hn2 => ?_
  by_cases h : (b1 && b2) = true
  · exact ⟨(dia (dec l1 r1 &&& dec l2 r2)).1, (dia (dec l1 r1 &&& dec l2 r2)).2, true, by have := Bdd.dia_len (dec l1 r1 &&& dec l2 r2); omega, fun u1 u2 W h1 h2 => by have := spec_BothOf u1 r1 l1 b1 hb1 u2 r2 l2 b2 hb2 W h1 hn1 h2 hn2; simp only [h, if_true] at this; exact this, fun u1 u2 W ho h1 h2 => by have := impl_BothOf u1 r1 l1 b1 hb1 u2 r2 l2 b2 hb2 W h1 hn1 h2 hn2 ho; simp only [h, if_true] at this; exact this⟩
  · exact ⟨0, [], false, by simp, fun u1 u2 W h1 h2 => by have := spec_BothOf u1 r1 l1 b1 hb1 u2 r2 l2 b2 hb2 W h1 hn1 h2 hn2; simp only [h] at this; exact this, fun u1 u2 W ho h1 h2 => by have := impl_BothOf u1 r1 l1 b1 hb1 u2 r2 l2 b2 hb2 W h1 hn1 h2 hn2 ho; simp only [h] at this; exact this⟩
end Go.Proofs.YtfiooclkefmijaaDoor

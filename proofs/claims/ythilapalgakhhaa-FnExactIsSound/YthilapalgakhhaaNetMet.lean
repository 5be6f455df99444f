/-
  The program's metFrom: spread, of a list that is a marking.
-/
import Derived.Test.YthilapalgakhhaaNetSpread
namespace Go.Proofs.Ythilapalgakhhaa
open Go.RowKit M
open Clk (upd upd_same upd_other)
/-- An answer of spread is two values. -/
theorem FndA.form {r : Option Bs} {e : Ending} {B : Nat} {w' : World} (h : FndA r e B w') : ∃ o, e = .returned (.tuple #[.map o, .bool r.isSome]) ∧ FndA r (.returned (.tuple #[.map o, .bool r.isSome])) B w' := by
  cases r with
  | none => have h' : e = _ := h; subst h'; exact ⟨none, rfl, rfl⟩
  | some s => obtain ⟨b, rfl, hb, hm⟩ := h; exact ⟨some b, rfl, ⟨b, rfl, hb, hm⟩⟩
theorem FndA.mono {r : Option Bs} {e : Ending} {B B' : Nat} {w' : World} (h : FndA r e B w') (hB : B' ≤ B) : FndA r e B' w' := by
  cases r with
  | none => exact h
  | some s => obtain ⟨b, rfl, hb, hm⟩ := h; exact ⟨b, rfl, Nat.le_trans hB hb, hm⟩
set_option maxRecDepth 20000 in
set_option maxHeartbeats 1000000 in
theorem met_from (n : Nat) (v : Value) (k : Nat) (st : Nat → Sp) (u : Value) (f : Nat → Int) (w : World) (hv : StepsOf w v k st) (hu : IntsOf w u n f) (hs : Short k st) (h : NOk (n : Int) k st n f) :
    Calls Try.prog 60 #[netV (n : Int) v, u] w fun e w' => FndA (foundB st k (pad n f)) e w.heap.size w' ∧ Below w.heap.size w w' := by
  have HV := hide hv
  have HU := hide hu
  have HS := hide hs
  have HN := hide h
  have hn8 : n ≤ 8 := by have := h.1.1.2; omega
  have HG := hide h.1.2.2
  have HM := hide h.mk
  obtain ⟨a, cap, rfl⟩ := hv.form
  obtain ⟨a2, cap2, rfl⟩ := hu.form
  have hbA := (Below.refl w.heap.size w).alloc (Nat.le_refl _) (.cells #[.int .i64 (n : Int), .slice a k cap] 29)
  have hN := Blk.fresh w _ 2 (p2 (.int .i64 (n : Int)) (.slice a k cap)) 29 rfl
  clear hv hu hs h
  go_enter Try.func60, Try.ntmps60
  go_wp2_with fail
  refine (marking_in _ _ k st _ n f _ (HV.out.below hbA) (HU.out.below hbA) HS.out HN.out).mono ?_
  rintro e w1 ⟨rfl, hb⟩
  have hb1 := hbA.trans (hb.mono hbA.size)
  have hN1 := hN.down hb
  obtain ⟨d0, d1, -, -⟩ := hN1.pair
  have ad0 := fun o : Obj => alloc_cell o d0
  have ad1 := fun o : Obj => alloc_cell o d1
  have hs1 := hN1.lt
  clear hbA hN hb hN1
  go_wp2_with fail
  refine (spread_is n _ k st (pad n f) _ (HV.out.below (hb1.alloc hb1.size _)) HS.out hn8 HG.out HM.out).mono ?_
  rintro e w2 ⟨hF, hb⟩
  have hb2 := (hb1.alloc hb1.size _).trans (hb.mono (hb1.alloc hb1.size _).size)
  obtain ⟨o, rfl, hF2⟩ := (hF.mono (hb1.alloc hb1.size _).size).form
  have HF := hide hF2
  clear hF hF2 hb
  go_wp2
  go_ret2
  exact ⟨HF.out, hb2⟩
set_option maxHeartbeats 1000000 in
theorem met_from_no (p : Int) (v : Value) (k : Nat) (st : Nat → Sp) (u : Value) (n : Nat) (f : Nat → Int) (w : World) (hv : StepsOf w v k st) (hu : IntsOf w u n f) (hs : Short k st) (hn : n ≤ 1048576) (h : ¬ NOk p k st n f) :
    Calls Try.prog 60 #[netV p v, u] w fun e w' => e = .returned (.tuple #[.map none, .bool false]) ∧ Below w.heap.size w w' := by
  have HV := hide hv
  have HU := hide hu
  have HS := hide hs
  obtain ⟨a, cap, rfl⟩ := hv.form
  obtain ⟨a2, cap2, rfl⟩ := hu.form
  have hbA := (Below.refl w.heap.size w).alloc (Nat.le_refl _) (.cells #[.int .i64 p, .slice a k cap] 29)
  have HN := hide h
  clear hv hu hs h
  go_enter Try.func60, Try.ntmps60
  go_wp2_with fail
  refine (marking_no p _ k st _ n f _ (HV.out.below hbA) (HU.out.below hbA) HS.out hn HN.out).mono ?_
  rintro e w1 ⟨rfl, hb⟩
  have hb1 := hbA.trans (hb.mono hbA.size)
  clear hbA hb HV HU HS HN
  go_wp2
  go_ret2
  exact ⟨rfl, hb1.alloc hb1.size _⟩
end Go.Proofs.Ythilapalgakhhaa

/-
  A good list taken as a set; IsModel and StepOnce of the program.
-/
import Derived.Test.YtpabnncfcklnpaaHoS
import Derived.Test.YtpabnncfcklnpaaHoU
import Derived.Lib.QuietBelow
import Derived.BigQuiet
import Derived.Deep.MidRow
import Derived.Deep.RegionHeld
import Derived.Deep.RegionHeld3
import Derived.Deep.Cut
import Derived.Deep.CutRange
namespace Go.Proofs.Ytpabnncfcklnpaa
open Go.RowKit M
open Clk (upd upd_same upd_other)
open Go.Sort (grow)
open Ho
namespace M
/-- A set in a block that was made now. -/
theorem set_new (w : World) (s : Nat → Bool) (z : Array Value) (hz : z = cf 40 (bv fun _ => false)) : ∀ W, W = (w.alloc (.cells z 63)).setRow w.heap.size (cf 40 (bv s)) → Blk W w.heap.size 40 (bv s) 63 ∧ Below w.heap.size w W := by
  rintro W rfl
  exact ⟨(Blk.fresh w z 40 (bv fun _ => false) 63 hz).setRow _ rfl, below_setRow ((Below.refl _ _).alloc (Nat.le_refl _) _) (Nat.le_refl _) _⟩
theorem setRow_same {w : World} {g : Nat} {cs : Array Value} {t : TypeId} {fr : Nat × Nat} (h : w.heap[g]? = some (.cells cs t fr)) : w.setRow g cs = w := by
  cases w with
  | mk heap os tape output =>
    simp only [World.setRow]
    congr 1
    apply Array.ext_getElem?
    intro k
    rw [Array.getElem?_modify]
    by_cases e : g = k
    · subst e
      have h' : heap[g]? = some (.cells cs t fr) := h
      rw [if_pos rfl, h']; rfl
    · rw [if_neg e]
theorem set_same {w : World} {g n : Nat} {f : Nat → Value} {t : TypeId} (h : Blk w g n f t) (i : Nat) (v : Value) (hv : i < n → f i = v) : w.setCell ⟨g, i, none⟩ v = w := by
  rw [setCell_eq_setRow w g i (cf n f) t (0, 0) v h, cf_set, show cf n (upd f i v) = cf n f from cf_ext fun j hj => by
    by_cases e : j = i
    · subst e; rw [upd_same, hv hj]
    · rw [upd_other _ _ _ _ e]]
  exact setRow_same h
theorem Blk.range {w : World} {g n : Nat} {f : Nat → Value} {t : TypeId} (h : Blk w g n f t) : w.rangeAt g 0 ((List.range n).map f) := fun j v hv => by
  have hj : j < n := by have := (List.getElem?_eq_some_iff.1 hv).1; simpa using this
  rw [List.getElem?_map, List.getElem?_range hj] at hv
  simp only [Option.map_some, Option.some.injEq] at hv
  rw [Nat.zero_add, ← hv]
  exact h.cell hj
/-- What setFor tells. -/
def stf (b : Bool) (s : Nat → Bool) : Nat → Bool := if b then s else fun _ => false
end M
theorem quiet_load {P : Program} {o : Oper} {a : Act} {C : World → Prop} {K : Act → Prop} (ty : TypeId) (x : Operand) (ho : o.op = .load ty x) (ad : Addr) (v : Value) (hx : a.eval x = .pointer (some ad)) (hl : ∀ W, C W → (loadVar ty ad).run P W = .ok v W) (hk : K (a.put o.dst v)) : o.quiet P a C K := by
  refine ⟨v, fun W hC => ?_, hk⟩
  unfold Oper.quietAt execOp
  simp only [ho, hx, Instr.loadAt, Instr.sureAddr, Sem.run_bind, Sem.run_pure, Result.andThen_ok, hl W hC]
  exact ⟨rfl, rfl⟩
theorem stop_at {P : Program} {ops : Array Oper} {Q : Exit → Act → World → Prop} {o : Oper} {rest : List Oper} {a : Act} {w : World} (d : Option Nat) (_ : o.dst = d) (R : World → Prop) (hw : Hid (R w)) (h : ∀ w', R w' → wpList P ops Q (o :: rest) a w') : wpList P ops Q (o :: rest) a w := h w hw.out
theorem results_cell_slot {P : Program} {fn : Func} {p q : Tmp} {ty : TypeId} {r : ResultVar} (h : fn.results = #[.cell p ty, r]) (hr : r = .tmp q) (tmps : Array Value) (w : World) (g : Nat) (t : TypeId) (cs : Array Value) (fr : Nat × Nat) (d : TypeDesc) (x : Value)
    (hp : tmps.getD p undef = .pointer (some ⟨g, 0, none⟩)) (hx : tmps.getD q undef = x) (hg : w.heap[g]? = some (.cells cs t fr))
    (hu : P.underlying ty = some d) (hd : (match d with | .struct _ | .array _ _ => true | _ => false) = true) (hi : (P.info? ty).map (·.size) = some cs.size) :
    (results fn tmps).run P w = .ok (.tuple #[.agg cs, x]) w := by
  subst hr
  have hp' : tmps[p]?.getD undef = .pointer (some ⟨g, 0, none⟩) := by simpa using hp
  have hx' : tmps[q]?.getD undef = x := by simpa using hx
  simp [results, h, hp', hx', asAddr, run_loadVar_row w g t ty cs fr d hg hu hd hi]
theorem built0 : Try.prog.built 63 [] = some (cf 40 (bv fun _ => false)) := by kernel_rfl
theorem zero40 : ∀ s : Nat → Bool, (∀ i, i < 40 → s i = false) → cf 40 (bv fun _ => false) = cf 40 (bv s) := fun s h => cf_ext fun i hi => by unfold bv; rw [h i hi]
set_option maxRecDepth 20000 in
set_option maxHeartbeats 1000000 in
theorem set_for (v u : Value) (k n : Nat) (ts : Nat → Tk) (f : Nat → Int) (w : World) (hv : TasksOf w v k ts) (hs : Short k ts) (hu : IntsOf w u n f) (hn : n ≤ 1048576) (hO : Okay k n ts f) :
    Calls Try.prog 46 #[v, u] w fun e w' => e = .returned (.tuple #[fs (sof f n), .bool true]) ∧ Below w.heap.size w w' := by
  have HV := hide hv
  obtain ⟨a, cap, rfl⟩ := hv.form
  have HU := hide hu
  obtain ⟨au, cu, rfl⟩ := hu.form
  have HSh := hide hs
  have HG := hide hO.1
  have HRi := hide hO.2
  clear hv hu hs hO
  go_enter Try.func46, Try.ntmps46
  go_wp2_with fail
  generalize hW : w.alloc _ = w0
  have hz : Blk w0 w.heap.size 40 (bv fun _ => false) 63 ∧ Below w.heap.size w w0 := by
    subst hW; exact ⟨Blk.fresh w _ 40 _ _ rfl, (Below.refl _ _).alloc (Nat.le_refl _) _⟩
  have HZ := hide hz.1
  have hb0 := hz.2
  clear hz hW
  refine (impl_good _ k ts true _ (HV.out.below hb0) HSh.out (decide_eq_true HG.out)).mono ?_
  rintro e w1 ⟨rfl, hb⟩
  have hb1 := hb0.trans (hb.mono hb0.size)
  have HZ1 := hide (HZ.out.down hb)
  clear hb hb0 HZ
  go_wp2_with fail
  refine (rising_to _ n f true _ (HU.out.below hb1) hn (decide_eq_true HRi.out)).mono ?_
  rintro e w2 ⟨rfl, rfl⟩
  go_wp2_with fail
  refine (fact_set_of _ n f _ (HU.out.below hb1) HRi.out).mono ?_
  rintro e w3 ⟨rfl, hb⟩
  have hb3 := hb1.trans (hb.mono hb1.size)
  have h3 := HZ1.out.down hb
  clear hb hb1 HZ1 HU HV HG HRi HSh
  go_wp2_with (refine wpList_store_row rfl 63 _ _ rfl w.heap.size _ rfl rfl 63 _ h3 (by rw [cf_size]; exact info_fs) (by rw [cf_size, cf_size]) (all_one _) ?_)
  exact bodyPost_ret (v := .tuple #[fs (sof f n), .bool true]) (results_cell_slot Try.results46 rfl _ _ w.heap.size 63 _ (0, 0) _ _ rfl rfl (h3.setRow _ rfl) Try.underlying63 rfl (by rw [cf_size]; exact info_fs)) rfl ⟨rfl, below_setRow hb3 (Nat.le_refl _) _⟩
set_option maxRecDepth 20000 in
set_option maxHeartbeats 1000000 in
theorem set_for_no (v u : Value) (k n : Nat) (ts : Nat → Tk) (f : Nat → Int) (w : World) (hv : TasksOf w v k ts) (hs : Short k ts) (hu : IntsOf w u n f) (hn : n ≤ 1048576) (hO : ¬ Okay k n ts f) :
    Calls Try.prog 46 #[v, u] w fun e w' => e = .returned (.tuple #[fs (fun _ => false), .bool false]) ∧ Below w.heap.size w w' := by
  have HV := hide hv
  obtain ⟨a, cap, rfl⟩ := hv.form
  have HU := hide hu
  obtain ⟨au, cu, rfl⟩ := hu.form
  have HSh := hide hs
  clear hv hu hs
  by_cases hg : GoodL k ts
  · have hr : ¬ Ris n f := fun h => hO ⟨hg, h⟩
    have HG := hide hg
    have HRi := hide hr
    clear hg hr hO
    go_enter Try.func46, Try.ntmps46
    go_wp2_with fail
    generalize hW : w.alloc _ = w0
    have hz : Blk w0 w.heap.size 40 (bv fun _ => false) 63 ∧ Below w.heap.size w w0 := by
      subst hW; exact ⟨Blk.fresh w _ 40 _ _ rfl, (Below.refl _ _).alloc (Nat.le_refl _) _⟩
    have HZ := hide hz.1
    have hb0 := hz.2
    clear hz hW
    refine (impl_good _ k ts true _ (HV.out.below hb0) HSh.out (decide_eq_true HG.out)).mono ?_
    rintro e w1 ⟨rfl, hb⟩
    have hb1 := hb0.trans (hb.mono hb0.size)
    have h1 := HZ.out.down hb
    clear hb hb0 HZ
    go_wp2_with fail
    refine (rising_to _ n f false _ (HU.out.below hb1) hn (decide_eq_false HRi.out)).mono ?_
    rintro e w2 ⟨rfl, rfl⟩
    go_wp2_with (refine stop_at (some 14) rfl (fun W => Blk W w.heap.size 40 (bv fun _ => false) 63 ∧ Below w.heap.size w W) ?hR ?_)
    case hR => exact hide ⟨h1, hb1⟩
    rintro w5 ⟨h5, hb5⟩
    clear h1 hb1
    refine wpList_build rfl 63 #[] rfl ?hf ?_
    case hf => simp only [List.map_toArray, List.map_nil, built0, Option.isSome_some]
    simp only [List.map_toArray, List.map_nil, built0, Option.getD_some]
    refine wpList_store_row rfl 63 _ _ rfl w.heap.size (cf 40 (bv fun _ => false)) rfl rfl 63 _ h5 (by rw [cf_size]; exact info_fs) (by rw [cf_size]) (all_one _) ?_
    go_wp2
    exact bodyPost_ret (v := .tuple #[fs (fun _ => false), .bool false]) (results_cell_slot Try.results46 rfl _ _ w.heap.size 63 _ (0, 0) _ _ rfl rfl (h5.setRow _ rfl) Try.underlying63 rfl (by rw [cf_size]; exact info_fs)) rfl ⟨rfl, below_setRow hb5 (Nat.le_refl _) _⟩
  · have HG := hide hg
    clear hg hO
    go_enter Try.func46, Try.ntmps46
    go_wp2_with fail
    generalize hW : w.alloc _ = w0
    have hz : Blk w0 w.heap.size 40 (bv fun _ => false) 63 ∧ Below w.heap.size w w0 := by
      subst hW; exact ⟨Blk.fresh w _ 40 _ _ rfl, (Below.refl _ _).alloc (Nat.le_refl _) _⟩
    have HZ := hide hz.1
    have hb0 := hz.2
    clear hz hW
    refine (impl_good _ k ts false _ (HV.out.below hb0) HSh.out (decide_eq_false HG.out)).mono ?_
    rintro e w1 ⟨rfl, hb⟩
    have hb1 := hb0.trans (hb.mono hb0.size)
    have h1 := HZ.out.down hb
    clear hb hb0 HZ
    go_wp2_with (refine stop_at (some 14) rfl (fun W => Blk W w.heap.size 40 (bv fun _ => false) 63 ∧ Below w.heap.size w W) ?hR ?_)
    case hR => exact hide ⟨h1, hb1⟩
    rintro w5 ⟨h5, hb5⟩
    clear h1 hb1
    refine wpList_build rfl 63 #[] rfl ?hf ?_
    case hf => simp only [List.map_toArray, List.map_nil, built0, Option.isSome_some]
    simp only [List.map_toArray, List.map_nil, built0, Option.getD_some]
    refine wpList_store_row rfl 63 _ _ rfl w.heap.size (cf 40 (bv fun _ => false)) rfl rfl 63 _ h5 (by rw [cf_size]; exact info_fs) (by rw [cf_size]) (all_one _) ?_
    go_wp2
    exact bodyPost_ret (v := .tuple #[fs (fun _ => false), .bool false]) (results_cell_slot Try.results46 rfl _ _ w.heap.size 63 _ (0, 0) _ _ rfl rfl (h5.setRow _ rfl) Try.underlying63 rfl (by rw [cf_size]; exact info_fs)) rfl ⟨rfl, below_setRow hb5 (Nat.le_refl _) _⟩
set_option maxRecDepth 20000 in
set_option maxHeartbeats 1000000 in
theorem impl_model (v u : Value) (k n : Nat) (ts : Nat → Tk) (f : Nat → Int) (w : World) (hv : TasksOf w v k ts) (hs : Short k ts) (hu : IntsOf w u n f) (hn : n ≤ 1048576) (hO : Okay k n ts f) :
    Calls Try.prog 24 #[v, u] w fun e w' => e = .returned (.tuple #[.bool (mdl k ts (sof f n)), .bool true]) ∧ Below w.heap.size w w' := by
  have HV := hide hv
  obtain ⟨a, cap, rfl⟩ := hv.form
  have HU := hide hu
  obtain ⟨au, cu, rfl⟩ := hu.form
  have HSh := hide hs
  have HO := hide hO
  have HM := hide (show feq (stp (rls ts) (sof f n) k) (sof f n) = mdl k ts (sof f n) from rfl)
  have heq := eq40 (stp (rls ts) (sof f n) k) (sof f n)
  clear hv hu hs hO
  go_enter Try.func24, Try.ntmps24
  go_wp2_with fail
  refine (set_for _ _ k n ts f _ HV.out HSh.out HU.out hn HO.out).mono ?_
  rintro e w1 ⟨rfl, hb1⟩
  generalize hss : sof f n = s at *
  have HSS := hide hss
  clear hss
  go_wp2_with (refine wpList_store_row rfl 63 _ _ rfl w1.heap.size _ rfl rfl 63 _ (heap_alloc_new _ _) (by rw [cf_size]; exact info_fs) (by rw [cf_size]; rfl) (all_one _) ?_)
  generalize hW : (w1.alloc _).setRow _ _ = w2
  obtain ⟨h2, hb⟩ := set_new w1 s _ rfl w2 hW.symm
  have hb2 := hb1.trans (hb.mono hb1.size)
  clear hb hW HU
  have HB := hide (show ∀ d os, Calls Try.prog 51 #[fs s, .slice a k cap] (grow (redrawn w2 d) os) fun e w'' => e = .returned (fs (stp (rls ts) s k)) ∧ ∃ p : Regrown, w'' = grow (redrawn w2 p.d) p.os from fun d os =>
    Calls.regrown_of (set_step s _ k ts _ ((HV.out.below hb2).below (below_regrown w2 d os)) HO.out.1))
  have HL := hide (show ∀ W, (∃ p : Regrown, W = grow (redrawn w2 p.d) p.os) → (loadVar 63 ⟨w1.heap.size, 0, none⟩).run Try.prog W = .ok (fs s) W from fun W ⟨p, hp⟩ => by
    subst hp
    exact run_loadVar_row (P := Try.prog) _ w1.heap.size 63 63 _ (0, 0) _ (h2.down (below_regrown w2 p.d p.os)) Try.underlying63 rfl (by rw [cf_size]; exact info_fs))
  clear HV HSh HO h2
  go_upto_region 4 with fail
  refine wp_region_quiet_below (by kernel_rfl) (by kernel_rfl) ?_
  go_big_quiet_want
  refine quiet_load 63 _ rfl ⟨w1.heap.size, 0, none⟩ (fs s) rfl HL.out ?_
  simp only [Act.put, List.setIfInBounds_toArray, List.set_cons_succ, List.set_cons_zero]
  go_big_quiet_on
  go_big_quiet_step (fail)
  go_big_quiet_step (exact HB.out _ _)
  go_big_quiet_want
  refine quiet_load 63 _ rfl ⟨w1.heap.size, 0, none⟩ (fs s) rfl HL.out ?_
  simp only [Act.put, List.setIfInBounds_toArray, List.set_cons_succ, List.set_cons_zero]
  go_big_quiet_on
  repeat (go_big_quiet_step (fail))
  refine wpQuiet_nil ?_
  intro _ hw'
  obtain ⟨⟨dq, osq⟩, hw''⟩ := hw'
  subst hw''
  have hb4 := hb2.trans ((below_regrown w2 dq osq).mono hb2.size)
  go_wp2
  go_ret2
  exact ⟨by rw [HM.out, HSS.out]; rfl, hb4⟩
set_option maxRecDepth 20000 in
set_option maxHeartbeats 1000000 in
theorem impl_model_no (v u : Value) (k n : Nat) (ts : Nat → Tk) (f : Nat → Int) (w : World) (hv : TasksOf w v k ts) (hs : Short k ts) (hu : IntsOf w u n f) (hn : n ≤ 1048576) (hO : ¬ Okay k n ts f) :
    Calls Try.prog 24 #[v, u] w fun e w' => e = .returned (.tuple #[.bool false, .bool false]) ∧ Below w.heap.size w w' := by
  have HV := hide hv
  obtain ⟨a, cap, rfl⟩ := hv.form
  have HU := hide hu
  obtain ⟨au, cu, rfl⟩ := hu.form
  have HSh := hide hs
  have HO := hide hO
  clear hv hu hs hO
  go_enter Try.func24, Try.ntmps24
  go_wp2_with fail
  refine (set_for_no _ _ k n ts f _ HV.out HSh.out HU.out hn HO.out).mono ?_
  rintro e w1 ⟨rfl, hb1⟩
  go_wp2_with (refine wpList_store_row rfl 63 _ _ rfl w1.heap.size _ rfl rfl 63 _ (heap_alloc_new _ _) (by rw [cf_size]; exact info_fs) (by rw [cf_size]; rfl) (all_one _) ?_)
  generalize hW : (w1.alloc _).setRow _ _ = w2
  obtain ⟨h2, hb⟩ := set_new w1 _ _ rfl w2 hW.symm
  have hb2 := hb1.trans (hb.mono hb1.size)
  clear hb hW HU h2
  go_wp2
  go_ret2
  exact ⟨rfl, hb2⟩
set_option maxRecDepth 20000 in
set_option maxHeartbeats 1000000 in
theorem impl_once_no (v u : Value) (k n : Nat) (ts : Nat → Tk) (f : Nat → Int) (w : World) (hv : TasksOf w v k ts) (hs : Short k ts) (hu : IntsOf w u n f) (hn : n ≤ 1048576) (hO : ¬ Okay k n ts f) :
    Calls Try.prog 30 #[v, u] w fun e w' => e = .returned (.tuple #[.slice none 0 0, .bool false]) ∧ Below w.heap.size w w' := by
  have HV := hide hv
  obtain ⟨a, cap, rfl⟩ := hv.form
  have HU := hide hu
  obtain ⟨au, cu, rfl⟩ := hu.form
  have HSh := hide hs
  have HO := hide hO
  clear hv hu hs hO
  go_enter Try.func30, Try.ntmps30
  go_wp2_with fail
  refine (set_for_no _ _ k n ts f _ HV.out HSh.out HU.out hn HO.out).mono ?_
  rintro e w1 ⟨rfl, hb1⟩
  go_wp2_with (refine wpList_store_row rfl 63 _ _ rfl w1.heap.size _ rfl rfl 63 _ (heap_alloc_new _ _) (by rw [cf_size]; exact info_fs) (by rw [cf_size]; rfl) (all_one _) ?_)
  generalize hW : (w1.alloc _).setRow _ _ = w2
  obtain ⟨h2, hb⟩ := set_new w1 _ _ rfl w2 hW.symm
  have hb2 := hb1.trans (hb.mono hb1.size)
  clear hb hW HU h2
  go_wp2
  go_ret2
  exact ⟨rfl, hb2⟩
set_option maxRecDepth 20000 in
set_option maxHeartbeats 1000000 in
theorem impl_close_no (v u : Value) (k n : Nat) (ts : Nat → Tk) (f : Nat → Int) (w : World) (hv : TasksOf w v k ts) (hs : Short k ts) (hu : IntsOf w u n f) (hn : n ≤ 1048576) (hO : ¬ Okay k n ts f) :
    Calls Try.prog 32 #[v, u] w fun e w' => e = .returned (.tuple #[.slice none 0 0, .bool false]) ∧ Below w.heap.size w w' := by
  have HV := hide hv
  obtain ⟨a, cap, rfl⟩ := hv.form
  have HU := hide hu
  obtain ⟨au, cu, rfl⟩ := hu.form
  have HSh := hide hs
  have HO := hide hO
  clear hv hu hs hO
  go_enter Try.func32, Try.ntmps32
  go_wp2_with fail
  refine (set_for_no _ _ k n ts f _ HV.out HSh.out HU.out hn HO.out).mono ?_
  rintro e w1 ⟨rfl, hb1⟩
  go_wp2_with (refine wpList_store_row rfl 63 _ _ rfl w1.heap.size _ rfl rfl 63 _ (heap_alloc_new _ _) (by rw [cf_size]; exact info_fs) (by rw [cf_size]; rfl) (all_one _) ?_)
  generalize hW : (w1.alloc _).setRow _ _ = w2
  obtain ⟨h2, hb⟩ := set_new w1 _ _ rfl w2 hW.symm
  have hb2 := hb1.trans (hb.mono hb1.size)
  clear hb hW HU h2
  go_wp2
  go_ret2
  exact ⟨rfl, hb2⟩
set_option maxRecDepth 20000 in
set_option maxHeartbeats 1000000 in
theorem impl_once (v u : Value) (k n : Nat) (ts : Nat → Tk) (f : Nat → Int) (w : World) (hv : TasksOf w v k ts) (hs : Short k ts) (hu : IntsOf w u n f) (hn : n ≤ 1048576) (hO : Okay k n ts f) :
    Calls Try.prog 30 #[v, u] w fun e w' => (∃ r, e = .returned (.tuple #[r, .bool true]) ∧ w'.ownsRow w.heap.size 3 1 r (lst (stp (rls ts) (sof f n) k) 40).length ((lst (stp (rls ts) (sof f n) k) 40).map nv)) ∧ Below w.heap.size w w' := by
  have HV := hide hv
  obtain ⟨a, cap, rfl⟩ := hv.form
  have HU := hide hu
  obtain ⟨au, cu, rfl⟩ := hu.form
  have HSh := hide hs
  have HO := hide hO
  clear hv hu hs hO
  go_enter Try.func30, Try.ntmps30
  go_wp2_with fail
  refine (set_for _ _ k n ts f _ HV.out HSh.out HU.out hn HO.out).mono ?_
  rintro e w1 ⟨rfl, hb1⟩
  generalize hss : sof f n = s at *
  have HSS := hide hss
  clear hss
  go_wp2_with (first | refine wpList_store_row rfl 63 _ _ rfl w1.heap.size _ rfl rfl 63 _ (heap_alloc_new _ _) (by rw [cf_size]; exact info_fs) (by rw [cf_size]; rfl) (all_one _) ?_ | refine stop_at (some 16) rfl (fun W => Blk W w1.heap.size 40 (bv s) 63 ∧ Below w1.heap.size w1 W) ?hR ?_)
  case hR => exact hide (set_new w1 s _ rfl _ rfl)
  rintro w2 ⟨h2, hb⟩
  have hb2 := hb1.trans (hb.mono hb1.size)
  clear hb HU
  go_wp2_with (first | refine wpList_load_row rfl 63 _ rfl w1.heap.size rfl 63 _ (0, 0) _ h2 Try.underlying63 rfl info_fs ?_ | fail)
  refine (set_step s _ k ts _ (HV.out.below hb2) HO.out.1).mono ?_
  rintro e w3 ⟨rfl, hb⟩
  have hb3 := hb2.trans (hb.mono hb2.size)
  clear hb
  go_wp2_with fail
  refine (set_list _ _).mono ?_
  rintro e w4 ⟨⟨r, rfl, ho⟩, hb⟩
  have hb4 := hb3.trans (hb.mono hb3.size)
  have HR := hide (owns_mono ho hb3.size)
  clear hb ho
  go_wp2
  go_ret2
  exact ⟨⟨_, rfl, by rw [HSS.out]; exact HR.out⟩, hb4⟩
end Go.Proofs.Ytpabnncfcklnpaa

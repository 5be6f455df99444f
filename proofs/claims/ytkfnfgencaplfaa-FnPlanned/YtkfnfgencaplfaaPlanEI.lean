/-
  The program's EarliestOf, for good plans.
-/
import Derived.Test.YtkfnfgencaplfaaPlanE
import Derived.Test.YtkfnfgencaplfaaPlanG
import Derived.Test.YtkfnfgencaplfaaRangeQ
namespace Go.Proofs.Ytkfnfgencaplfaa
open Go.RowKit M
open Clk (upd upd_same upd_other)
attribute [local go_sem] Oper.semAt_some
namespace M
/-- What the loop over the tasks keeps: the list's own box, the beginnings, their box, the box of the end of all. -/
def EI (w : World) (v : Value) (g k : Nat) (ts : Nat → Tk) (_ : Nat) (pre : List Nat) (W : World) : Prop :=
  Blk W w.heap.size 1 (fun _ => v) 25 ∧ Blk W g k (iv (est ts pre)) 3 ∧ Blk W (g + 1) 1 (fun _ => sl g k) 29 ∧ Blk W (g + 2) 1 (fun _ => .int .i64 (eal ts pre)) 3 ∧ Below w.heap.size w W
theorem EI.kept {w A B : World} {v : Value} {g k av L : Nat} {ts : Nat → Tk} {pre : List Nat} (h : EI w v g k ts av pre A) (hg : w.heap.size < g) (hL : g + 3 ≤ L) (hav : L < av) (hk : Kept (fun q => q = av ∨ q = L) A B) : EI w v g k ts av pre B := by
  obtain ⟨h1, h2, h3, h4, h5⟩ := h
  exact ⟨h1.kept hk (by omega), h2.kept hk (by omega), h3.kept hk (by omega), h4.kept hk (by omega), hk.below h5 h5.size (fun q hq => by omega)⟩
theorem EI.down {w A B : World} {v : Value} {g k av : Nat} {ts : Nat → Tk} {pre : List Nat} (h : EI w v g k ts av pre A) (hb : Below A.heap.size A B) : EI w v g k ts av pre B := by
  obtain ⟨h1, h2, h3, h4, h5⟩ := h
  exact ⟨h1.down hb, h2.down hb, h3.down hb, h4.down hb, h5.trans (hb.mono h5.size)⟩
theorem mx_if (a b : Int) : max a b = if a < b then b else a := by split <;> omega
theorem Kept.drewN {S : Nat → Prop} {A B : World} (h : Kept S A B) (n : Nat) : Kept S A (B.drewN n) := ⟨h.os, h.tape, h.output, h.size, h.block⟩
theorem Kept.set1 {g : Nat} {A B : World} (h : Kept (fun q => q = g) A B) (o : Nat) (v : Value) : Kept (fun q => q = g) A (B.setCell ⟨g, o, none⟩ v) :=
  ⟨h.os, h.tape, h.output, by rw [World.size_setCell]; exact h.size, fun k hk hn => (Go.heap_setCell_other _ _ _ _ hn).trans (h.block k hk hn)⟩
theorem Kept.set2 {g g2 : Nat} {A B : World} (h : Kept (fun q => q = g) A B) (o : Nat) (v : Value) : Kept (fun q => q = g ∨ q = g2) A (B.setCell ⟨g2, o, none⟩ v) :=
  ⟨h.os, h.tape, h.output, by rw [World.size_setCell]; exact h.size, fun k hk hn => (Go.heap_setCell_other _ _ _ _ (fun e => hn (.inr e))).trans (h.block k hk (fun e => hn (.inl e)))⟩
end M
set_option maxRecDepth 20000 in
set_option maxHeartbeats 2000000 in
theorem impl_early (v : Value) (k : Nat) (ts : Nat → Tk) (w : World) (hv : TasksOf w v k ts) (hs : Short k ts) (hg : GoodP k ts) :
    Calls Try.prog 27 #[v] w fun e w' => (∃ r, e = .returned (.tuple #[r, .int .i64 (eal ts (ord ts k k)), .bool true]) ∧ AnsC w' w.heap.size r k (est ts (ord ts k k))) ∧ Below w.heap.size w w' := by
  have HV := hide hv
  have HG := hide hg
  have HS := hide hs
  have hk := hg.1.1
  obtain ⟨a, cap, rfl⟩ := hv.form
  have hmk := make_ints k (by omega)
  have hbA := (Below.refl w.heap.size w).alloc (Nat.le_refl _) (.cells #[.slice a k cap] 25)
  have hx0 : Blk (w.alloc (.cells #[.slice a k cap] 25)) w.heap.size 1 (fun _ => .slice a k cap) 25 := Blk.fresh w _ 1 _ 25 rfl
  clear hv hs hg
  refine (callsIn_wide (n := 3)).1 ?_
  refine callsIn_of_wp_marks Try.func27 rfl trivial ?_ rfl
  simp only [Try.ntmps27, List.size_toArray, List.length_cons, List.length_nil, Nat.reduceAdd, Nat.reduceSub, Array.replicate_succ, Array.replicate_zero, List.push_toArray, List.append_toArray, List.nil_append, List.cons_append]
  gi_wp2_with (refine ⟨trivial, ?_⟩; gi_at_call 18; refine (callsIn_wide.2 (impl_good _ k ts true _ (HV.out.below hbA) HS.out (by rw [decide_eq_true_eq]; exact HG.out))).mono ?_; rintro e w1 ⟨rfl, hb⟩; have hx1 := hx0.down hb; have c1 : w1.cell? ⟨w.heap.size, 0, none⟩ = some (.slice a k cap) := hx1.cell (show 0 < 1 by omega); have hb1 := hbA.trans (hb.mono hbA.size); have hl1 := hx1.lt; have c4 : ∀ o1 o2 o3 : Obj, (((w1.alloc o1).alloc o2).alloc o3).cell? ⟨w.heap.size, 0, none⟩ = some (.slice a k cap) := fun o1 o2 o3 => (((((Below.refl _ w1).alloc (Nat.le_refl _) o1).alloc (by simp) o2).alloc (by simp; omega) o3).cell (p := ⟨w.heap.size, 0, none⟩) hl1).trans c1; clear hx0 hb hbA)
  refine ⟨trivial, ?_⟩
  gi_at_call 60
  refine (callsIn_wide.2 (tasks_order a k cap _)).mono ?_
  rintro e w' ⟨rfl, rfl⟩
  simp only [World.size_alloc, Nat.add_assoc, Nat.reduceAdd]
  obtain ⟨A, hA⟩ : ∃ A, ((((w1.alloc (Obj.cells (cf k (iv fun x => 0)) 3)).alloc (Obj.cells #[Value.slice (some ⟨w1.heap.size, 0, none⟩) k k] 29)).alloc (Obj.cells #[Value.int IntKind.i64 0] 3)).alloc (.cells #[.slice a k cap] 25)) = A := ⟨_, rfl⟩
  have hsA : A.heap.size = w1.heap.size + 4 := by rw [← hA]; simp
  have HE := hide (show EI w (.slice a k cap) w1.heap.size k ts 0 [] A ∧ A.cell? ⟨w1.heap.size + 3, 0, none⟩ = some (.slice a k cap) from by
    have b1 := Blk.new w1 k (iv fun _ => 0) 3
    have b2 := Blk.fresh (w1.alloc (Obj.cells (cf k (iv fun x => 0)) 3)) #[Value.slice (some ⟨w1.heap.size, 0, none⟩) k k] 1 (fun _ => sl w1.heap.size k) 29 rfl
    have b3 := Blk.fresh ((w1.alloc (Obj.cells (cf k (iv fun x => 0)) 3)).alloc (Obj.cells #[Value.slice (some ⟨w1.heap.size, 0, none⟩) k k] 29)) #[Value.int IntKind.i64 0] 1 (fun _ => .int .i64 (eal ts [])) 3 rfl
    have b4 := Blk.fresh (((w1.alloc (Obj.cells (cf k (iv fun x => 0)) 3)).alloc (Obj.cells #[Value.slice (some ⟨w1.heap.size, 0, none⟩) k k] 29)).alloc (Obj.cells #[Value.int IntKind.i64 0] 3)) #[.slice a k cap] 1 (fun _ => .slice a k cap) 25 rfl
    simp only [World.size_alloc, Nat.add_assoc, Nat.reduceAdd] at b2 b3 b4
    have b5 := b4.cell (show 0 < 1 by omega)
    rw [hA] at b5
    refine ⟨?_, b5⟩
    rw [← hA]
    exact ⟨(((hx1.alloc _).alloc _).alloc _).alloc _, ((b1.alloc _).alloc _).alloc _, (b2.alloc _).alloc _, b3.alloc _, (((hb1.alloc (by omega) _).alloc (by simp; omega) _).alloc (by simp; omega) _).alloc (by simp; omega) _⟩)
  rw [hA]
  clear hx1 c1 hb1 c4 hA hmk
  generalize hgg : w1.heap.size = g at *
  clear hgg w1
  have hbx := HE.out.2
  have hlo := ord_len_le ts k k
  have hS := order_seq k ts (g + 3) (.slice a k cap) w HG.out.1 HV.out
  gi_wp2
  refine wp_range (gf := 82) (lb := #[.pointer (some ⟨g + 3, 0, none⟩)]) rfl (enters_of Try.func82 (by kernel_rfl) rfl) hS hbx HE.out.1.2.2.2.2 rfl (EI w (.slice a k cap) g k ts) (fun av pre A B hav h hk => ?hI) (fun av A hav hA => ?h0)
    (fun x => { tmps := #[.slice a k cap, .pointer (some ⟨w.heap.size, 0, none⟩), .slice none 0 0, .int .i64 0, .bool false, .pointer (some ⟨g + 1, 0, none⟩), .pointer (some ⟨g + 2, 0, none⟩), .int .i64 (x : Int), undef, undef, .slice a k cap, .bool true, .bool false, .slice a k cap, .int .i64 (k : Int), .slice (some ⟨g, 0, none⟩) k k, .slice a k cap, .func (.func 82) #[] #[.pointer (some ⟨g + 3, 0, none⟩)], .int .i64 (x : Int), undef, undef, undef, undef, undef, undef, undef, undef, undef, undef, undef, undef, undef, undef, undef, undef, undef, undef, undef, undef, undef, undef, undef, undef, undef, undef, undef, undef, undef, undef, undef, undef, undef, undef, undef, undef, undef, undef, undef, undef, undef, undef, undef], defers := [] }) ?assign ?body ?done
  case hI => rw [hsA] at hav hk; exact h.kept hl1 (by omega) (by omega) hk
  case h0 => exact HE.out.1.down hA
  case assign =>
    intro l x W K hK
    gi_wp2
    exact hK
  case body =>
    rintro l av pre x W hI hav hlt hpx
    rw [hsA] at hav
    obtain ⟨i1, i2, i3, i4, i5⟩ := hI
    have hxk : x < k := ord_lt ts k k x (hpx.subset (by simp))
    obtain ⟨hin1, hin2, hin3⟩ := est_in HG.out.1 pre (fun y hy => ord_lt ts k k y (hpx.subset (by simp [hy])))
    have hpl : pre.length + 1 ≤ 30 := by have := hpx.length_le; simp at this; omega
    have c0 : W.cell? ⟨w.heap.size, 0, none⟩ = some (.slice a k cap) := i1.cell (show 0 < 1 by omega)
    obtain ⟨_, _, e, hr⟩ := HV.out
    cases e
    obtain ⟨bb, off, rfl, hbb, hrow⟩ := hr (by omega)
    obtain ⟨y, q1, q2, j1⟩ := hrow x hxk
    obtain ⟨ay, cy, rfl, hry⟩ := j1
    have c1 := (i5.cell (p := ⟨bb, off + x * 2 + 1, none⟩) hbb).trans q2
    have HQ1 := hide q1
    have HY := hide hry
    have HRw := hide hrow
    have hnn := HG.out.1.len hxk
    have hlx := (HG.out.1.2 x hxk).1
    have hx0 : (0 : Int) ≤ (x : Int) := by omega
    have hx1 : (x : Int) < (k : Int) := by omega
    have HIn := hide hin1
    have HEs := hide (est_snoc ts pre x)
    have HEa := hide (eal_snoc ts pre x)
    have H0 := hide i2
    have HI := hide (And.intro i1 (And.intro i3 (And.intro i4 i5)))
    generalize hE : est ts pre = E at *
    generalize hAA : eal ts pre = AA at *
    clear hrow q1 q2 hry hE hAA hin1 i1 i2 i3 i4 i5 hr hpx hS hbx HV HE
    gi_wp2
    gi_loopw [25] (fun z wr => ∃ j : Nat, j ≤ (ts x).nn ∧ z = .int .i64 j ∧ Hid (Blk wr g k (iv (bN ts E x j)) 3) ∧ Hid (Kept (fun q => q = g) W wr)) (fun z _ => (ts x).nn - (intOf z).toNat)
    case atStart => exact ⟨0, Nat.zero_le _, rfl, H0, hide ⟨rfl, rfl, rfl, Nat.le_refl _, fun _ _ _ => rfl⟩⟩
    case round =>
      rename World => wq
      obtain ⟨j, hj, rfl, HBj, HKj⟩ := hrel
      obtain ⟨i1, i3, i4, i5⟩ := HI.out
      have hbq1 := HKj.out.below i5 i5.size (fun q hq => by omega)
      have hInj := bN_in HG.out.1 HIn.out hxk j hj
      have hj30 : 100 * (j : Int) ≤ 3000 := by omega
      have d0 := HBj.out.cell_ints hxk
      have t0 := HBj.out.thaw x
      have hIx := hInj x
      have f0 : wq.cell? ⟨w.heap.size, 0, none⟩ = some (.slice (some ⟨bb, off, none⟩) k cap) := (i1.kept HKj.out (by omega)).cell (show 0 < 1 by omega)
      have f1 : wq.cell? ⟨g + 1, 0, none⟩ = some (sl g k) := (i3.kept HKj.out (by omega)).cell (show 0 < 1 by omega)
      have f2 : wq.cell? ⟨g + 2, 0, none⟩ = some (.int .i64 AA) := (i4.kept HKj.out (by omega)).cell (show 0 < 1 by omega)
      have t2 : wq.frozen? ⟨g + 2, 0, none⟩ = false := (i4.kept HKj.out (by omega)).thaw 0
      by_cases hjl : j < (ts x).nn
      · obtain ⟨by_, oy, rfl, hby, hrowy⟩ := HY.out (by omega)
        obtain ⟨z, hz, hzk, hzn⟩ := HG.out.1.need hxk hjl
        obtain ⟨_, p1, -, -⟩ := HRw.out z hzk
        have e0 := (hbq1.cell (p := ⟨by_, oy + j, none⟩) hby).trans (hrowy j hjl)
        rw [hz] at e0
        have e1 := (hbq1.cell (p := ⟨bb, off + z * 2, none⟩) hbb).trans p1
        have e2 := HBj.out.cell_ints hzk
        have hIz := hInj z
        have hlz := (HG.out.1.2 z hzk).1
        have hz0 : (0 : Int) ≤ (z : Int) := by omega
        have hz1 : (z : Int) < (k : Int) := by omega
        have hst : bN ts E x (j + 1) = upd (bN ts E x j) x (if bN ts E x j x < bN ts E x j z + (ts z).long then bN ts E x j z + (ts z).long else bN ts E x j x) := by simp only [bN, hzn, mx_if]
        have HB2 := hide (show ∀ nq, Blk ((wq.drewN nq).setCell ⟨g, x, none⟩ (.int .i64 (max (bN ts E x j x) (bN ts E x j z + (ts z).long)))) g k (iv (bN ts E x (j + 1))) 3 ∧ Kept (fun q => q = g) W ((wq.drewN nq).setCell ⟨g, x, none⟩ (.int .i64 (max (bN ts E x j x) (bN ts E x j z + (ts z).long)))) from fun nq => by
          rw [hst, ← mx_if]
          exact ⟨Blk.set_int (w := wq.drewN nq) HBj.out x _, (HKj.out.drewN nq).set1 _ _⟩)
        clear hrowy p1 hz hzn hst HBj HY HRw HEs HEa HQ1 H0 hInj HIn i1 i3 i4 i5 HI HKj
        generalize bN ts E x j z = vz at *
        generalize bN ts E x j x = vx at *
        generalize (ts z).long = lz at *
        gi_wp2
        refine region_store rfl (by kernel_rfl) (by kernel_rfl) rfl (by kernel_rfl) ?_
        simp only [still, noop, List.dropLast, List.getLast?_cons_cons, List.getLast?_singleton, Option.map_some, Option.toList_some, List.cons_append, List.nil_append, List.getLast_cons_cons, List.getLast_singleton]
        repeat (go_big_quiet_step (fail))
        refine wpQuiet_nil ?_
        rintro _ ⟨nq, rfl⟩
        gi_wp2
        exact ⟨⟨j + 1, by omega, by go_num, hide (HB2.out _).1, hide (HB2.out _).2⟩, by simp [intOf]; omega⟩
      · obtain rfl : j = (ts x).nn := by omega
        have g0 := (hbq1.cell (p := ⟨bb, off + x * 2, none⟩) hbb).trans HQ1.out
        have HF := hide (show ∀ (nq : Nat) (a : Act) (m : Int), m = max AA (bN ts E x (ts x).nn x + (ts x).long) → RoundP (EI w (.slice (some ⟨bb, off, none⟩) k cap) g k ts) av (g + 4) (g + 3) (pre ++ [x]) w.heap.size W .normal a ((wq.drewN nq).setCell ⟨g + 2, 0, none⟩ (.int .i64 m)) from fun nq _ m hm => by
          have hk2 : Kept (fun q => q = g ∨ q = g + 2) W ((wq.drewN nq).setCell ⟨g + 2, 0, none⟩ (.int .i64 m)) := (HKj.out.drewN nq).set2 _ _
          have hl2 := hk2.block
          have i4k := i4.kept HKj.out (show ¬ g + 2 = g by omega)
          have i4' := Blk.set (w := wq.drewN nq) i4k 0 (.int .i64 m)
          refine RoundP.intro ⟨i1.kept hk2 (by omega), ?_, i3.kept hk2 (by omega), ?_, hk2.below i5 i5.size (fun q hq => by omega)⟩ ⟨hl2 av (by omega) (by omega), hl2 _ (by omega) (by omega), hl2 _ (by omega) (by omega)⟩ (hl2 _ (by omega) (by omega)) (hk2.below (Below.refl _ _) i5.size (fun q hq => by omega))
          · rw [HEs.out]
            exact Blk.set_other (w := wq.drewN nq) HBj.out (by omega) _ _
          · rw [HEa.out, HEs.out, ← hm]
            exact i4'.ext fun i hi => by rw [Nat.lt_one_iff.1 hi]; exact upd_same _ _ _)
        clear HBj HY HRw HEs HEa HQ1 H0 hInj HIn i1 i3 i4 i5 HI HKj
        generalize bN ts E x (ts x).nn x = vx at *
        generalize (ts x).long = lx at *
        gi_wp2
        refine region_store rfl (by kernel_rfl) (by kernel_rfl) rfl (by kernel_rfl) ?_
        simp only [still, noop, List.dropLast, List.getLast?_cons_cons, List.getLast?_singleton, Option.map_some, Option.toList_some, List.cons_append, List.nil_append, List.getLast_cons_cons, List.getLast_singleton]
        repeat (go_big_quiet_step (fail))
        refine wpQuiet_nil ?_
        rintro _ ⟨nq, rfl⟩
        gi_wp2
        all_goals refine HF.out nq _ _ ?_
        all_goals first | omega | (split <;> omega)
  case done =>
    rintro av W hav hI hK
    rw [hsA] at hav hK
    obtain ⟨i1, i2, i3, i4, i5⟩ := hI
    have c1 : W.cell? ⟨g + 1, 0, none⟩ = some (sl g k) := i3.cell (show 0 < 1 by omega)
    have c2 : W.cell? ⟨g + 2, 0, none⟩ = some (.int .i64 (eal ts (ord ts k k))) := i4.cell (show 0 < 1 by omega)
    have hl4 := (Array.getElem?_eq_some_iff.1 hK).1
    have hkp : Kept (fun q => q = g + 4) W.drew (W.drew.putObj (g + 4) (.deferred none)) := Kept.of_put _ rfl
    have i5d : Below w.heap.size w W.drew := ⟨i5.os, i5.tape, i5.output, i5.size, i5.block⟩
    have HR := hide (show AnsC (W.drew.putObj (g + 4) (.deferred none)) w.heap.size (sl g k) k (est ts (ord ts k k)) ∧ Below w.heap.size w (W.drew.putObj (g + 4) (.deferred none)) from
      ⟨AnsI.ansC ⟨g, rfl, by omega, i2.drew.kept hkp (by omega)⟩, hkp.below i5d i5d.size (fun q hq => by omega)⟩)
    clear i1 i2 i3 i4 i5 hkp i5d hS hbx HE HV
    gi_wp2
    gi_region
    gi_wp2
    rw [hsA]
    refine ⟨by simp, .inl ⟨_, _, rfl, run_takeDeferred hK, ?_⟩⟩
    exact ⟨_, results_tmp3 rfl _ _ _, ⟨_, rfl, HR.out.1⟩, HR.out.2⟩
end Go.Proofs.Ytkfnfgencaplfaa

/-
  The program's LatestOf, for good plans.
-/
import Derived.Test.YtkfnfgencaplfaaPlanF
import Derived.Test.YtkfnfgencaplfaaPlanEI
import Derived.Test.YtkfnfgencaplfaaRangeB
namespace Go.Proofs.Ytkfnfgencaplfaa
open Go.RowKit M
open Clk (upd upd_same upd_other)
attribute [local go_sem] Oper.semAt_some
namespace M
/-- What both loops keep: the list's own box, the beginnings, their box. -/
def FI (w : World) (v : Value) (g k : Nat) (f : Nat → Int) (W : World) : Prop :=
  Blk W w.heap.size 1 (fun _ => v) 25 ∧ Blk W g k (iv f) 3 ∧ Blk W (g + 1) 1 (fun _ => sl g k) 29 ∧ Below w.heap.size w W
theorem FI.kept {S : Nat → Prop} {w A B : World} {v : Value} {g k : Nat} {f : Nat → Int} (h : FI w v g k f A) (hg : w.heap.size < g) (hS : ∀ q, S q → g + 2 ≤ q) (hk : Kept S A B) : FI w v g k f B := by
  obtain ⟨h1, h2, h3, h5⟩ := h
  exact ⟨h1.kept hk (fun h => by have := hS _ h; omega), h2.kept hk (fun h => by have := hS _ h; omega), h3.kept hk (fun h => by have := hS _ h; omega), hk.below h5 h5.size (fun q hq => by have := hS _ hq; omega)⟩
theorem FI.down {w A B : World} {v : Value} {g k : Nat} {f : Nat → Int} (h : FI w v g k f A) (hb : Below A.heap.size A B) : FI w v g k f B := by
  obtain ⟨h1, h2, h3, h5⟩ := h
  exact ⟨h1.down hb, h2.down hb, h3.down hb, h5.trans (hb.mono h5.size)⟩
theorem FI.set {w A : World} {v : Value} {g k : Nat} {f : Nat → Int} (h : FI w v g k f A) (hg : w.heap.size < g) (i : Nat) (x : Int) : FI w v g k (upd f i x) (A.setCell ⟨g, i, none⟩ (.int .i64 x)) := by
  obtain ⟨h1, h2, h3, h5⟩ := h
  exact ⟨h1.set_other (by omega) _ _, h2.set_int _ _, h3.set_other (by omega) _ _, h5.setCell (Nat.le_of_lt hg) _⟩
theorem FI.ext {w A : World} {v : Value} {g k : Nat} {f f' : Nat → Int} (h : FI w v g k f A) (he : ∀ j, j < k → f j = f' j) : FI w v g k f' A := by
  obtain ⟨h1, h2, h3, h5⟩ := h
  exact ⟨h1, h2.ext fun j hj => by unfold iv; rw [he j hj], h3, h5⟩
theorem IntsOf.kept {S : Nat → Prop} {A B : World} {a : Option Addr} {n cap : Nat} {f : Nat → Int} (h : IntsOf A (.slice a n cap) n f) (hk : Kept S A B) (hne : ∀ p, a = some p → ¬ S p.block) : IntsOf B (.slice a n cap) n f := by
  obtain ⟨a', cap', e, hr⟩ := h
  cases e
  refine ⟨a, cap, rfl, fun hn => ?_⟩
  obtain ⟨b, off, rfl, hb, hrow⟩ := hr hn
  refine ⟨b, off, rfl, Nat.lt_of_lt_of_le hb hk.size, fun i hi => ?_⟩
  rw [← hrow i hi]
  exact World.cell?_of_block (a := ⟨b, off + i, none⟩) (hk.block b hb (hne _ rfl))
theorem BackC.kept {S : Nat → Prop} {A B : World} {bl : Nat} {a : Option Addr} {n cap : Nat} {xs : List Nat} (h : BackC bl (.slice a n cap) n xs A) (hk : Kept S A B) (h1 : ¬ S bl) (hne : ∀ p, a = some p → ¬ S p.block) : BackC bl (.slice a n cap) n xs B :=
  ⟨(World.cell?_of_block (a := ⟨bl, 0, none⟩) (hk.block bl (World.block_lt_of_cell? _ _ h.1) h1)).trans h.1, h.2.kept hk hne⟩
theorem Kept.of_down {S : Nat → Prop} {A B : World} (hb : Below A.heap.size A B) : Kept S A B := ⟨hb.os, hb.tape, hb.output, hb.size, fun k hk _ => hb.block k hk⟩
theorem AnsC.addr {w : World} {B n cap : Nat} {a : Option Addr} {f : Nat → Int} (h : AnsC w B (.slice a n cap) n f) : ∀ p, a = some p → B ≤ p.block ∧ p.block < w.heap.size := by
  rcases h with ⟨e, _⟩ | ⟨b, cap', e, hB, hk⟩
  · cases e; intro p hp; cases hp
  · cases e; intro p hp; cases hp; exact ⟨hB, hk.lt⟩
theorem mn_if (a b : Int) : min a b = if b < a then b else a := by split <;> omega
end M
theorem backward_is (a : Option Addr) (n cap : Nat) (w : World) :
    Calls Try.prog 64 #[.slice a n cap] w fun e w' => e = .returned (.func (.func 83) #[] #[.pointer (some ⟨w.heap.size, 0, none⟩)]) ∧ w' = w.alloc (.cells #[.slice a n cap] 29) := by
  go_enter Try.func64, Try.ntmps64
  go_wp2
  go_ret
  exact ⟨rfl, rfl⟩
set_option maxRecDepth 20000 in
set_option maxHeartbeats 4000000 in
theorem impl_late (v : Value) (k : Nat) (ts : Nat → Tk) (w : World) (hv : TasksOf w v k ts) (hs : Short k ts) (hg : GoodP k ts) :
    Calls Try.prog 29 #[v] w fun e w' => (∃ r, e = .returned (.tuple #[r, .bool true]) ∧ AnsC w' w.heap.size r k (lat ts (eal ts (ord ts k k)) (ord ts k k).reverse)) ∧ Below w.heap.size w w' := by
  have HV := hide hv
  have HG := hide hg
  have HS := hide hs
  have hk := hg.1.1
  have hlen : (ord ts k k).length = k := hg.2
  obtain ⟨-, hea1, hea2⟩ := est_in hg.1 (ord ts k k) (fun x hx => ord_lt ts k k x hx)
  have hea : 0 ≤ eal ts (ord ts k k) ∧ eal ts (ord ts k k) ≤ 93000 := by rw [hlen] at hea2; omega
  obtain ⟨a, cap, rfl⟩ := hv.form
  have hmk := make_ints k (by omega)
  have hbA := (Below.refl w.heap.size w).alloc (Nat.le_refl _) (.cells #[.slice a k cap] 25)
  have hx0 : Blk (w.alloc (.cells #[.slice a k cap] 25)) w.heap.size 1 (fun _ => .slice a k cap) 25 := Blk.fresh w _ 1 _ 25 rfl
  clear hv hs hg hea1 hea2
  refine (callsIn_wide (n := 3)).1 ?_
  refine callsIn_of_wp_marks Try.func29 rfl trivial ?_ rfl
  simp only [Try.ntmps29, List.size_toArray, List.length_cons, List.length_nil, Nat.reduceAdd, Nat.reduceSub, Array.replicate_succ, Array.replicate_zero, List.push_toArray, List.append_toArray, List.nil_append, List.cons_append]
  gi_wp2_with (refine ⟨trivial, ?_⟩; gi_at_call 27; refine (callsIn_wide.2 (impl_early _ k ts _ (HV.out.below hbA) HS.out HG.out)).mono ?_; rintro e w1 ⟨⟨r, rfl, hr⟩, hb⟩; obtain ⟨ar, cr, rfl⟩ := hr.form; have hx1 := hx0.down hb; have c1 : w1.cell? ⟨w.heap.size, 0, none⟩ = some (.slice a k cap) := hx1.cell (show 0 < 1 by omega); have hb1 := hbA.trans (hb.mono hbA.size); have hl1 := hx1.lt; have c4 : ∀ o1 o2 : Obj, ((w1.alloc o1).alloc o2).cell? ⟨w.heap.size, 0, none⟩ = some (.slice a k cap) := fun o1 o2 => ((((Below.refl _ w1).alloc (Nat.le_refl _) o1).alloc (by simp) o2).cell (p := ⟨w.heap.size, 0, none⟩) hl1).trans c1; clear hx0 hb hbA hr)
  have HF0 := hide (show FI w (.slice a k cap) w1.heap.size k (fun _ => 0) ((w1.alloc (.cells (cf k (iv fun x => 0)) 3)).alloc (.cells #[.slice (some ⟨w1.heap.size, 0, none⟩) k k] 29)) from by
    have b1 := Blk.new w1 k (iv fun _ => 0) 3
    have b2 := Blk.fresh (w1.alloc (Obj.cells (cf k (iv fun x => 0)) 3)) #[Value.slice (some ⟨w1.heap.size, 0, none⟩) k k] 1 (fun _ => sl w1.heap.size k) 29 rfl
    simp only [World.size_alloc] at b2
    exact ⟨(hx1.alloc _).alloc _, b1.alloc _, b2, (hb1.alloc (by omega) _).alloc (by simp; omega) _⟩)
  have hgl : w.heap.size < w1.heap.size := hl1
  clear hx1 c1 hb1 hl1 c4 hmk
  generalize w1.heap.size = g at *
  generalize hAA : eal ts (ord ts k k) = all at *
  have HAA := hide hAA
  clear hAA
  gi_loopw [27] (fun y wr => ∃ i : Nat, i ≤ k ∧ y = .int .i64 i ∧ Hid (∃ f, FI w (.slice a k cap) g k f wr ∧ ∀ j, j < i → f j = all - (ts j).long)) (fun y _ => k - (intOf y).toNat)
  case atStart => exact ⟨0, Nat.zero_le _, rfl, hide ⟨_, HF0.out, fun j hj => by omega⟩⟩
  case round =>
    rename World => wo
    obtain ⟨i, hik, rfl, HF⟩ := hrel
    by_cases hlt : i < k
    · obtain ⟨f, hf, hfj⟩ := HF.out
      obtain ⟨f1, f2, f3, f5⟩ := hf
      obtain ⟨_, _, e, hr⟩ := HV.out
      cases e
      obtain ⟨bb, off, rfl, hbb, hrow⟩ := hr (by omega)
      obtain ⟨y, q1, q2, i1⟩ := hrow i hlt
      obtain ⟨ay, cy, rfl, hry⟩ := i1
      have c0 := (f5.cell (p := ⟨bb, off + i * 2, none⟩) hbb).trans q1
      have c1 := (f5.cell (p := ⟨bb, off + i * 2 + 1, none⟩) hbb).trans q2
      have hdn := fun o : Obj => (Below.refl wo.heap.size wo).alloc (Nat.le_refl _) o
      have t0 := fun o : Obj => (f2.down (hdn o)).thaw i
      have c3 : ∀ o : Obj, (wo.alloc o).cell? ⟨g + 1, 0, none⟩ = some (sl g k) := fun o => (f3.down (hdn o)).cell (show 0 < 1 by omega)
      have c5 := fun o : Obj => (f2.down (hdn o)).cell_ints hlt
      have hli := (HG.out.1.2 i hlt).1
      have hi0 : (0 : Int) ≤ (i : Int) := by omega
      have hi1 : (i : Int) < (k : Int) := by omega
      have HF2 := hide (show ∀ o : Obj, ∃ f, FI w (.slice (some ⟨bb, off, none⟩) k cap) g k f ((wo.alloc o).setCell ⟨g, i, none⟩ (.int .i64 (all - (ts i).long))) ∧ ∀ j, j < i + 1 → f j = all - (ts j).long from fun o =>
        ⟨_, FI.set (FI.down ⟨f1, f2, f3, f5⟩ (hdn o)) hgl i _, fun j hj => by
          by_cases e : j = i
          · rw [e]; exact upd_same _ _ _
          · rw [upd_other _ _ _ _ e]; exact hfj j (by omega)⟩)
      clear hfj hrow q1 q2 HF hr hry f1 f2 f3 HV HF0 hdn
      generalize (ts i).long = li at *
      gi_wp2
      exact ⟨⟨i + 1, by omega, by go_num, hide (HF2.out _)⟩, by simp [intOf]; omega⟩
    · obtain rfl : k = i := by omega
      have HB0 := hide (show FI w (.slice a k cap) g k (lat ts all []) wo from by
        obtain ⟨f, hf, hfj⟩ := HF.out
        exact hf.ext fun j hj => by rw [hfj j hj]; rfl)
      have c0 : wo.cell? ⟨w.heap.size, 0, none⟩ = some (.slice a k cap) := HB0.out.1.cell (show 0 < 1 by omega)
      have hsz := HB0.out.2.2.1.lt
      clear HF HF0
      gi_wp2
      refine ⟨trivial, ?_⟩
      gi_at_call 60
      refine (callsIn_wide.2 (tasks_order a k cap _)).mono ?_
      rintro e w' ⟨rfl, rfl⟩
      have hbo := HB0.out.2.2.2
      have hbo1 := hbo.alloc hbo.size (.cells #[.slice a k cap] 25)
      have hdn := (Below.refl wo.heap.size wo).alloc (Nat.le_refl _) (.cells #[.slice a k cap] 25)
      have HCol := hide (collect_is k ts wo.heap.size _ _ HG.out.1 (cell1 wo _ _) (HV.out.below hbo1))
      gi_wp2
      refine ⟨trivial, ?_⟩
      gi_at_call 59
      refine (callsIn_wide.2 HCol.out).mono ?_
      rintro e w3 ⟨⟨r, rfl, hr⟩, hb3⟩
      rw [pv_range, hlen] at hr
      have hra := own_ansC hr
      obtain ⟨a3, c3, rfl⟩ := own_form hr
      have hadr := hra.addr
      have hb3' := hdn.trans (hb3.mono (by simp))
      have HF3 := hide (HB0.out.down hb3')
      have HRI := hide hra.ints
      have hs3 := hb3'.size
      rw [World.size_alloc] at hadr
      clear HB0 hra hr HCol c0 hbo hbo1 hdn hb3 hb3'
      gi_wp2
      refine ⟨trivial, ?_⟩
      gi_at_call 64
      refine (callsIn_wide.2 (backward_is a3 k c3 w3)).mono ?_
      rintro e w' ⟨rfl, rfl⟩
      have hdn := (Below.refl w3.heap.size w3).alloc (Nat.le_refl _) (.cells #[.slice a3 k c3] 29)
      have HI0 := hide (show FI w (.slice a k cap) g k (lat ts all []) (w3.alloc (.cells #[.slice a3 k c3] 29)) ∧ BackC w3.heap.size (.slice a3 k c3) k (ord ts k k).reverse (w3.alloc (.cells #[.slice a3 k c3] 29)) from by
        refine ⟨HF3.out.down hdn, cell1 w3 _ _, ?_⟩
        obtain ⟨_, _, e, hr⟩ := HRI.out.below hdn
        cases e
        refine ⟨_, _, rfl, fun h => ?_⟩
        obtain ⟨b, off, hb1, hb2, hrow⟩ := hr h
        refine ⟨b, off, hb1, hb2, fun i hi => ?_⟩
        rw [hrow i hi]
        have hir : k - 1 - i < (ord ts k k).reverse.length := by rw [List.length_reverse]; omega
        have hre := rev_at hlen hir
        rw [show k - 1 - (k - 1 - i) = i by omega] at hre
        show _ = some (Value.int .i64 (((ord ts k k).reverse.getD (k - 1 - i) 0 : Nat) : Int))
        rw [hre, List.getD_eq_getElem?_getD, List.getElem?_eq_getElem hir, Option.getD_some])
      obtain ⟨A, hA⟩ : ∃ A, w3.alloc (.cells #[.slice a3 k c3] 29) = A := ⟨_, rfl⟩
      have hsA : A.heap.size = w3.heap.size + 1 := by rw [← hA]; simp
      rw [hA] at HI0 ⊢
      generalize hB : w3.heap.size = B at *
      clear hA HF3 HRI hdn hB w3
      have hS := backward_seq B a3 k c3 (ord ts k k).reverse (by rw [List.length_reverse]; exact hlen) (by omega)
      have HOl := hide (show ∀ x ∈ (ord ts k k).reverse, x < k from fun x hx => ord_lt ts k k x (List.mem_reverse.1 hx))
      have hrl : (ord ts k k).reverse.length = k := by rw [List.length_reverse]; exact hlen
      generalize hxs : (ord ts k k).reverse = xs at *
      have HXS := hide hxs
      clear hlen hxs
      gi_wp2
      refine wp_rangeB (gf := 83) (lb := #[.pointer (some ⟨B, 0, none⟩)]) rfl (enters_of Try.func83 (by kernel_rfl) rfl) hS (fun _ _ => rfl) (fun pre W => FI w (.slice a k cap) g k (lat ts all pre) W ∧ BackC B (.slice a3 k c3) k xs W) (fun pre A B h hk => ?hI) (fun pre A h => h.2) (fun A hA hs => ?h0)
        (fun n x => { tmps := #[.slice a k cap, .pointer (some ⟨w.heap.size, 0, none⟩), .slice none 0 0, .bool false, .slice ar k cr, .int .i64 all, .bool true, .pointer (some ⟨g + 1, 0, none⟩), u8, u9, undef, .int .i64 (x : Int), undef, undef, .tuple #[.slice ar k cr, .int .i64 all, .bool true], .slice a k cap, .tuple #[.slice ar k cr, .int .i64 all, .bool true], .slice ar k cr, .int .i64 all, .bool true, .bool true, .bool false, .slice a k cap, .int .i64 (k : Int), .slice (some ⟨g, 0, none⟩) k k, .slice a k cap, .int .i64 (k : Int), .int .i64 (k : Int), .bool false, u29, u30, u31, u32, u33, u34, u35, u36, u37, u38, u39, .slice a k cap, .func (.func 82) #[] #[.pointer (some ⟨wo.heap.size, 0, none⟩)], .slice a3 k c3, .func (.func 83) #[] #[.pointer (some ⟨B, 0, none⟩)], .int .i64 ((k : Int) - 1 - n), .int .i64 (x : Int), undef, undef, undef, undef, undef, undef, undef, undef, undef, undef, undef, undef, undef, undef, undef, undef, undef, undef, undef, undef, undef, undef, undef, undef, undef, undef, undef, undef, undef, undef], defers := [] }) ?assign ?body ?done
      case hI =>
        rw [hsA] at hk
        exact ⟨h.1.kept hgl (fun q hq => by omega) hk, h.2.kept hk (by omega) (fun p hp => by have := hadr p hp; omega)⟩
      case h0 =>
        exact ⟨HI0.out.1.down hA, HI0.out.2.kept (S := fun _ => False) (Kept.of_down hA) (fun h => h) (fun _ _ h => h)⟩
      case assign =>
        intro l n x W K hK
        gi_wp2
        exact hK
      case body =>
        rintro l pre x W ⟨hF, hBk⟩ hlt hpx
        rw [hsA] at hlt
        have hxk : x < k := HOl.out x (hpx.subset (by simp))
        have hin := lat_in HG.out.1 hea pre (fun y hy => HOl.out y (hpx.subset (by simp [hy])))
        have hpl : pre.length + 1 ≤ 30 := by have := hpx.length_le; simp at this; omega
        obtain ⟨i1, i2, i3, i5⟩ := hF
        have c0 : W.cell? ⟨w.heap.size, 0, none⟩ = some (.slice a k cap) := i1.cell (show 0 < 1 by omega)
        obtain ⟨_, _, e, hr⟩ := HV.out
        cases e
        obtain ⟨bb, off, rfl, hbb, hrow⟩ := hr (by omega)
        obtain ⟨y, q1, q2, j1⟩ := hrow x hxk
        obtain ⟨ay, cy, rfl, hry⟩ := j1
        have c1 := (i5.cell (p := ⟨bb, off + x * 2 + 1, none⟩) hbb).trans q2
        have HY := hide hry
        have HRw := hide hrow
        have hnn := HG.out.1.len hxk
        have hx0 : (0 : Int) ≤ (x : Int) := by omega
        have hx1 : (x : Int) < (k : Int) := by omega
        have HIn := hide hin
        have HEs := hide (lat_snoc ts all pre x)
        have H0 := hide i2
        have HI := hide (And.intro i1 (And.intro i3 (And.intro i5 hBk)))
        generalize hE : lat ts all pre = E at *
        clear hrow q1 q2 hry hE hin i1 i2 i3 i5 hr hpx hS HV HI0 hBk
        gi_wp2
        gi_loopw [52] (fun z wr => ∃ j : Nat, j ≤ (ts x).nn ∧ z = .int .i64 j ∧ Hid (Blk wr g k (iv (lN ts E x j)) 3) ∧ Hid (Kept (fun q => q = g) W wr)) (fun z _ => (ts x).nn - (intOf z).toNat)
        case atStart => exact ⟨0, Nat.zero_le _, rfl, H0, hide ⟨rfl, rfl, rfl, Nat.le_refl _, fun _ _ _ => rfl⟩⟩
        case round =>
          rename World => wq
          obtain ⟨j, hj, rfl, HBj, HKj⟩ := hrel
          obtain ⟨i1, i3, i5, iB⟩ := HI.out
          have hbq1 := HKj.out.below i5 i5.size (fun q hq => by omega)
          have hInj := lN_in HG.out.1 HIn.out hxk j hj
          have hj30 : 100 * (j : Int) ≤ 3000 := by omega
          have d0 := HBj.out.cell_ints hxk
          have hIx := hInj x hxk
          have f0 : wq.cell? ⟨w.heap.size, 0, none⟩ = some (.slice (some ⟨bb, off, none⟩) k cap) := (i1.kept HKj.out (by omega)).cell (show 0 < 1 by omega)
          have f1 : wq.cell? ⟨g + 1, 0, none⟩ = some (sl g k) := (i3.kept HKj.out (by omega)).cell (show 0 < 1 by omega)
          by_cases hjl : j < (ts x).nn
          · obtain ⟨by_, oy, rfl, hby, hrowy⟩ := HY.out (by omega)
            obtain ⟨z, hz, hzk, hzn⟩ := HG.out.1.need hxk hjl
            obtain ⟨_, p1, -, -⟩ := HRw.out z hzk
            have e0 := (hbq1.cell (p := ⟨by_, oy + j, none⟩) hby).trans (hrowy j hjl)
            rw [hz] at e0
            have e1 := (hbq1.cell (p := ⟨bb, off + z * 2, none⟩) hbb).trans p1
            have e2 := HBj.out.cell_ints hzk
            have t0 := HBj.out.thaw z
            have hIz := hInj z hzk
            have hlz := (HG.out.1.2 z hzk).1
            have hz0 : (0 : Int) ≤ (z : Int) := by omega
            have hz1 : (z : Int) < (k : Int) := by omega
            have hst : lN ts E x (j + 1) = upd (lN ts E x j) z (min (lN ts E x j z) (lN ts E x j x - (ts z).long)) := by simp only [lN, hzn]
            have HB2 := hide (show ∀ (nq : Nat) (m : Int), m = min (lN ts E x j z) (lN ts E x j x - (ts z).long) → Blk ((wq.drewN nq).setCell ⟨g, z, none⟩ (.int .i64 m)) g k (iv (lN ts E x (j + 1))) 3 ∧ Kept (fun q => q = g) W ((wq.drewN nq).setCell ⟨g, z, none⟩ (.int .i64 m)) from fun nq m hm => by
              rw [hst, ← hm]
              exact ⟨Blk.set_int (w := wq.drewN nq) HBj.out z _, (HKj.out.drewN nq).set1 _ _⟩)
            clear hrowy p1 hz hzn hst HBj HY HRw HEs H0 hInj HIn i1 i3 i5 iB HI HKj
            generalize lN ts E x j z = vz at *
            generalize lN ts E x j x = vx at *
            generalize (ts z).long = lz at *
            gi_wp2
            refine region_store rfl (by kernel_rfl) (by kernel_rfl) rfl (by kernel_rfl) ?_
            simp only [still, noop, List.dropLast, List.getLast?_cons_cons, List.getLast?_singleton, Option.map_some, Option.toList_some, List.cons_append, List.nil_append, List.getLast_cons_cons, List.getLast_singleton]
            repeat (go_big_quiet_step (fail))
            refine wpQuiet_nil ?_
            rintro _ ⟨nq, rfl⟩
            gi_wp2
            all_goals refine ⟨⟨j + 1, by omega, by go_num, hide (HB2.out _ _ ?_).1, hide (HB2.out _ _ ?_).2⟩, by simp [intOf]; omega⟩
            all_goals first | omega | (split <;> omega)
          · obtain rfl : j = (ts x).nn := by omega
            have HF := hide (show ∀ a : Act, RoundB (fun pre W => FI w (.slice (some ⟨bb, off, none⟩) k cap) g k (lat ts all pre) W ∧ BackC B (.slice a3 k c3) k xs W) (B + 1) (pre ++ [x]) W .normal a wq from fun _ => by
              refine RoundB.intro ⟨⟨i1.kept HKj.out (by omega), by rw [HEs.out]; exact HBj.out, i3.kept HKj.out (by omega), hbq1⟩, iB.kept HKj.out (by omega) (fun p hp => by have := hadr p hp; omega)⟩ (HKj.out.block _ (by omega) (by omega)) (HKj.out.block _ (by omega) (by omega)))
            clear HBj HY HRw HEs H0 hInj HIn i1 i3 i5 iB HI HKj
            gi_wp2
            rw [hsA]
            exact HF.out _
      case done =>
        rintro W ⟨hF, -⟩ hK
        rw [hsA] at hK
        obtain ⟨i1, i2, i3, i5⟩ := hF
        have c1 : W.cell? ⟨g + 1, 0, none⟩ = some (sl g k) := i3.cell (show 0 < 1 by omega)
        have hkp : Kept (fun q => q = B + 1) W (W.putObj (B + 1) (.deferred none)) := Kept.of_put _ rfl
        have HR := hide (show AnsC (W.putObj (B + 1) (.deferred none)) w.heap.size (sl g k) k (lat ts (eal ts (ord ts k k)) (ord ts k k).reverse) ∧ Below w.heap.size w (W.putObj (B + 1) (.deferred none)) from by
          rw [HAA.out, HXS.out]
          exact ⟨AnsI.ansC ⟨g, rfl, by omega, i2.kept hkp (by omega)⟩, hkp.below i5 i5.size (fun q hq => by omega)⟩)
        clear i1 i2 i3 i5 hkp hS HI0 HV
        gi_wp2
        rw [hsA]
        refine ⟨by simp, .inl ⟨_, _, rfl, run_takeDeferred hK, ?_⟩⟩
        exact ⟨_, results_tmp2 rfl _ _ _, ⟨_, rfl, HR.out.1⟩, HR.out.2⟩
end Go.Proofs.Ytkfnfgencaplfaa

/-
  The program's NeedsAll, for good plans and a task of theirs.
-/
import Derived.Test.YtkfnfgencaplfaaPlanN
import Derived.Test.YtkfnfgencaplfaaPlanFI
namespace Go.Proofs.Ytkfnfgencaplfaa
open Go.RowKit M
open Clk (upd upd_same upd_other)
attribute [local go_sem] Oper.semAt_some
namespace M
/-- What the loop over the tasks keeps: the list's own box, the task's, the marks. -/
def NI (w : World) (v : Value) (t g : Nat) (s : Nat → Bool) (W : World) : Prop :=
  Blk W w.heap.size 1 (fun _ => v) 25 ∧ Blk W (w.heap.size + 1) 1 (fun _ => .int .i64 (t : Int)) 3 ∧ Blk W g 30 (bv s) 90 ∧ Below w.heap.size w W
theorem NI.kept {S : Nat → Prop} {w A B : World} {v : Value} {t g : Nat} {s : Nat → Bool} (h : NI w v t g s A) (hg : w.heap.size + 1 < g) (hS : ∀ q, S q → g + 1 ≤ q) (hk : Kept S A B) : NI w v t g s B := by
  obtain ⟨h1, h2, h3, h5⟩ := h
  exact ⟨h1.kept hk (fun h => by have := hS _ h; omega), h2.kept hk (fun h => by have := hS _ h; omega), h3.kept hk (fun h => by have := hS _ h; omega), hk.below h5 h5.size (fun q hq => by have := hS _ hq; omega)⟩
theorem NI.down {w A B : World} {v : Value} {t g : Nat} {s : Nat → Bool} (h : NI w v t g s A) (hb : Below A.heap.size A B) : NI w v t g s B := by
  obtain ⟨h1, h2, h3, h5⟩ := h
  exact ⟨h1.down hb, h2.down hb, h3.down hb, h5.trans (hb.mono h5.size)⟩
theorem back_start {ts : Nat → Tk} {k c3 : Nat} {a3 : Option Addr} {w3 : World} (hlen : (ord ts k k).length = k) (h : IntsOf w3 (.slice a3 k c3) k (lv (ord ts k k))) : BackC w3.heap.size (.slice a3 k c3) k (ord ts k k).reverse (w3.alloc (.cells #[.slice a3 k c3] 29)) := by
  refine ⟨cell1 w3 _ _, ?_⟩
  obtain ⟨_, _, e, hr⟩ := h.below ((Below.refl w3.heap.size w3).alloc (Nat.le_refl _) (.cells #[.slice a3 k c3] 29))
  cases e
  refine ⟨_, _, rfl, fun h => ?_⟩
  obtain ⟨b, off, hb1, hb2, hrow⟩ := hr h
  refine ⟨b, off, hb1, hb2, fun i hi => ?_⟩
  rw [hrow i hi]
  have hir : k - 1 - i < (ord ts k k).reverse.length := by rw [List.length_reverse]; omega
  have hre := rev_at hlen hir
  rw [show k - 1 - (k - 1 - i) = i by omega] at hre
  show _ = some (Value.int .i64 (((ord ts k k).reverse.getD (k - 1 - i) 0 : Nat) : Int))
  rw [hre, List.getD_eq_getElem?_getD, List.getElem?_eq_getElem hir, Option.getD_some]
end M
set_option maxRecDepth 20000 in
set_option maxHeartbeats 4000000 in
theorem impl_needs (v : Value) (k : Nat) (ts : Nat → Tk) (t : Nat) (w : World) (hv : TasksOf w v k ts) (hs : Short k ts) (hg : GoodP k ts) (ht : t < k) :
    Calls Try.prog 44 #[v, .int .i64 (t : Int)] w fun e w' => (∃ r, e = .returned (.tuple #[r, .bool true]) ∧ AnsC w' w.heap.size r (sel (nds ts t (ord ts k k).reverse) k).length (lv (sel (nds ts t (ord ts k k).reverse) k))) ∧ Below w.heap.size w w' := by
  obtain ⟨i0, hi, hz0, hz1, hz2⟩ := info_parts info_int
  have HV := hide hv
  have HG := hide hg
  have HS := hide hs
  have hk := hg.1.1
  have hlen : (ord ts k k).length = k := hg.2
  obtain ⟨a, cap, rfl⟩ := hv.form
  have hbA := ((Below.refl w.heap.size w).alloc (Nat.le_refl _) (.cells #[.slice a k cap] 25)).alloc (by simp) (.cells #[.int .i64 (t : Int)] 3)
  have hx0 : Blk ((w.alloc (.cells #[.slice a k cap] 25)).alloc (.cells #[.int .i64 (t : Int)] 3)) w.heap.size 1 (fun _ => .slice a k cap) 25 := by
    have := Blk.fresh w #[.slice a k cap] 1 (fun _ => .slice a k cap) 25 rfl
    exact this.alloc _
  have hy0 : Blk ((w.alloc (.cells #[.slice a k cap] 25)).alloc (.cells #[.int .i64 (t : Int)] 3)) (w.heap.size + 1) 1 (fun _ => .int .i64 (t : Int)) 3 := by
    have := Blk.fresh (w.alloc (.cells #[.slice a k cap] 25)) #[.int .i64 (t : Int)] 1 (fun _ => .int .i64 (t : Int)) 3 rfl
    rwa [World.size_alloc] at this
  have hc0 := hx0.cell (show 0 < 1 by omega)
  have hwi : decide (0 ≤ (t : Int) ∧ (t : Int) ≤ (k : Int) - 1) = true := by rw [decide_eq_true_eq]; omega
  clear hv hs hg
  refine (callsIn_wide (n := 3)).1 ?_
  refine callsIn_of_wp_marks Try.func44 rfl trivial ?_ rfl
  simp only [Try.ntmps44, List.size_toArray, List.length_cons, List.length_nil, Nat.reduceAdd, Nat.reduceSub, Array.replicate_succ, Array.replicate_zero, List.push_toArray, List.append_toArray, List.nil_append, List.cons_append]
  gi_wp2_with (refine ⟨trivial, ?_⟩; gi_at_call 18; refine (callsIn_wide.2 (impl_good _ k ts true _ (HV.out.below hbA) HS.out (by rw [decide_eq_true_eq]; exact HG.out))).mono ?_; rintro e w1 ⟨rfl, hb⟩; have hx1 := hx0.down hb; have hy1 := hy0.down hb; have c1 : w1.cell? ⟨w.heap.size, 0, none⟩ = some (.slice a k cap) := hx1.cell (show 0 < 1 by omega); have d1 : w1.cell? ⟨w.heap.size + 1, 0, none⟩ = some (.int .i64 (t : Int)) := hy1.cell (show 0 < 1 by omega); have hb1 := hbA.trans (hb.mono hbA.size); have hl1 := hy1.lt; clear hx0 hy0 hb hbA hc0)
  refine ⟨trivial, ?_⟩
  gi_at_call 57
  refine (callsIn_wide.2 (within_to _ _ _ _ _ hwi)).mono ?_
  rintro e w' ⟨rfl, rfl⟩
  have c2 : ∀ o : Obj, (w'.alloc o).cell? ⟨w.heap.size, 0, none⟩ = some (.slice a k cap) := fun o => (((Below.refl _ w').alloc (Nat.le_refl _) o).cell (p := ⟨w.heap.size, 0, none⟩) (show w.heap.size < w'.heap.size by omega)).trans c1
  gi_wp2
  refine ⟨trivial, ?_⟩
  gi_at_call 60
  refine (callsIn_wide.2 (tasks_order a k cap _)).mono ?_
  rintro e w'' ⟨rfl, rfl⟩
  clear c2
  generalize hwo : w'.alloc _ = wo at *
  have HB0 := hide (show NI w (.slice a k cap) t w'.heap.size (fun _ => false) wo from by
    rw [← hwo]
    exact ⟨hx1.alloc _, hy1.alloc _, Blk.fresh w' _ 30 _ _ rfl, hb1.alloc (by omega) _⟩)
  clear hwo hx1 hy1 c1 d1 hb1
  generalize w'.heap.size = g at *
  have c0 : wo.cell? ⟨w.heap.size, 0, none⟩ = some (.slice a k cap) := HB0.out.1.cell (show 0 < 1 by omega)
  have hsz := HB0.out.2.2.1.lt
  have hbo := HB0.out.2.2.2
  have hbo1 := hbo.alloc hbo.size (.cells #[.slice a k cap] 25)
  have hdn := (Below.refl wo.heap.size wo).alloc (Nat.le_refl _) (.cells #[.slice a k cap] 25)
  have HCol := hide (collect_is k ts wo.heap.size _ _ HG.out.1 (cell1 wo _ _) (HV.out.below hbo1))
  gi_wp2
  refine ⟨trivial, ?_⟩
  gi_at_call 59
  refine (callsIn_wide.2 HCol.out).mono ?_
  rintro e w3 ⟨⟨r, rfl, hr⟩, hb3⟩
  rw [pv_range, hlen] at hr
  have hra := own_ansC hr
  obtain ⟨a3, c3, rfl⟩ := own_form hr
  have hadr := hra.addr
  have hb3' := hdn.trans (hb3.mono (by simp))
  have HF3 := hide (HB0.out.down hb3')
  have HRI := hide hra.ints
  have hs3 := hb3'.size
  rw [World.size_alloc] at hadr
  clear HB0 hra hr HCol c0 hbo hbo1 hdn hb3 hb3'
  gi_wp2
  refine ⟨trivial, ?_⟩
  gi_at_call 64
  refine (callsIn_wide.2 (backward_is a3 k c3 w3)).mono ?_
  rintro e w' ⟨rfl, rfl⟩
  have HI0 := hide (show NI w (.slice a k cap) t g (nds ts t []) (w3.alloc (.cells #[.slice a3 k c3] 29)) ∧ BackC w3.heap.size (.slice a3 k c3) k (ord ts k k).reverse (w3.alloc (.cells #[.slice a3 k c3] 29)) from
    ⟨HF3.out.down ((Below.refl w3.heap.size w3).alloc (Nat.le_refl _) _), back_start hlen HRI.out⟩)
  obtain ⟨A, hA⟩ : ∃ A, w3.alloc (.cells #[.slice a3 k c3] 29) = A := ⟨_, rfl⟩
  have hsA : A.heap.size = w3.heap.size + 1 := by rw [← hA]; simp
  rw [hA] at HI0 ⊢
  generalize hB : w3.heap.size = B at *
  clear hA HF3 HRI hB w3
  have hS := backward_seq B a3 k c3 (ord ts k k).reverse (by rw [List.length_reverse]; exact hlen) (by omega)
  have HOl := hide (show ∀ x ∈ (ord ts k k).reverse, x < k from fun x hx => ord_lt ts k k x (List.mem_reverse.1 hx))
  have hrl : (ord ts k k).reverse.length = k := by rw [List.length_reverse]; exact hlen
  generalize hxs : (ord ts k k).reverse = xs at *
  have HXS := hide hxs
  clear hlen hxs
  gi_wp2
  refine wp_rangeB (gf := 83) (lb := #[.pointer (some ⟨B, 0, none⟩)]) rfl (enters_of Try.func83 (by kernel_rfl) rfl) hS (fun _ _ => rfl) (fun pre W => NI w (.slice a k cap) t g (nds ts t pre) W ∧ BackC B (.slice a3 k c3) k xs W) (fun pre A B h hk => ?hI) (fun pre A h => h.2) (fun A hA hs => ?h0)
    (fun n x => { tmps := #[.slice a k cap, .int .i64 (t : Int), .pointer (some ⟨w.heap.size, 0, none⟩), .pointer (some ⟨w.heap.size + 1, 0, none⟩), .slice none 0 0, .bool false, .pointer (some ⟨g, 0, none⟩), undef, .int .i64 (x : Int), undef, undef, undef, undef, .slice a k cap, .bool true, .bool false, .bool false, .int .i64 (t : Int), .slice a k cap, .int .i64 (k : Int), .int .i64 ((k : Int) - 1), .bool true, .bool false, .bool false, .slice a k cap, .func (.func 82) #[] #[.pointer (some ⟨wo.heap.size, 0, none⟩)], .slice a3 k c3, .func (.func 83) #[] #[.pointer (some ⟨B, 0, none⟩)], .int .i64 ((k : Int) - 1 - n), .int .i64 (x : Int), undef, undef, undef, undef, undef, undef, undef, undef, undef, undef, undef, undef, undef, undef, undef, undef, undef, undef, undef, undef, undef, undef, undef, undef, undef, undef, undef, undef, undef, undef, undef, undef, undef, undef, undef], defers := [] }) ?assign ?body ?done
  case hI =>
    rw [hsA] at hk
    exact ⟨h.1.kept hl1 (fun q hq => by omega) hk, h.2.kept hk (by omega) (fun p hp => by have := hadr p hp; omega)⟩
  case h0 =>
    exact ⟨HI0.out.1.down hA, HI0.out.2.kept (S := fun _ => False) (Kept.of_down hA) (fun h => h) (fun _ _ h => h)⟩
  case assign =>
    intro l n x W K hK
    gi_wp2
    exact hK
  case body =>
    rintro l pre x W ⟨hF, hBk⟩ hlt hpx
    rw [hsA] at hlt
    have hxk : x < k := HOl.out x (hpx.subset (by simp))
    obtain ⟨i1, i2, i3, i5⟩ := hF
    have c0 : W.cell? ⟨w.heap.size, 0, none⟩ = some (.slice a k cap) := i1.cell (show 0 < 1 by omega)
    have c2 : W.cell? ⟨w.heap.size + 1, 0, none⟩ = some (.int .i64 (t : Int)) := i2.cell (show 0 < 1 by omega)
    have c5 := i3.cell_bv (show x < 30 by omega)
    have HEs := hide (nds_snoc ts t pre x)
    have hx0 : (0 : Int) ≤ (x : Int) := by omega
    have hx1 : (x : Int) < 30 := by omega
    have hx2 : (x : Int) < (k : Int) := by omega
    have HEnd := hide (show ∀ (wq : World) (a' : Act), Blk wq g 30 (bv (nds ts t (pre ++ [x]))) 90 → Kept (fun q => q = g) W wq → RoundB (fun pre W => NI w (.slice a k cap) t g (nds ts t pre) W ∧ BackC B (.slice a3 k c3) k xs W) (B + 1) (pre ++ [x]) W .normal a' wq from fun wq _ hb hk =>
      RoundB.intro ⟨⟨i1.kept hk (by omega), i2.kept hk (by omega), hb, hk.below i5 i5.size (fun q hq => by omega)⟩, hBk.kept hk (by omega) (fun p hp => by have := hadr p hp; omega)⟩ (hk.block _ (by omega) (by omega)) (hk.block _ (by omega) (by omega)))
    have H0 := hide i3
    have hsA' := hide hsA
    unfold ndS at HEs
    obtain ⟨_, _, e, hr⟩ := HV.out
    cases e
    obtain ⟨bb, off, rfl, hbb, hrow⟩ := hr (by omega)
    obtain ⟨y, q1, q2, j1⟩ := hrow x hxk
    obtain ⟨ay, cy, rfl, hry⟩ := j1
    have c1 := (i5.cell (p := ⟨bb, off + x * 2 + 1, none⟩) hbb).trans q2
    have HY := hide hry
    have hnn := HG.out.1.len hxk
    have HB := hide HG.out.1
    clear hrow q1 q2 hry i1 i2 i3 hr hpx hS HV HI0 hBk HS HG hadr hwi HXS HOl hlt
    generalize hs' : nds ts t (pre ++ [x]) = s' at *
    generalize hs : nds ts t pre = s at *
    clear hs hs'
    have hcase : x = t ∨ (x ≠ t ∧ s x = true) ∨ (x ≠ t ∧ s x = false) := by
      by_cases h : x = t
      · exact .inl h
      · cases hsx : s x with
        | true => exact .inr (.inl ⟨h, rfl⟩)
        | false => exact .inr (.inr ⟨h, rfl⟩)
    rcases hcase with hxt | ⟨hxt, hsx⟩ | ⟨hxt, hsx⟩
    rotate_left 2
    · have hne : ¬ ((x : Int) = (t : Int)) := by omega
      have hne2 : ((x : Int) == (t : Int)) = false := by simpa using hne
      rw [hsx] at c5
      have HE2 := hide (show s' = s from by rw [HEs.out, if_neg (by rw [decide_eq_false hxt, hsx]; simp)])
      clear HEs HY
      gi_wp2
      rw [hsA]
      exact HEnd.out _ _ (by rw [HE2.out]; exact H0.out) ⟨rfl, rfl, rfl, Nat.le_refl _, fun _ _ _ => rfl⟩
    all_goals have HE2 := hide (show s' = setN ts s x (ts x).nn from by rw [HEs.out, if_pos (by first | (rw [decide_eq_true hxt]; simp) | (rw [hsx]; simp))])
    all_goals clear HEs
    · subst hxt
      gi_wp2
      gi_loopw [44] (fun z wr => ∃ j : Nat, j ≤ (ts x).nn ∧ z = .int .i64 j ∧ Hid (Blk wr g 30 (bv (setN ts s x j)) 90) ∧ Hid (Kept (fun q => q = g) W wr)) (fun z _ => (ts x).nn - (intOf z).toNat)
      case atStart => exact ⟨0, Nat.zero_le _, rfl, H0, hide ⟨rfl, rfl, rfl, Nat.le_refl _, fun _ _ _ => rfl⟩⟩
      case round =>
        rename World => wq
        obtain ⟨j, hj, rfl, HBj, HKj⟩ := hrel
        have hbq1 := HKj.out.below i5 i5.size (fun q hq => by omega)
        by_cases hjl : j < (ts x).nn
        · obtain ⟨by_, oy, rfl, hby, hrowy⟩ := HY.out (by omega)
          obtain ⟨z, hz, hzk, hzn⟩ := HB.out.need hxk hjl
          have e0 := (hbq1.cell (p := ⟨by_, oy + j, none⟩) hby).trans (hrowy j hjl)
          rw [hz] at e0
          have t0 := HBj.out.thaw z
          have e2 := HBj.out.cell_bv (show z < 30 by omega)
          have hz0 : (0 : Int) ≤ (z : Int) := by omega
          have hz1 : (z : Int) < 30 := by omega
          have HB2 := hide (show Blk (wq.setCell ⟨g, z, none⟩ (.bool true)) g 30 (bv (setN ts s x (j + 1))) 90 ∧ Kept (fun q => q = g) W (wq.setCell ⟨g, z, none⟩ (.bool true)) from by
            have hst : setN ts s x (j + 1) = upd (setN ts s x j) z true := by simp only [setN, need, hzn]
            rw [hst]
            exact ⟨HBj.out.set_bv z, HKj.out.set1 _ _⟩)
          clear hrowy hz hzn HBj HY H0 HKj HEnd HE2 HB
          gi_wp2
          exact ⟨⟨j + 1, by omega, by go_num, hide HB2.out.1, hide HB2.out.2⟩, by simp [intOf]; omega⟩
        · obtain rfl : j = (ts x).nn := by omega
          have HBf := hide (show Blk wq g 30 (bv s') 90 from by rw [HE2.out]; exact HBj.out)
          clear HBj HY H0 HB HE2
          gi_wp2
          rw [hsA]
          exact HEnd.out _ _ HBf.out HKj.out
    · have hne : ¬ ((x : Int) = (t : Int)) := by omega
      have hne2 : ((x : Int) == (t : Int)) = false := by simpa using hne
      rw [hsx] at c5
      gi_wp2
      gi_loopw [44] (fun z wr => ∃ j : Nat, j ≤ (ts x).nn ∧ z = .int .i64 j ∧ Hid (Blk wr g 30 (bv (setN ts s x j)) 90) ∧ Hid (Kept (fun q => q = g) W wr)) (fun z _ => (ts x).nn - (intOf z).toNat)
      case atStart => exact ⟨0, Nat.zero_le _, rfl, H0, hide ⟨rfl, rfl, rfl, Nat.le_refl _, fun _ _ _ => rfl⟩⟩
      case round =>
        rename World => wq
        obtain ⟨j, hj, rfl, HBj, HKj⟩ := hrel
        have hbq1 := HKj.out.below i5 i5.size (fun q hq => by omega)
        by_cases hjl : j < (ts x).nn
        · obtain ⟨by_, oy, rfl, hby, hrowy⟩ := HY.out (by omega)
          obtain ⟨z, hz, hzk, hzn⟩ := HB.out.need hxk hjl
          have e0 := (hbq1.cell (p := ⟨by_, oy + j, none⟩) hby).trans (hrowy j hjl)
          rw [hz] at e0
          have t0 := HBj.out.thaw z
          have e2 := HBj.out.cell_bv (show z < 30 by omega)
          have hz0 : (0 : Int) ≤ (z : Int) := by omega
          have hz1 : (z : Int) < 30 := by omega
          have HB2 := hide (show Blk (wq.setCell ⟨g, z, none⟩ (.bool true)) g 30 (bv (setN ts s x (j + 1))) 90 ∧ Kept (fun q => q = g) W (wq.setCell ⟨g, z, none⟩ (.bool true)) from by
            have hst : setN ts s x (j + 1) = upd (setN ts s x j) z true := by simp only [setN, need, hzn]
            rw [hst]
            exact ⟨HBj.out.set_bv z, HKj.out.set1 _ _⟩)
          clear hrowy hz hzn HBj HY H0 HKj HEnd HE2 HB
          gi_wp2
          exact ⟨⟨j + 1, by omega, by go_num, hide HB2.out.1, hide HB2.out.2⟩, by simp [intOf]; omega⟩
        · obtain rfl : j = (ts x).nn := by omega
          have HBf := hide (show Blk wq g 30 (bv s') 90 from by rw [HE2.out]; exact HBj.out)
          clear HBj HY H0 HB HE2
          gi_wp2
          rw [hsA]
          exact HEnd.out _ _ HBf.out HKj.out
  case done =>
    rintro W ⟨hF, -⟩ hK
    rw [hsA] at hK ⊢
    clear hsA
    obtain ⟨i1, i2, i3, i5⟩ := hF
    have c0 : W.cell? ⟨w.heap.size, 0, none⟩ = some (.slice a k cap) := i1.cell (show 0 < 1 by omega)
    have hKl := (Array.getElem?_eq_some_iff.1 hK).1
    have H3 := hide i3
    have HQ := hide HXS.out
    have hWs := i5.size
    clear i1 i2 i3 hS HI0 HV HOl hadr
    generalize hd : nds ts t xs = d at *
    have HD := hide (show nds ts t (ord ts k k).reverse = d by rw [HQ.out]; exact hd)
    clear hd
    gi_wp2
    gi_loopw [11, 53] (fun x y wr => ∃ i : Nat, i ≤ k ∧ y = .int .i64 i ∧ Hid (wr.ownsRow W.heap.size 3 1 x (sel d i).length (pv (sel d i))) ∧ Below W.heap.size W wr) (fun _ y _ => k - (intOf y).toNat)
    case atStart => exact ⟨0, Nat.zero_le _, rfl, hide (World.ownsRow_nil _ _ _ _), Below.refl _ _⟩
    case round =>
      rename World => wr
      obtain ⟨i, hik, rfl, HW, hbw⟩ := hrel
      obtain ⟨ax, cx, rfl⟩ := own_form HW.out
      have hso := hbw.size
      by_cases hlt : i < k
      · have d0 := (H3.out.down hbw).cell_bv (show i < 30 by omega)
        have hi0 : (0 : Int) ≤ (i : Int) := by omega
        have hi1 : (i : Int) < 30 := by omega
        have hi2 : (i : Int) < (k : Int) := by omega
        cases hdi : d i with
        | true =>
          rw [hdi] at d0
          have hbE := (Below.refl wr.heap.size wr).alloc (Nat.le_refl _) (.cells #[.int .i64 (i : Int)] 3)
          have hrE := owns_below HW.out hbE
          have hsl := sel_len d i
          have HSl := hide (sel_yes hdi)
          clear HW hdi H3
          generalize sel d i = L at *
          gi_wp2_with (gi_at_builtin; refine wpListIn_append_own _ rfl _ _ 29 rfl W.heap.size 3 i0 _ 1 8 Try.underlying29 hi hz0 hz1 hz2 rfl (by decide) _ L.length _ rfl hrE ⟨wr.heap.size, 0, none⟩ 1 1 [.int .i64 (i : Int)] rfl rfl (news1 wr _ _) (by intro u hu; simp at hu; subst hu; rfl) (by unfold maxLen; omega) (by omega) (by simp; omega) ?_)
          intro v7 w7 hown7 hgrow7 _
          have hb7 : Below W.heap.size W w7 := (hbw.trans (hbE.mono hso)).grown hgrow7 (by simp; omega) (fun q hq => (hrE.lt q hq).1)
          obtain ⟨a7, c7, rfl⟩ := own_form hown7
          have HW7 := hide (show w7.ownsRow W.heap.size 3 1 (.slice a7 (L.length + 1) c7) (sel d (i + 1)).length (pv (sel d (i + 1))) from by rw [HSl.out, pv_snoc, List.length_append]; exact hown7)
          clear hgrow7 hown7 hrE hbE HSl
          gi_wp2
          exact ⟨⟨i + 1, by omega, by go_num, HW7, hb7⟩, by simp [intOf]; omega⟩
        | false =>
          rw [hdi] at d0
          have HW2 := hide (show wr.ownsRow W.heap.size 3 1 (.slice ax (sel d i).length cx) (sel d (i + 1)).length (pv (sel d (i + 1))) from by rw [sel_no hdi]; exact HW.out)
          clear HW hdi H3
          gi_wp2
          exact ⟨⟨i + 1, by omega, by go_num, HW2, hbw⟩, by simp [intOf]; omega⟩
      · obtain rfl : k = i := by omega
        have hKr : wr.heap[B + 1]? = some (.deferred (some [])) := (hbw.block _ hKl).trans hK
        have hkp : Kept (fun q => q = B + 1) wr (wr.putObj (B + 1) (.deferred none)) := Kept.of_put _ rfl
        have hbf := hkp.below (i5.trans (hbw.mono hWs)) (by omega) (fun q hq => by omega)
        have HA := hide (show AnsC (wr.putObj (B + 1) (.deferred none)) w.heap.size (.slice ax (sel d k).length cx) (sel (nds ts t (ord ts k k).reverse) k).length (lv (sel (nds ts t (ord ts k k).reverse) k)) from by
          rw [HD.out]
          have h1 := owns_kept HW.out hkp (fun g hg => by have := (HW.out.lt g hg).1; omega)
          rw [pv_range] at h1
          exact (own_ansC h1).mono hWs)
        clear HW H3 hkp
        gi_wp2
        refine ⟨by simp, .inl ⟨_, _, rfl, run_takeDeferred hKr, ?_⟩⟩
        exact ⟨_, results_tmp2 rfl _ _ _, ⟨_, rfl, HA.out⟩, hbf⟩
end Go.Proofs.Ytkfnfgencaplfaa

/-
  The specification's NeedsAll; both texts where there is no good plan or no such task.
-/
import Derived.Test.YtkfnfgencaplfaaPlanN
import Derived.Test.YtkfnfgencaplfaaPlanFS
namespace Go.Proofs.Ytkfnfgencaplfaa
open Go.RowKit M
open Clk (upd upd_same upd_other)
namespace M
/-- The marks are such as are needed, and the task's own needs are marked. -/
def Sd (k : Nat) (ts : Nat → Tk) (t : Nat) (s : Nat → Bool) : Prop := (∀ y, y < k → s y = true → Nd ts t y) ∧ ∀ j, j < (ts t).nn → s (need ts t j) = true
def Cl (ts : Nat → Tk) (s : Nat → Bool) (x : Nat) : Prop := s x = true → ∀ j, j < (ts x).nn → s (need ts x j) = true
theorem Sd.eq_nds {k : Nat} {ts : Nat → Tk} {t : Nat} {s : Nat → Bool} (h : Sd k ts t s) (hc : ∀ x, x < k → Cl ts s x) (hg : GoodP k ts) (ht : t < k) {y : Nat} (hy : y < k) : s y = nds ts t (ord ts k k).reverse y := by
  have h1 : s y = true ↔ nds ts t (ord ts k k).reverse y = true := by
    rw [nds_iff hg ht]
    constructor
    · exact h.1 y hy
    · intro hn
      clear hy
      induction hn with
      | one hj => exact h.2 _ hj
      | more hy hj ih => exact hc _ (hy.lt hg.1 ht) ih _ hj
  cases h2 : s y <;> cases h3 : nds ts t (ord ts k k).reverse y <;> simp_all
theorem Sd.mark {k : Nat} {ts : Nat → Tk} {t x j z : Nat} {s : Nat → Bool} (h : Sd k ts t s) (hx : x < k) (hs : s x = true) (hj : j < (ts x).nn) (hz : need ts x j = z) : Sd k ts t (Clk.upd s z true) := by
  refine ⟨fun y hy hu => ?_, fun i hi => ?_⟩
  · unfold Clk.upd at hu
    split at hu
    · rename_i e; rw [e, ← hz]; exact .more (h.1 x hx hs) hj
    · exact h.1 y hy hu
  · unfold Clk.upd
    split
    · rfl
    · exact h.2 i hi
theorem Sd.first (k : Nat) (ts : Nat → Tk) (t : Nat) : Sd k ts t (setN ts (fun _ => false) t (ts t).nn) := by
  refine ⟨fun y _ hu => ?_, fun i hi => ?_⟩
  · rw [setN_iff] at hu
    rcases hu with hu | ⟨i, hi, rfl⟩
    · cases hu
    · exact .one hi
  · rw [setN_iff]; exact .inr ⟨i, hi, rfl⟩
def bi (b : Bool) : Nat := if b = true then 1 else 0
theorem cnt_upd {s : Nat → Bool} {z k : Nat} (hz : s z = false) (hzk : z < k) : cnt (Clk.upd s z true) k = cnt s k + 1 :=
  cnt_add hz (fun x => by unfold Clk.upd; by_cases e : x = z <;> simp [e]) k hzk
def wcnt (W : World) (g k : Nat) : Nat := cnt (fun i => match W.cell? ⟨g, i, none⟩ with | some (.bool b) => b | _ => false) k
theorem wcnt_eq {W : World} {g k : Nat} {s : Nat → Bool} {T : TypeId} (h : Blk W g k (bv s) T) : wcnt W g k = cnt s k := cnt_congr k fun x hx => by rw [h.cell_bv hx]
def boolN : Value → Nat
  | .bool b => bi b
  | _ => 0
end M
set_option maxRecDepth 20000 in
set_option maxHeartbeats 4000000 in
theorem spec_needs (v : Value) (k : Nat) (ts : Nat → Tk) (t : Nat) (w : World) (hv : TasksOf w v k ts) (hs : Short k ts) (hg : GoodP k ts) (ht : t < k) :
    Calls Try.prog 43 #[v, .int .i64 (t : Int)] w fun e w' => (∃ r, e = .returned (.tuple #[r, .bool true]) ∧ IntsOf w' r (sel (nds ts t (ord ts k k).reverse) k).length (lv (sel (nds ts t (ord ts k k).reverse) k))) ∧ Below w.heap.size w w' := by
  obtain ⟨i0, hi, hz0, hz1, hz2⟩ := info_parts info_int
  have HV := hide hv
  have HG := hide hg
  have HS := hide hs
  have hk := hg.1.1
  have HR := hide (show ∀ (y : Nat) (s : Nat → Bool), Sd k ts t s → (∀ x, x < k → Cl ts s x) → y < k → s y = nds ts t (ord ts k k).reverse y from fun y s h hc hy => h.eq_nds hc hg ht hy)
  have hwi : decide (0 ≤ (t : Int) ∧ (t : Int) ≤ (k : Int) - 1) = true := by rw [decide_eq_true_eq]; omega
  obtain ⟨a, cap, rfl⟩ := hv.form
  have hmk := make_bools k (by omega)
  clear hv hs hg
  go_enter Try.func43, Try.ntmps43
  go_wp2_with fail
  refine (spec_good _ k ts true _ HV.out HS.out (by rw [decide_eq_true_eq]; exact HG.out)).mono ?_
  rintro e w1 ⟨rfl, hb1⟩
  go_wp2_with fail
  refine (l1in_to _ _ _ _ _ hwi).mono ?_
  rintro e w' ⟨rfl, rfl⟩
  have hs1 := hb1.size
  have hbA := (Below.refl w'.heap.size w').alloc (Nat.le_refl _) (.cells (cf k (fun _ => .bool false)) 4)
  have H0 := hide (show Blk (w'.alloc (.cells (cf k (fun _ => .bool false)) 4)) w'.heap.size k (bv (setN ts (fun _ => false) t 0)) 4 from Blk.new w' k _ 4)
  obtain ⟨_, _, e, hr⟩ := HV.out
  cases e
  obtain ⟨bb, off, rfl, hbb, hrow⟩ := hr (by omega)
  have HRw := hide hrow
  obtain ⟨y, q1, q2, i1⟩ := hrow t ht
  obtain ⟨ay, cy, rfl, hry⟩ := i1
  have c1 := (hb1.cell (p := ⟨bb, off + t * 2 + 1, none⟩) hbb).trans q2
  have c2 := (hbA.cell (p := ⟨bb, off + t * 2 + 1, none⟩) (show bb < w'.heap.size by omega)).trans c1
  have HY := hide hry
  have hnt := HG.out.1.len ht
  have ht0 : (0 : Int) ≤ (t : Int) := by omega
  have ht1 : (t : Int) < (k : Int) := by omega
  generalize hgg : w'.heap.size = g at *
  clear hrow hr q1 q2 hry
  go_wp2_with fail
  go_loopw [36] (fun z wr => ∃ j : Nat, j ≤ (ts t).nn ∧ z = .int .i64 j ∧ Hid (Blk wr g k (bv (setN ts (fun _ => false) t j)) 4) ∧ Below g w' wr) (fun z _ => (ts t).nn - (intOf z).toNat)
  case atStart => exact ⟨0, Nat.zero_le _, rfl, H0, hbA⟩
  case round =>
    rename World => wq
    obtain ⟨j, hj, rfl, HBj, hbq⟩ := hrel
    have hbq1 := hb1.trans (hbq.mono (by omega))
    by_cases hjl : j < (ts t).nn
    · obtain ⟨by_, oy, rfl, hby, hrowy⟩ := HY.out (by omega)
      obtain ⟨z, hz, hzk, hzn⟩ := HG.out.1.need ht hjl
      have e0 := (hbq1.cell (p := ⟨by_, oy + j, none⟩) hby).trans (hrowy j hjl)
      rw [hz] at e0
      have t0 := HBj.out.thaw z
      have e2 := HBj.out.cell_bv hzk
      have hz0 : (0 : Int) ≤ (z : Int) := by omega
      have hz1 : (z : Int) < (k : Int) := by omega
      have HB2 := hide (show Blk (wq.setCell ⟨g, z, none⟩ (.bool true)) g k (bv (setN ts (fun _ => false) t (j + 1))) 4 ∧ Below g w' (wq.setCell ⟨g, z, none⟩ (.bool true)) from by
        have hst : setN ts (fun _ => false) t (j + 1) = upd (setN ts (fun _ => false) t j) z true := by simp only [setN, need, hzn]
        rw [hst]
        exact ⟨HBj.out.set_bv z, hbq.setCell (Nat.le_refl _) _⟩)
      clear hrowy hz hzn HBj HY H0 HR HRw HV HS
      go_wp2
      exact ⟨⟨j + 1, by omega, by go_num, hide HB2.out.1, HB2.out.2⟩, by simp [intOf]; omega⟩
    · obtain rfl : j = (ts t).nn := by omega
      have HB0 := hide (show ∃ s, Blk wq g k (bv s) 4 ∧ Sd k ts t s ∧ (true = false → ∀ x, x < k → Cl ts s x) from ⟨_, HBj.out, Sd.first k ts t, fun h => by cases h⟩)
      clear HBj HY H0 HS HV c1 c2
      go_wp2_with fail
      go_loopw [9] (fun x wr => ∃ b : Bool, x = .bool b ∧ Hid (∃ s, Blk wr g k (bv s) 4 ∧ Sd k ts t s ∧ (b = false → ∀ x, x < k → Cl ts s x)) ∧ Below g w' wr) (fun x wr => 2 * (k - wcnt wr g k) + boolN x)
      case atStart => exact ⟨true, rfl, HB0, hbq⟩
      case round =>
        rename World => wo
        obtain ⟨b, rfl, HSd, hbo⟩ := hrel
        cases b with
        | false =>
          clear HB0
          obtain ⟨s, hbs, hsd, hcl⟩ := HSd.out
          have HBs := hide hbs
          have HEq := hide (show ∀ y, y < k → s y = nds ts t (ord ts k k).reverse y from fun y hy => HR.out y s hsd (hcl rfl) hy)
          clear hbs hsd hcl HSd HR HRw
          generalize hdd : nds ts t (ord ts k k).reverse = d at *
          have HD := hide hdd
          clear hdd
          have hfin := hb1.trans (hbo.mono (by omega))
          have hso := hfin.size
          go_wp2_with fail
          go_loopw [13, 78] (fun x y wr => ∃ i : Nat, i ≤ k ∧ y = .int .i64 i ∧ Hid (wr.ownsRow wo.heap.size 3 1 x (sel d i).length (pv (sel d i))) ∧ Below wo.heap.size wo wr) (fun _ y _ => k - (intOf y).toNat)
          case atStart => exact ⟨0, Nat.zero_le _, rfl, hide (World.ownsRow_nil _ _ _ _), Below.refl _ _⟩
          case round =>
            rename World => wr
            obtain ⟨i, hik, rfl, HW, hbw⟩ := hrel
            obtain ⟨ax, cx, rfl⟩ := own_form HW.out
            have hsw := hbw.size
            by_cases hlt : i < k
            · have d0 := (HBs.out.down hbw).cell_bv hlt
              rw [HEq.out i hlt] at d0
              have hi0 : (0 : Int) ≤ (i : Int) := by omega
              have hi1 : (i : Int) < (k : Int) := by omega
              cases hdi : d i with
              | true =>
                rw [hdi] at d0
                have hbE := (Below.refl wr.heap.size wr).alloc (Nat.le_refl _) (.cells #[.int .i64 (i : Int)] 3)
                have hrE := owns_below HW.out hbE
                have hsl := sel_len d i
                have HSl := hide (sel_yes hdi)
                clear HW hdi HBs HEq
                generalize sel d i = L at *
                go_wp2_with (at_builtin; refine wpList_append_own _ rfl _ _ 29 rfl wo.heap.size 3 i0 _ 1 8 Try.underlying29 hi hz0 hz1 hz2 rfl (by decide) _ L.length _ rfl hrE ⟨wr.heap.size, 0, none⟩ 1 1 [.int .i64 (i : Int)] rfl rfl (news1 wr _ _) (by intro u hu; simp at hu; subst hu; rfl) (by unfold maxLen; omega) (by omega) (by simp; omega) ?_)
                intro v7 w7 hown7 hgrow7 _
                have hb7 : Below wo.heap.size wo w7 := (hbw.trans (hbE.mono hsw)).grown hgrow7 (by simp; omega) (fun q hq => (hrE.lt q hq).1)
                obtain ⟨a7, c7, rfl⟩ := own_form hown7
                have HW7 := hide (show w7.ownsRow wo.heap.size 3 1 (.slice a7 (L.length + 1) c7) (sel d (i + 1)).length (pv (sel d (i + 1))) from by rw [HSl.out, pv_snoc, List.length_append]; exact hown7)
                clear hgrow7 hown7 hrE hbE HSl
                go_wp2
                exact ⟨⟨i + 1, by omega, by go_num, HW7, hb7⟩, by simp [intOf]; omega⟩
              | false =>
                rw [hdi] at d0
                have HW2 := hide (show wr.ownsRow wo.heap.size 3 1 (.slice ax (sel d i).length cx) (sel d (i + 1)).length (pv (sel d (i + 1))) from by rw [sel_no hdi]; exact HW.out)
                clear HW hdi HBs HEq
                go_wp2
                exact ⟨⟨i + 1, by omega, by go_num, HW2, hbw⟩, by simp [intOf]; omega⟩
            · obtain rfl : k = i := by omega
              have hbf := hfin.trans (hbw.mono hso)
              have HA2 := hide (show IntsOf wr (.slice ax (sel d k).length cx) (sel (nds ts t (ord ts k k).reverse) k).length (lv (sel (nds ts t (ord ts k k).reverse) k)) from by
                rw [HD.out]
                have := HW.out
                rw [pv_range] at this
                exact own_ints this)
              clear HW HBs HEq
              go_wp2
              go_ret2
              exact ⟨⟨_, rfl, HA2.out⟩, hbf⟩
        | true =>
          obtain ⟨s0, hbs, hsd, -⟩ := HSd.out
          have hw0 := wcnt_eq hbs
          have hc0 := cnt_le s0 k
          have HM := hide (show ∃ s, Blk wo g k (bv s) 4 ∧ Sd k ts t s ∧ cnt s0 k + bi false ≤ cnt s k ∧ (false = false → ∀ x, x < 0 → Cl ts s x) from ⟨s0, hbs, hsd, Nat.le_refl _, fun _ x hx => by omega⟩)
          clear hbs hsd HSd HB0 HR
          generalize hn0 : cnt s0 k = n0 at *
          clear hn0
          go_wp2_with fail
          go_loopw [9, 47] (fun x y wr => ∃ (b : Bool) (i : Nat), i ≤ k ∧ y = .int .i64 i ∧ x = .bool b ∧ Hid (∃ s, Blk wr g k (bv s) 4 ∧ Sd k ts t s ∧ n0 + bi b ≤ cnt s k ∧ (b = false → ∀ x, x < i → Cl ts s x)) ∧ Below g w' wr) (fun _ y _ => k - (intOf y).toNat)
          case atStart => exact ⟨false, 0, Nat.zero_le _, rfl, rfl, hide (by obtain ⟨s, h1, h2, h3, h4⟩ := HM.out; exact ⟨s, h1, h2, h3, fun _ => h4 trivial⟩), hbo⟩
          case round =>
            rename World => wr
            obtain ⟨b, i, hik, rfl, rfl, HS1, hbr⟩ := hrel
            by_cases hlt : i < k
            · obtain ⟨y, q1, q2, i1⟩ := HRw.out i hlt
              obtain ⟨ai, ci, rfl, hri⟩ := i1
              have hbr1 := hb1.trans (hbr.mono (by omega))
              have c1 := (hbr1.cell (p := ⟨bb, off + i * 2 + 1, none⟩) hbb).trans q2
              have HYi := hide hri
              have hni := HG.out.1.len hlt
              have hi0 : (0 : Int) ≤ (i : Int) := by omega
              have hi1 : (i : Int) < (k : Int) := by omega
              have HM2 := hide (show ∃ s, Blk wr g k (bv s) 4 ∧ Sd k ts t s ∧ n0 + bi b ≤ cnt s k ∧ (b = false → (∀ x, x < i → Cl ts s x) ∧ (s i = true → ∀ j', j' < 0 → s (need ts i j') = true)) from by
                obtain ⟨s, h1, h2, h3, h4⟩ := HS1.out
                exact ⟨s, h1, h2, h3, fun h => ⟨h4 h, fun _ j' hj' => by omega⟩⟩)
              clear q1 q2 hri HS1 HM
              go_wp2_with fail
              go_loopw [9, 56] (fun x y wr => ∃ (b : Bool) (j : Nat), j ≤ (ts i).nn ∧ y = .int .i64 j ∧ x = .bool b ∧ Hid (∃ s, Blk wr g k (bv s) 4 ∧ Sd k ts t s ∧ n0 + bi b ≤ cnt s k ∧ (b = false → (∀ x, x < i → Cl ts s x) ∧ (s i = true → ∀ j', j' < j → s (need ts i j') = true))) ∧ Below g w' wr) (fun _ y _ => (ts i).nn - (intOf y).toNat)
              case atStart => exact ⟨b, 0, Nat.zero_le _, rfl, rfl, HM2, hbr⟩
              case round =>
                rename World => wx
                obtain ⟨b', j, hj, rfl, rfl, HS2, hbx⟩ := hrel
                have hbx1 := hb1.trans (hbx.mono (by omega))
                by_cases hjl : j < (ts i).nn
                · obtain ⟨s, h1, h2, h3, h4⟩ := HS2.out
                  obtain ⟨by_, oy, rfl, hby, hrowy⟩ := HYi.out (by omega)
                  obtain ⟨z, hz, hzk, hzn⟩ := HG.out.1.need hlt hjl
                  have e0 := (hbx1.cell (p := ⟨by_, oy + j, none⟩) hby).trans (hrowy j hjl)
                  rw [hz] at e0
                  have e1 := h1.cell_bv hlt
                  have e2 := h1.cell_bv hzk
                  have t0 := h1.thaw z
                  have hz0' : (0 : Int) ≤ (z : Int) := by omega
                  have hz1' : (z : Int) < (k : Int) := by omega
                  cases hsi : s i with
                  | false =>
                    rw [hsi] at e1
                    have HS3 := hide (show ∃ s, Blk wx g k (bv s) 4 ∧ Sd k ts t s ∧ n0 + bi b' ≤ cnt s k ∧ (b' = false → (∀ x, x < i → Cl ts s x) ∧ (s i = true → ∀ j', j' < j + 1 → s (need ts i j') = true)) from
                      ⟨s, h1, h2, h3, fun h => ⟨(h4 h).1, fun h' => by rw [hsi] at h'; cases h'⟩⟩)
                    clear h1 h2 h3 h4 HS2 hrowy hz hzn HYi HM2 HRw e2
                    go_wp2
                    exact ⟨⟨b', j + 1, by omega, by go_num, rfl, HS3, hbx⟩, by simp [intOf]; omega⟩
                  | true =>
                    rw [hsi] at e1
                    cases hsz : s z with
                    | true =>
                      rw [hsz] at e2
                      have HS3 := hide (show ∃ s, Blk wx g k (bv s) 4 ∧ Sd k ts t s ∧ n0 + bi b' ≤ cnt s k ∧ (b' = false → (∀ x, x < i → Cl ts s x) ∧ (s i = true → ∀ j', j' < j + 1 → s (need ts i j') = true)) from
                        ⟨s, h1, h2, h3, fun h => ⟨(h4 h).1, fun h' j' hj' => by
                          rcases (show j' < j ∨ j' = j by omega) with h5 | h5
                          · exact (h4 h).2 h' j' h5
                          · subst h5; unfold need; rw [hzn]; exact hsz⟩⟩)
                      clear h1 h2 h3 h4 HS2 hrowy hz hzn HYi HM2 HRw
                      go_wp2
                      exact ⟨⟨b', j + 1, by omega, by go_num, rfl, HS3, hbx⟩, by simp [intOf]; omega⟩
                    | false =>
                      rw [hsz] at e2
                      have HS3 := hide (show (∃ s, Blk (wx.setCell ⟨g, z, none⟩ (.bool true)) g k (bv s) 4 ∧ Sd k ts t s ∧ n0 + bi true ≤ cnt s k ∧ (true = false → (∀ x, x < i → Cl ts s x) ∧ (s i = true → ∀ j', j' < j + 1 → s (need ts i j') = true))) ∧ Below g w' (wx.setCell ⟨g, z, none⟩ (.bool true)) from
                        ⟨⟨upd s z true, h1.set_bv z, h2.mark hlt hsi hjl (by unfold need; exact hzn), by rw [cnt_upd hsz hzk]; unfold bi; rw [if_pos rfl]; omega, fun h => by cases h⟩, hbx.setCell (Nat.le_refl _) _⟩)
                      clear h1 h2 h3 h4 HS2 hrowy hz hzn HYi HM2 HRw
                      go_wp2
                      exact ⟨⟨true, j + 1, by omega, by go_num, rfl, hide HS3.out.1, HS3.out.2⟩, by simp [intOf]; omega⟩
                · obtain rfl : j = (ts i).nn := by omega
                  have HS3 := hide (show ∃ s, Blk wx g k (bv s) 4 ∧ Sd k ts t s ∧ n0 + bi b' ≤ cnt s k ∧ (b' = false → ∀ x, x < i + 1 → Cl ts s x) from by
                    obtain ⟨s, h1, h2, h3, h4⟩ := HS2.out
                    exact ⟨s, h1, h2, h3, fun h x hx => by
                      rcases (show x < i ∨ x = i by omega) with h5 | h5
                      · exact (h4 h).1 x h5
                      · subst h5; exact (h4 h).2⟩)
                  clear HS2 HYi HM2 HRw
                  go_wp2
                  exact ⟨⟨b', i + 1, by omega, by go_num, rfl, HS3, hbx⟩, by simp [intOf]; omega⟩
            · obtain rfl : k = i := by omega
              have HF := hide (show (∃ s, Blk wr g k (bv s) 4 ∧ Sd k ts t s ∧ (b = false → ∀ x, x < k → Cl ts s x)) ∧ 2 * (k - wcnt wr g k) + boolN (.bool b) < 2 * (k - wcnt wo g k) + boolN (.bool true) from by
                obtain ⟨s, h1, h2, h3, h4⟩ := HS1.out
                refine ⟨⟨s, h1, h2, h4⟩, ?_⟩
                have := wcnt_eq h1
                have := cnt_le s k
                cases b <;> simp [boolN, bi] at * <;> omega)
              clear HS1 HM HRw
              go_wp2
              exact ⟨⟨b, rfl, hide HF.out.1, hbr⟩, HF.out.2⟩
set_option maxHeartbeats 1000000 in
theorem spec_needs_no (v : Value) (k : Nat) (ts : Nat → Tk) (x : Int) (w : World) (hv : TasksOf w v k ts) (hs : Short k ts) (hg : ¬ (GoodP k ts ∧ 0 ≤ x ∧ x < k)) :
    Calls Try.prog 43 #[v, .int .i64 x] w fun e w' => e = .returned (.tuple #[.slice none 0 0, .bool false]) ∧ Below w.heap.size w w' := by
  have HV := hide hv
  have HS := hide hs
  have hk := hs.1
  obtain ⟨a, cap, rfl⟩ := hv.form
  by_cases hg1 : GoodP k ts
  · have HG := hide hg1
    have HWi := hide (show decide (0 ≤ x ∧ x ≤ (k : Int) - 1) = false by rw [decide_eq_false_iff_not]; intro h; exact hg ⟨hg1, h.1, by omega⟩)
    clear hv hs hg hg1
    go_enter Try.func43, Try.ntmps43
    go_wp2_with fail
    refine (spec_good _ k ts true _ HV.out HS.out (by rw [decide_eq_true_eq]; exact HG.out)).mono ?_
    rintro e w1 ⟨rfl, hb1⟩
    go_wp2_with fail
    refine (l1in_to _ _ _ _ _ HWi.out).mono ?_
    rintro e w' ⟨rfl, rfl⟩
    clear HV HS HG HWi
    go_wp2
    go_ret2
    exact ⟨rfl, hb1⟩
  · have HG := hide hg1
    clear hv hs hg hg1
    go_enter Try.func43, Try.ntmps43
    go_wp2_with fail
    refine (spec_good _ k ts false _ HV.out HS.out (by rw [decide_eq_false_iff_not]; exact HG.out)).mono ?_
    rintro e w1 ⟨rfl, hb1⟩
    clear HV HS HG
    go_wp2
    go_ret2
    exact ⟨rfl, hb1⟩
set_option maxRecDepth 20000 in
set_option maxHeartbeats 2000000 in
theorem impl_needs_no (v : Value) (k : Nat) (ts : Nat → Tk) (x : Int) (w : World) (hv : TasksOf w v k ts) (hs : Short k ts) (hg : ¬ (GoodP k ts ∧ 0 ≤ x ∧ x < k)) :
    Calls Try.prog 44 #[v, .int .i64 x] w fun e w' => e = .returned (.tuple #[.slice none 0 0, .bool false]) ∧ Below w.heap.size w w' := by
  have HV := hide hv
  have HS := hide hs
  have hk := hs.1
  obtain ⟨a, cap, rfl⟩ := hv.form
  have hbA := ((Below.refl w.heap.size w).alloc (Nat.le_refl _) (.cells #[.slice a k cap] 25)).alloc (by simp) (.cells #[.int .i64 x] 3)
  have hx0 : Blk ((w.alloc (.cells #[.slice a k cap] 25)).alloc (.cells #[.int .i64 x] 3)) w.heap.size 1 (fun _ => .slice a k cap) 25 := by
    have := Blk.fresh w #[.slice a k cap] 1 (fun _ => .slice a k cap) 25 rfl
    exact this.alloc _
  have hy0 : Blk ((w.alloc (.cells #[.slice a k cap] 25)).alloc (.cells #[.int .i64 x] 3)) (w.heap.size + 1) 1 (fun _ => .int .i64 x) 3 := by
    have := Blk.fresh (w.alloc (.cells #[.slice a k cap] 25)) #[.int .i64 x] 1 (fun _ => .int .i64 x) 3 rfl
    rwa [World.size_alloc] at this
  have hc0 := hx0.cell (show 0 < 1 by omega)
  by_cases hg1 : GoodP k ts
  · have HG := hide hg1
    have HWi := hide (show decide (0 ≤ x ∧ x ≤ (k : Int) - 1) = false by rw [decide_eq_false_iff_not]; intro h; exact hg ⟨hg1, h.1, by omega⟩)
    clear hv hs hg hg1
    refine (callsIn_wide (n := 3)).1 ?_
    refine callsIn_of_wp_marks Try.func44 rfl trivial ?_ rfl
    simp only [Try.ntmps44, List.size_toArray, List.length_cons, List.length_nil, Nat.reduceAdd, Nat.reduceSub, Array.replicate_succ, Array.replicate_zero, List.push_toArray, List.append_toArray, List.nil_append, List.cons_append]
    gi_wp2_with (refine ⟨trivial, ?_⟩; gi_at_call 18; refine (callsIn_wide.2 (impl_good _ k ts true _ (HV.out.below hbA) HS.out (by rw [decide_eq_true_eq]; exact HG.out))).mono ?_; rintro e w1 ⟨rfl, hb⟩; have hx1 := hx0.down hb; have hy1 := hy0.down hb; have c1 : w1.cell? ⟨w.heap.size, 0, none⟩ = some (.slice a k cap) := hx1.cell (show 0 < 1 by omega); have d1 : w1.cell? ⟨w.heap.size + 1, 0, none⟩ = some (.int .i64 x) := hy1.cell (show 0 < 1 by omega); have hb1 := hbA.trans (hb.mono hbA.size); clear hx0 hy0 hb hbA hc0)
    refine ⟨trivial, ?_⟩
    gi_at_call 57
    refine (callsIn_wide.2 (within_to _ _ _ _ _ HWi.out)).mono ?_
    rintro e w' ⟨rfl, rfl⟩
    clear HV HS HG HWi
    gi_wp2
    exact ⟨_, results_tmp2 rfl _ _ _, rfl, hb1⟩
  · have HG := hide hg1
    clear hv hs hg hg1
    go_enter Try.func44, Try.ntmps44
    go_wp2_with fail
    refine (impl_good _ k ts false _ (HV.out.below hbA) HS.out (by rw [decide_eq_false_iff_not]; exact HG.out)).mono ?_
    rintro e w1 ⟨rfl, hb⟩
    have hb1 := hbA.trans (hb.mono hbA.size)
    clear hx0 hy0 hb hbA hc0 HV HS HG
    go_wp2
    go_ret2
    exact ⟨rfl, hb1⟩
end Go.Proofs.Ytkfnfgencaplfaa

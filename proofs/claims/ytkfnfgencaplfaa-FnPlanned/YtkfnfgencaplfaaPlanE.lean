/-
  Earliest beginnings: the mathematics of both texts, and the specification's.
-/
import Derived.Test.YtkfnfgencaplfaaPlanS
import Derived.BigQuiet
namespace Go.Proofs.Ytkfnfgencaplfaa
open Go.RowKit M
open Clk (upd upd_same upd_other)
namespace M
/-- A task's beginning, once its first j needs have been looked at. -/
def bN (ts : Nat → Tk) (b : Nat → Int) (x : Nat) : Nat → (Nat → Int)
  | 0 => b
  | j + 1 => upd (bN ts b x j) x (max (bN ts b x j x) (bN ts b x j ((ts x).fn j).toNat + (ts ((ts x).fn j).toNat).long))
/-- All beginnings and the end of all, once the tasks of l were looked at. -/
def estP (ts : Nat → Tk) (l : List Nat) : (Nat → Int) × Int := l.foldl (fun p x => (bN ts p.1 x (ts x).nn, max p.2 (bN ts p.1 x (ts x).nn x + (ts x).long))) (fun _ => 0, 0)
def est (ts : Nat → Tk) (l : List Nat) : Nat → Int := (estP ts l).1
def eal (ts : Nat → Tk) (l : List Nat) : Int := (estP ts l).2
theorem est_snoc (ts : Nat → Tk) (l : List Nat) (x : Nat) : est ts (l ++ [x]) = bN ts (est ts l) x (ts x).nn := by unfold est estP; rw [List.foldl_append]; rfl
theorem eal_snoc (ts : Nat → Tk) (l : List Nat) (x : Nat) : eal ts (l ++ [x]) = max (eal ts l) (est ts (l ++ [x]) x + (ts x).long) := by
  rw [est_snoc]; unfold eal est estP; rw [List.foldl_append]; rfl
def InR (c : Nat → Int) (m : Int) : Prop := ∀ y, 0 ≤ c y ∧ c y ≤ m
theorem bN_in {k : Nat} {ts : Nat → Tk} (hB : Bnd k ts) {b : Nat → Int} {m : Int} (h : InR b m) {x : Nat} (hx : x < k) : ∀ j, j ≤ (ts x).nn → InR (bN ts b x j) (m + 100 * (j : Int))
  | 0, _ => by intro y; have := h y; simp only [bN]; omega
  | j + 1, hj => by
    have ih := bN_in hB h hx j (by omega)
    obtain ⟨z, _, hz, hzn⟩ := hB.need hx (show j < (ts x).nn by omega)
    have hl := (hB.2 z hz).1
    intro y
    simp only [bN, hzn]
    unfold upd
    split
    · have h1 := ih x; have h2 := ih z; omega
    · have h1 := ih y; omega
theorem est_in_rev {k : Nat} {ts : Nat → Tk} (hB : Bnd k ts) : ∀ l : List Nat, (∀ x ∈ l, x < k) → InR (est ts l.reverse) (3100 * (l.length : Int)) ∧ 0 ≤ eal ts l.reverse ∧ eal ts l.reverse ≤ 3100 * (l.length : Int) := by
  intro l
  induction l with
  | nil => intro _; exact ⟨fun y => by simp [est, estP], by simp [eal, estP], by simp [eal, estP]⟩
  | cons x l ih =>
    intro h
    obtain ⟨h1, h2, h3⟩ := ih fun y hy => h y (by simp [hy])
    rw [List.reverse_cons, List.length_cons]
    have hx : x < k := h x (by simp)
    have h4 := bN_in hB h1 hx (ts x).nn (Nat.le_refl _)
    have hn := hB.len hx
    have hk := hB.1
    have hl := (hB.2 x hx).1
    rw [eal_snoc, est_snoc]
    refine ⟨fun y => ?_, ?_, ?_⟩
    · have := h4 y; omega
    · have := h4 x; omega
    · have := h4 x; omega
theorem est_in {k : Nat} {ts : Nat → Tk} (hB : Bnd k ts) (l : List Nat) (h : ∀ x ∈ l, x < k) : InR (est ts l) (3100 * (l.length : Int)) ∧ 0 ≤ eal ts l ∧ eal ts l ≤ 3100 * (l.length : Int) := by
  have := est_in_rev hB l.reverse fun x hx => h x (by simpa using hx)
  rw [List.reverse_reverse, List.length_reverse] at this
  exact this
theorem bN_gt {ts : Nat → Tk} {b : Nat → Int} {x j : Nat} (h : bN ts b x j ((ts x).fn j).toNat + (ts ((ts x).fn j).toNat).long > bN ts b x j x) : bN ts b x (j + 1) = upd (bN ts b x j) x (bN ts b x j ((ts x).fn j).toNat + (ts ((ts x).fn j).toNat).long) := by
  simp only [bN]; rw [Int.max_eq_right (by omega)]
theorem bN_le {ts : Nat → Tk} {b : Nat → Int} {x j : Nat} (h : ¬ bN ts b x j ((ts x).fn j).toNat + (ts ((ts x).fn j).toNat).long > bN ts b x j x) : bN ts b x (j + 1) = bN ts b x j := by
  simp only [bN]; rw [Int.max_eq_left (by omega)]
  funext y; unfold upd; split
  · rename_i e; rw [e]
  · rfl
theorem lv_at {l : List Nat} {i : Nat} (h : i < l.length) : lv l i = ((l[i] : Nat) : Int) := by unfold lv; rw [List.getD_eq_getElem?_getD, List.getElem?_eq_getElem h]; rfl
theorem take_snoc {l : List Nat} {i : Nat} (h : i < l.length) : l.take (i + 1) = l.take i ++ [l[i]] := by rw [List.take_add_one, List.getElem?_eq_getElem h]; rfl
end M
set_option maxRecDepth 20000 in
set_option maxHeartbeats 2000000 in
theorem l4earliest (v : Value) (k : Nat) (ts : Nat → Tk) (w : World) (hv : TasksOf w v k ts) (hg : GoodP k ts) :
    Calls Try.prog 62 #[v] w fun e w' => (∃ r, e = .returned (.tuple #[r, .int .i64 (eal ts (ord ts k k))]) ∧ IntsOf w' r k (est ts (ord ts k k))) ∧ Below w.heap.size w w' := by
  have HV := hide hv
  obtain ⟨a, cap, rfl, hr⟩ := hv
  have HR := hide hr
  have HG := hide hg
  have hk := hg.1.1
  have hlen : (ord ts k k).length = k := hg.2
  have HOl := hide (fun x hx => ord_lt ts k k x hx)
  have hmk := make_ints k (by omega)
  clear hr hg
  go_enter Try.func62, Try.ntmps62
  go_wp2_with fail
  refine (l4order _ k ts _ HV.out HG.out.1).mono ?_
  rintro e w1 ⟨hL, hb1⟩
  rcases hL with ⟨-, r, rfl, hr⟩ | ⟨hw, _⟩
  case inr => exact absurd HG.out.2 hw
  obtain ⟨ao, co, rfl, hro⟩ := hr
  have HRO := hide hro
  have hs1 := hb1.size
  have hbA := (Below.refl w1.heap.size w1).alloc (Nat.le_refl _) (.cells (cf k (iv fun _ => 0)) 3)
  have H0 := hide (Blk.new w1 k (iv fun _ => 0) 3)
  have hbW := hb1.trans (hbA.mono hs1)
  generalize hoo : ord ts k k = o at *
  have HOO := hide hoo
  clear hro hoo
  go_wp2_with fail
  go_loopw [7, 24] (fun x y wr => ∃ i : Nat, i ≤ k ∧ y = .int .i64 i ∧ x = .int .i64 (eal ts (o.take i)) ∧ Hid (Blk wr w1.heap.size k (iv (est ts (o.take i))) 3) ∧ Below w1.heap.size w1 wr) (fun _ y _ => k - (intOf y).toNat)
  case atStart => exact ⟨0, Nat.zero_le _, rfl, rfl, H0, hbA⟩
  case round =>
    rename World => wo
    obtain ⟨i, hik, rfl, rfl, HBk, hbw⟩ := hrel
    have hbo := hb1.trans (hbw.mono hs1)
    by_cases hlt : i < k
    · have hil : i < o.length := by omega
      have hxk : o[i] < k := HOl.out _ (List.getElem_mem hil)
      obtain ⟨b2, off2, rfl, hb2, hrow2⟩ := HRO.out (by omega)
      have hrx := hrow2 i hlt
      rw [lv_at hil] at hrx
      have HTk := hide (take_snoc hil)
      obtain ⟨hin1, hin2, hin3⟩ := est_in HG.out.1 (o.take i) (fun y hy => HOl.out y (List.mem_of_mem_take hy))
      rw [List.length_take, Nat.min_eq_left (by omega)] at hin1 hin3
      generalize o[i] = x at *
      have c0 := (hbw.cell (p := ⟨b2, off2 + i, none⟩) hb2).trans hrx
      obtain ⟨bb, off, rfl, hbb, hrow⟩ := HR.out (by omega)
      obtain ⟨y, q1, q2, i1⟩ := hrow x hxk
      obtain ⟨ay, cy, rfl, hry⟩ := i1
      have c1 := (hbo.cell (p := ⟨bb, off + x * 2 + 1, none⟩) hbb).trans q2
      have HQ1 := hide q1
      have HY := hide hry
      have HRw := hide hrow
      have hnn := HG.out.1.len hxk
      have hlx := (HG.out.1.2 x hxk).1
      have hx0 : (0 : Int) ≤ (x : Int) := by omega
      have hx1 : (x : Int) < (k : Int) := by omega
      have HIn := hide hin1
      have HEs := hide (est_snoc ts (o.take i) x)
      have HEa := hide (eal_snoc ts (o.take i) x)
      generalize hE : est ts (o.take i) = E at *
      generalize hA : eal ts (o.take i) = A at *
      clear hrow hrow2 hrx q1 q2 hry hE hA hin1
      go_wp2_with fail
      go_loopw [34] (fun z wr => ∃ j : Nat, j ≤ (ts x).nn ∧ z = .int .i64 j ∧ Hid (Blk wr w1.heap.size k (iv (bN ts E x j)) 3) ∧ Below w1.heap.size w1 wr) (fun z _ => (ts x).nn - (intOf z).toNat)
      case atStart => exact ⟨0, Nat.zero_le _, rfl, HBk, hbw⟩
      case round =>
        rename World => wq
        obtain ⟨j, hj, rfl, HBj, hbq⟩ := hrel
        have hbq1 := hb1.trans (hbq.mono hs1)
        have hInj := bN_in HG.out.1 HIn.out hxk j hj
        have hj30 : 100 * (j : Int) ≤ 3000 := by omega
        have d0 := HBj.out.cell_ints hxk
        have t0 := HBj.out.thaw x
        have hIx := hInj x
        by_cases hjl : j < (ts x).nn
        · obtain ⟨by_, oy, rfl, hby, hrowy⟩ := HY.out (by omega)
          obtain ⟨z, hz, hzk, hzn⟩ := HG.out.1.need hxk hjl
          obtain ⟨_, p1, -, -⟩ := HRw.out z hzk
          have e0 := (hbq1.cell (p := ⟨by_, oy + j, none⟩) hby).trans (hrowy j hjl)
          rw [hz] at e0
          have e1 := (hbq1.cell (p := ⟨bb, off + z * 2, none⟩) hbb).trans p1
          have e2 := HBj.out.cell_ints hzk
          have hIz := hInj z
          have hlz := (HG.out.1.2 z hzk).1
          have hz0 : (0 : Int) ≤ (z : Int) := by omega
          have hz1 : (z : Int) < (k : Int) := by omega
          by_cases hgt : bN ts E x j z + (ts z).long > bN ts E x j x
          · have hst := bN_gt (ts := ts) (b := E) (x := x) (j := j) (by rw [hzn]; exact hgt)
            rw [hzn] at hst
            have HB2 := hide (show ∀ nq, Blk ((wq.drewN nq).setCell ⟨w1.heap.size, x, none⟩ (.int .i64 (bN ts E x j z + (ts z).long))) w1.heap.size k (iv (bN ts E x (j + 1))) 3 ∧ Below w1.heap.size w1 ((wq.drewN nq).setCell ⟨w1.heap.size, x, none⟩ (.int .i64 (bN ts E x j z + (ts z).long))) from fun nq => by
              rw [hst]
              exact ⟨Blk.set_int (w := wq.drewN nq) HBj.out x _, (below_drewN hbq nq).setCell (Nat.le_refl _) _⟩)
            clear hrowy p1 hz hzn hst HBj HBk HY HRw HEs HEa HTk HQ1 HR HRO HV H0 hInj HIn
            generalize bN ts E x j z = vz at *
            generalize bN ts E x j x = vx at *
            generalize (ts z).long = lz at *
            go_wp2_with fail
            go_big_quiet (fail)
            go_wp2
            exact ⟨⟨j + 1, by omega, by go_num, hide (HB2.out _).1, (HB2.out _).2⟩, by simp [intOf]; omega⟩
          · have hst := bN_le (ts := ts) (b := E) (x := x) (j := j) (by rw [hzn]; exact hgt)
            have HB2 := hide (show ∀ nq, Blk (wq.drewN nq) w1.heap.size k (iv (bN ts E x (j + 1))) 3 ∧ Below w1.heap.size w1 (wq.drewN nq) from fun nq => by
              rw [hst]
              exact ⟨HBj.out, below_drewN hbq nq⟩)
            clear hrowy p1 hz hzn hst HBj HBk HY HRw HEs HEa HTk HQ1 HR HRO HV H0 hInj HIn
            generalize bN ts E x j z = vz at *
            generalize bN ts E x j x = vx at *
            generalize (ts z).long = lz at *
            go_wp2_with fail
            go_big_quiet (fail)
            go_wp2
            exact ⟨⟨j + 1, by omega, by go_num, hide (HB2.out _).1, (HB2.out _).2⟩, by simp [intOf]; omega⟩
        · obtain rfl : j = (ts x).nn := by omega
          have g0 := (hbq1.cell (p := ⟨bb, off + x * 2, none⟩) hbb).trans HQ1.out
          have HBf := hide (show ∀ nq, Blk (wq.drewN nq) w1.heap.size k (iv (est ts (o.take (i + 1)))) 3 ∧ Below w1.heap.size w1 (wq.drewN nq) from fun nq => by
            rw [HTk.out, HEs.out]; exact ⟨HBj.out, below_drewN hbq nq⟩)
          have HAf := hide (show eal ts (o.take (i + 1)) = max A (bN ts E x (ts x).nn x + (ts x).long) by rw [HTk.out, HEa.out, HEs.out])
          by_cases hgt : bN ts E x (ts x).nn x + (ts x).long > A
          · have HA2 := hide (show eal ts (o.take (i + 1)) = bN ts E x (ts x).nn x + (ts x).long by rw [HAf.out, Int.max_eq_right (by omega)])
            clear HBj HBk HY HRw HEs HEa HTk HQ1 HR HRO HV H0 hInj HIn HAf
            generalize bN ts E x (ts x).nn x = vx at *
            generalize (ts x).long = lx at *
            go_wp2_with fail
            go_big_quiet (fail)
            go_wp2
            exact ⟨⟨i + 1, by omega, by go_num, by rw [HA2.out], hide (HBf.out _).1, (HBf.out _).2⟩, by simp [intOf]; omega⟩
          · have HA2 := hide (show eal ts (o.take (i + 1)) = A by rw [HAf.out, Int.max_eq_left (by omega)])
            clear HBj HBk HY HRw HEs HEa HTk HQ1 HR HRO HV H0 hInj HIn HAf
            generalize bN ts E x (ts x).nn x = vx at *
            generalize (ts x).long = lx at *
            go_wp2_with fail
            go_big_quiet (fail)
            go_wp2
            exact ⟨⟨i + 1, by omega, by go_num, by rw [HA2.out], hide (HBf.out _).1, (HBf.out _).2⟩, by simp [intOf]; omega⟩
    · obtain rfl : i = k := by omega
      have het : o.take i = o := List.take_of_length_le (by omega)
      rw [het] at HBk ⊢
      have hoo := HOO.out
      subst hoo
      have HA := hide (HBk.out.ints (cap := i))
      clear HR HRO HBk H0 HV het HOO
      go_wp2
      go_ret2
      exact ⟨⟨_, rfl, HA.out⟩, hbo⟩
end Go.Proofs.Ytkfnfgencaplfaa

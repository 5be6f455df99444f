/-
  Latest beginnings: the mathematics of both texts, and the specification's.
-/
import Derived.Test.YtkfnfgencaplfaaPlanE
namespace Go.Proofs.Ytkfnfgencaplfaa
open Go.RowKit M
open Clk (upd upd_same upd_other)
namespace M
/-- All latest beginnings, once the first j needs of x have been looked at. -/
def lN (ts : Nat → Tk) (b : Nat → Int) (x : Nat) : Nat → (Nat → Int)
  | 0 => b
  | j + 1 => upd (lN ts b x j) ((ts x).fn j).toNat (min (lN ts b x j ((ts x).fn j).toNat) (lN ts b x j x - (ts ((ts x).fn j).toNat).long))
/-- All latest beginnings, once the tasks of l were looked at. -/
def lat (ts : Nat → Tk) (all : Int) (l : List Nat) : Nat → Int := l.foldl (fun p x => lN ts p x (ts x).nn) (fun y => all - (ts y).long)
theorem lat_snoc (ts : Nat → Tk) (all : Int) (l : List Nat) (x : Nat) : lat ts all (l ++ [x]) = lN ts (lat ts all l) x (ts x).nn := by unfold lat; rw [List.foldl_append]; rfl
def InL (k : Nat) (c : Nat → Int) (m : Int) : Prop := ∀ y, y < k → -m ≤ c y ∧ c y ≤ 93000
theorem lN_in {k : Nat} {ts : Nat → Tk} (hB : Bnd k ts) {b : Nat → Int} {m : Int} (h : InL k b m) {x : Nat} (hx : x < k) : ∀ j, j ≤ (ts x).nn → InL k (lN ts b x j) (m + 100 * (j : Int))
  | 0, _ => by intro y hy; have := h y hy; simp only [lN]; omega
  | j + 1, hj => by
    have ih := lN_in hB h hx j (by omega)
    obtain ⟨z, _, hz, hzn⟩ := hB.need hx (show j < (ts x).nn by omega)
    have hl := (hB.2 z hz).1
    intro y hy
    simp only [lN, hzn]
    unfold upd
    split
    · have h1 := ih x hx; have h2 := ih z hz; omega
    · have h1 := ih y hy; omega
theorem lat_in_rev {k : Nat} {ts : Nat → Tk} (hB : Bnd k ts) {all : Int} (ha : 0 ≤ all ∧ all ≤ 93000) : ∀ l : List Nat, (∀ x ∈ l, x < k) → InL k (lat ts all l.reverse) (100 + 3000 * (l.length : Int)) := by
  intro l
  induction l with
  | nil => intro _ y hy; have := (hB.2 y hy).1; simp [lat]; omega
  | cons x l ih =>
    intro h
    have h1 := ih fun y hy => h y (by simp [hy])
    rw [List.reverse_cons, List.length_cons, lat_snoc]
    have hx : x < k := h x (by simp)
    have h4 := lN_in hB h1 hx (ts x).nn (Nat.le_refl _)
    have hn := hB.len hx
    have hk := hB.1
    intro y hy
    have := h4 y hy
    omega
theorem lat_in {k : Nat} {ts : Nat → Tk} (hB : Bnd k ts) {all : Int} (ha : 0 ≤ all ∧ all ≤ 93000) (l : List Nat) (h : ∀ x ∈ l, x < k) : InL k (lat ts all l) (100 + 3000 * (l.length : Int)) := by
  have := lat_in_rev hB ha l.reverse fun x hx => h x (by simpa using hx)
  rw [List.reverse_reverse, List.length_reverse] at this
  exact this
theorem lN_lt {ts : Nat → Tk} {b : Nat → Int} {x j z : Nat} (hz : ((ts x).fn j).toNat = z) (h : lN ts b x j x - (ts z).long < lN ts b x j z) : lN ts b x (j + 1) = upd (lN ts b x j) z (lN ts b x j x - (ts z).long) := by
  simp only [lN, hz]; rw [Int.min_eq_right (by omega)]
theorem lN_ge {ts : Nat → Tk} {b : Nat → Int} {x j z : Nat} (hz : ((ts x).fn j).toNat = z) (h : ¬ lN ts b x j x - (ts z).long < lN ts b x j z) : lN ts b x (j + 1) = lN ts b x j := by
  simp only [lN, hz]; rw [Int.min_eq_left (by omega)]
  funext y; unfold upd; split
  · rename_i e; rw [e]
  · rfl
theorem rev_at {l : List Nat} {i k : Nat} (hk : l.length = k) (h : i < l.reverse.length) : lv l (k - 1 - i) = ((l.reverse[i] : Nat) : Int) := by
  subst hk
  have : i < l.length := by rwa [List.length_reverse] at h
  rw [lv_at (by omega), List.getElem_reverse]
end M
set_option maxRecDepth 20000 in
set_option maxHeartbeats 2000000 in
theorem l4latest (v : Value) (k : Nat) (ts : Nat → Tk) (w : World) (hv : TasksOf w v k ts) (hg : GoodP k ts) :
    Calls Try.prog 63 #[v] w fun e w' => (∃ r, e = .returned r ∧ IntsOf w' r k (lat ts (eal ts (ord ts k k)) (ord ts k k).reverse)) ∧ Below w.heap.size w w' := by
  have HV := hide hv
  obtain ⟨a, cap, rfl, hr⟩ := hv
  have HR := hide hr
  have HG := hide hg
  have hk := hg.1.1
  have hlen : (ord ts k k).length = k := hg.2
  have HOl := hide (fun x hx => ord_lt ts k k x hx)
  have hmk := make_ints k (by omega)
  obtain ⟨-, hea1, hea2⟩ := est_in hg.1 (ord ts k k) (fun x hx => ord_lt ts k k x hx)
  have hea : 0 ≤ eal ts (ord ts k k) ∧ eal ts (ord ts k k) ≤ 93000 := by rw [hlen] at hea2; omega
  clear hr hg hea1 hea2
  go_enter Try.func63, Try.ntmps63
  go_wp2_with fail
  refine (l4order _ k ts _ HV.out HG.out.1).mono ?_
  rintro e w1 ⟨hL, hb1⟩
  rcases hL with ⟨-, r, rfl, hr⟩ | ⟨hw, _⟩
  case inr => exact absurd HG.out.2 hw
  obtain ⟨ao, co, rfl, hro⟩ := hr
  have HRO := hide hro
  have hs1 := hb1.size
  clear hro
  go_wp2_with fail
  refine (l4earliest _ k ts _ (HV.out.below hb1) HG.out).mono ?_
  rintro e w2 ⟨⟨r, rfl, hr⟩, hb2⟩
  have hb12 := hb1.trans (hb2.mono hs1)
  have hs2 := hb2.size
  obtain ⟨a2, c2, rfl⟩ := hr.form
  have hbA := (Below.refl w2.heap.size w2).alloc (Nat.le_refl _) (.cells (cf k (iv fun _ => 0)) 3)
  have H0 := hide (Blk.new w2 k (iv fun _ => 0) 3)
  clear hr
  generalize hoo : ord ts k k = o at *
  have HOO := hide hoo
  generalize hAA : eal ts o = all at *
  have HAA := hide hAA
  clear hoo hAA
  go_wp2_with fail
  go_loopw [29] (fun y wr => ∃ i : Nat, i ≤ k ∧ y = .int .i64 i ∧ Hid (∃ f, Blk wr w2.heap.size k (iv f) 3 ∧ ∀ j, j < i → f j = all - (ts j).long) ∧ Below w2.heap.size w2 wr) (fun y _ => k - (intOf y).toNat)
  case atStart => exact ⟨0, Nat.zero_le _, rfl, hide ⟨_, H0.out, fun j hj => by omega⟩, hbA⟩
  case round =>
    rename World => wo
    obtain ⟨i, hik, rfl, HF, hbw⟩ := hrel
    have hbo := hb12.trans (hbw.mono (by omega))
    by_cases hlt : i < k
    · obtain ⟨f, hf, hfj⟩ := HF.out
      obtain ⟨bb, off, rfl, hbb, hrow⟩ := HR.out (by omega)
      obtain ⟨y, q1, q2, i1⟩ := hrow i hlt
      have c0 := (hbo.cell (p := ⟨bb, off + i * 2, none⟩) hbb).trans q1
      have t0 := hf.thaw i
      have hli := (HG.out.1.2 i hlt).1
      have hi0 : (0 : Int) ≤ (i : Int) := by omega
      have hi1 : (i : Int) < (k : Int) := by omega
      have HF2 := hide (show (∃ f, Blk (wo.setCell ⟨w2.heap.size, i, none⟩ (.int .i64 (all - (ts i).long))) w2.heap.size k (iv f) 3 ∧ ∀ j, j < i + 1 → f j = all - (ts j).long) ∧ Below w2.heap.size w2 (wo.setCell ⟨w2.heap.size, i, none⟩ (.int .i64 (all - (ts i).long))) from
        ⟨⟨_, hf.set_int i _, fun j hj => by
          by_cases e : j = i
          · rw [e]; exact upd_same _ _ _
          · rw [upd_other _ _ _ _ e]; exact hfj j (by omega)⟩, hbw.setCell (Nat.le_refl _) _⟩)
      have hcl := hf.cell_ints hlt
      clear hf hfj hrow q1 q2 i1 HF HR HRO HV H0
      generalize (ts i).long = li at *
      go_wp2
      exact ⟨⟨i + 1, by omega, by go_num, hide HF2.out.1, HF2.out.2⟩, by simp [intOf]; omega⟩
    · obtain rfl : k = i := by omega
      have HB0 := hide (show Blk wo w2.heap.size k (iv (lat ts all (o.reverse.take 0))) 3 from by
        obtain ⟨f, hf, hfj⟩ := HF.out
        exact hf.ext fun j hj => by unfold iv; rw [hfj j hj]; rfl)
      clear HF
      go_wp2_with fail
      go_loopw [9] (fun c wr => ∃ m : Nat, m ≤ k ∧ c = .int .i64 ((k : Int) - 1 - m) ∧ Hid (Blk wr w2.heap.size k (iv (lat ts all (o.reverse.take m))) 3) ∧ Below w2.heap.size w2 wr) (fun c _ => (intOf c + 1).toNat)
      case atStart => exact ⟨0, Nat.zero_le _, by go_num, HB0, hbw⟩
      case round =>
        rename World => wr
        obtain ⟨m, hm, rfl, HBk, hbr⟩ := hrel
        have hbo2 := hb12.trans (hbr.mono (by omega))
        by_cases hml : m < k
        · have hil : m < o.length := by omega
          have hir : m < o.reverse.length := by rw [List.length_reverse]; exact hil
          have hxk : o.reverse[m] < k := HOl.out _ (List.mem_reverse.1 (List.getElem_mem hir))
          obtain ⟨b2, off2, rfl, hbo2', hrow2⟩ := HRO.out (by omega)
          have hrx := hrow2 (k - 1 - m) (by omega)
          have hre := rev_at hlen hir
          rw [hre] at hrx
          have HTk := hide (take_snoc hir)
          have hin1 := lat_in HG.out.1 hea (o.reverse.take m) (fun y hy => HOl.out y (List.mem_reverse.1 (List.mem_of_mem_take hy)))
          rw [List.length_take, List.length_reverse, Nat.min_eq_left (by omega)] at hin1
          generalize o.reverse[m] = x at *
          have hbr1 := hb2.trans (hbr.mono hs2)
          have c0 := (hbr1.cell (p := ⟨b2, off2 + (k - 1 - m), none⟩) hbo2').trans hrx
          obtain ⟨bb, off, rfl, hbb, hrow⟩ := HR.out (by omega)
          obtain ⟨y, q1, q2, i1⟩ := hrow x hxk
          obtain ⟨ay, cy, rfl, hry⟩ := i1
          have c1 := (hbo2.cell (p := ⟨bb, off + x * 2 + 1, none⟩) hbb).trans q2
          have HQ1 := hide q1
          have HY := hide hry
          have HRw := hide hrow
          have hnn := HG.out.1.len hxk
          have hx0 : (0 : Int) ≤ (x : Int) := by omega
          have hx1 : (x : Int) < (k : Int) := by omega
          have hnat : ((k : Int) - 1 - m) = ((k - 1 - m : Nat) : Int) := by omega
          have hp0 : (0 : Int) ≤ ((k - 1 - m : Nat) : Int) := by omega
          have hp1 : ((k - 1 - m : Nat) : Int) < k := by omega
          have HIn := hide hin1
          have HEs := hide (lat_snoc ts all (o.reverse.take m) x)
          rw [hnat]
          generalize hp : k - 1 - m = p at *
          generalize hE : lat ts all (o.reverse.take m) = E at *
          clear hrow hrow2 hrx q1 q2 hry hE hin1 hre hnat
          go_wp2_with fail
          go_loopw [60] (fun z wr => ∃ j : Nat, j ≤ (ts x).nn ∧ z = .int .i64 j ∧ Hid (Blk wr w2.heap.size k (iv (lN ts E x j)) 3) ∧ Below w2.heap.size w2 wr) (fun z _ => (ts x).nn - (intOf z).toNat)
          case atStart => exact ⟨0, Nat.zero_le _, rfl, HBk, hbr⟩
          case round =>
            rename World => wq
            obtain ⟨j, hj, rfl, HBj, hbq⟩ := hrel
            have hbq1 := hb12.trans (hbq.mono (by omega))
            have hInj := lN_in HG.out.1 HIn.out hxk j hj
            have hj30 : 100 * (j : Int) ≤ 3000 := by omega
            have d0 := HBj.out.cell_ints hxk
            have hIx := hInj x hxk
            by_cases hjl : j < (ts x).nn
            · obtain ⟨by_, oy, rfl, hby, hrowy⟩ := HY.out (by omega)
              obtain ⟨z, hz, hzk, hzn⟩ := HG.out.1.need hxk hjl
              obtain ⟨_, p1, -, -⟩ := HRw.out z hzk
              have e0 := (hbq1.cell (p := ⟨by_, oy + j, none⟩) hby).trans (hrowy j hjl)
              rw [hz] at e0
              have e1 := (hbq1.cell (p := ⟨bb, off + z * 2, none⟩) hbb).trans p1
              have e2 := HBj.out.cell_ints hzk
              have t0 := HBj.out.thaw z
              have hIz := hInj z hzk
              have hlz := (HG.out.1.2 z hzk).1
              have hz0 : (0 : Int) ≤ (z : Int) := by omega
              have hz1 : (z : Int) < (k : Int) := by omega
              by_cases hgt : lN ts E x j x - (ts z).long < lN ts E x j z
              · have hst := lN_lt hzn hgt
                have HB2 := hide (show ∀ nq, Blk ((wq.drewN nq).setCell ⟨w2.heap.size, z, none⟩ (.int .i64 (lN ts E x j x - (ts z).long))) w2.heap.size k (iv (lN ts E x (j + 1))) 3 ∧ Below w2.heap.size w2 ((wq.drewN nq).setCell ⟨w2.heap.size, z, none⟩ (.int .i64 (lN ts E x j x - (ts z).long))) from fun nq => by
                  rw [hst]
                  exact ⟨Blk.set_int (w := wq.drewN nq) HBj.out z _, (below_drewN hbq nq).setCell (Nat.le_refl _) _⟩)
                clear hrowy p1 hz hzn hst HBj HBk HY HRw HEs HTk HQ1 HR HRO HV H0 hInj HIn HB0
                generalize lN ts E x j z = vz at *
                generalize lN ts E x j x = vx at *
                generalize (ts z).long = lz at *
                go_wp2_with fail
                go_big_quiet (fail)
                go_wp2
                exact ⟨⟨j + 1, by omega, by go_num, hide (HB2.out _).1, (HB2.out _).2⟩, by simp [intOf]; omega⟩
              · have hst := lN_ge hzn hgt
                have HB2 := hide (show ∀ nq, Blk (wq.drewN nq) w2.heap.size k (iv (lN ts E x (j + 1))) 3 ∧ Below w2.heap.size w2 (wq.drewN nq) from fun nq => by
                  rw [hst]
                  exact ⟨HBj.out, below_drewN hbq nq⟩)
                clear hrowy p1 hz hzn hst HBj HBk HY HRw HEs HTk HQ1 HR HRO HV H0 hInj HIn HB0
                generalize lN ts E x j z = vz at *
                generalize lN ts E x j x = vx at *
                generalize (ts z).long = lz at *
                go_wp2_with fail
                go_big_quiet (fail)
                go_wp2
                exact ⟨⟨j + 1, by omega, by go_num, hide (HB2.out _).1, (HB2.out _).2⟩, by simp [intOf]; omega⟩
            · obtain rfl : j = (ts x).nn := by omega
              have HBf := hide (show Blk wq w2.heap.size k (iv (lat ts all (o.reverse.take (m + 1)))) 3 from by
                rw [HTk.out, HEs.out]; exact HBj.out)
              have hpm : (p : Int) - 1 = (k : Int) - 1 - ((m + 1 : Nat) : Int) := by omega
              clear HBj HBk HY HRw HEs HTk HQ1 HR HRO HV H0 hInj HIn HB0
              go_wp2
              exact ⟨⟨m + 1, by omega, by go_num, HBf, hbq⟩, by simp [intOf]; omega⟩
        · obtain rfl : k = m := by omega
          have hne : (k : Int) - 1 - k < 0 := by omega
          have hoo := HOO.out
          have hAA := HAA.out
          have HA := hide (show IntsOf wr (.slice (some ⟨w2.heap.size, 0, none⟩) k k) k (lat ts all o.reverse) from by
            have := HBk.out.ints (cap := k)
            rwa [List.take_of_length_le (by rw [List.length_reverse]; omega)] at this)
          subst hAA
          subst hoo
          clear HR HRO HBk H0 HV HOO HAA HB0
          go_wp2
          go_ret
          exact ⟨⟨_, rfl, HA.out⟩, hbo2⟩
end Go.Proofs.Ytkfnfgencaplfaa

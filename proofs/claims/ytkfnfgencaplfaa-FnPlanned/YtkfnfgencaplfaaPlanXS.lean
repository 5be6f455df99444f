/-
  The specification's CriticalOf.
-/
import Derived.Test.YtkfnfgencaplfaaPlanXD
namespace Go.Proofs.Ytkfnfgencaplfaa
open Go.RowKit M
namespace M
theorem lastI_nil_or (l : List Nat) : (l = [] ∧ lastI l = -1) ∨ ∃ y : Nat, l.getLast? = some y ∧ lastI l = (y : Int) := by
  unfold lastI
  cases h : l.getLast? with
  | none => exact .inl ⟨List.getLast?_eq_none_iff.1 h, rfl⟩
  | some y => exact .inr ⟨y, rfl, rfl⟩
theorem news1' {w : World} {n : Nat} (h : w.heap.size = n) (c : Value) (t : TypeId) : ∀ (j : Nat) u, [c][j]? = some u → (w.alloc (.cells #[c] t)).cell? ((⟨n, 0, none⟩ : Addr).add j) = some u := by subst h; exact news1 w c t
end M
set_option maxRecDepth 20000 in
set_option maxHeartbeats 4000000 in
theorem spec_crit (v : Value) (k : Nat) (ts : Nat → Tk) (w : World) (hv : TasksOf w v k ts) (hs : Short k ts) (hg : GoodP k ts) :
    Calls Try.prog 32 #[v] w fun e w' => (∃ r, e = .returned (.tuple #[r, .bool true]) ∧ IntsOf w' r (cw ts k (lat ts (eal ts (ord ts k k)) (ord ts k k).reverse) (eal ts (ord ts k k)).toNat).1.length (lv (cw ts k (lat ts (eal ts (ord ts k k)) (ord ts k k).reverse) (eal ts (ord ts k k)).toNat).1)) ∧ Below w.heap.size w w' := by
  obtain ⟨i0, hi, hz0, hz1, hz2⟩ := info_parts info_int
  have HV := hide hv
  have HG := hide hg
  have HS := hide hs
  have hk := hg.1.1
  have HT := hide (tm hg)
  have hea : eal ts (ord ts k k) ≤ 93000 := by
    obtain ⟨-, -, h⟩ := est_in hg.1 (ord ts k k) (fun x hx => ord_lt ts k k x hx)
    rw [show (ord ts k k).length = k from hg.2] at h; omega
  obtain ⟨hin1, hin2⟩ := times_in hg
  have HI1 := hide hin1
  have HI2 := hide hin2
  obtain ⟨a, cap, rfl⟩ := hv.form
  clear hv hs hg hin1 hin2
  go_enter Try.func32, Try.ntmps32
  go_wp2_with fail
  refine (spec_good _ k ts true _ HV.out HS.out (by rw [decide_eq_true_eq]; exact HG.out)).mono ?_
  rintro e w0 ⟨rfl, hb0⟩
  go_wp2_with fail
  refine (l4earliest _ k ts _ (HV.out.below hb0) HG.out).mono ?_
  rintro e w1 ⟨⟨r, rfl, hr⟩, hb1⟩
  obtain ⟨a1, c1, rfl⟩ := hr.form
  have HR1 := hide hr
  have hb01 := hb0.trans (hb1.mono hb0.size)
  have hs1 := hb01.size
  clear hr
  go_wp2_with fail
  refine (l4latest _ k ts _ (HV.out.below hb01) HG.out).mono ?_
  rintro e w2 ⟨⟨r, rfl, hr⟩, hb2⟩
  obtain ⟨a2, c2, rfl⟩ := hr.form
  have HR2 := hide hr
  have HR1' := hide (HR1.out.below hb2)
  have hb02 := hb01.trans (hb2.mono hs1)
  have hs2 := hb02.size
  clear hr HR1
  generalize hLL : lat ts (eal ts (ord ts k k)) (ord ts k k).reverse = L at *
  generalize hEE : est ts (ord ts k k) = E at *
  generalize hAA : eal ts (ord ts k k) = all at *
  have HLL := hide hLL
  have HAA := hide hAA
  have HB := hide HG.out.1
  have HW0 := hide (World.ownsRow_nil w2 w2.heap.size 3 1)
  clear HS HG hLL hEE hAA
  go_wp2_with fail
  go_loopw [7, 8, 9] (fun x7 x8 x9 wr => ∃ (i : Nat) (l : List Nat) (e : Int), Hid (CR k ts E L all i l e) ∧ x8 = .int .i64 e ∧ x9 = .int .i64 (lastI l) ∧ Hid (wr.ownsRow w2.heap.size 3 1 x7 l.length (pv l)) ∧ Below w2.heap.size w2 wr) (fun _ x8 _ _ => (all - intOf x8).toNat)
  case atStart => exact ⟨0, [], 0, hide (CR.zero HT.out), rfl, rfl, HW0, Below.refl _ _⟩
  case round =>
    rename World => wo
    obtain ⟨i, l, e, HC, rfl, rfl, HW, hbw⟩ := hrel
    obtain ⟨ax, cx, rfl⟩ := own_form HW.out
    have hsw := hbw.size
    by_cases hea2 : e < all
    · go_wp2_with fail
      go_loopw [10, 28] (fun x10 y wr => ∃ j : Nat, j ≤ k ∧ y = .int .i64 j ∧ x10 = .int .i64 (-1) ∧ Hid (fst (pC ts L l e) j = none) ∧ Below wo.heap.size wo wr) (fun _ y _ => k - (intOf y).toNat)
      case atStart => exact ⟨0, Nat.zero_le _, rfl, rfl, hide rfl, Below.refl _ _⟩
      case round =>
        rename World => wq
        obtain ⟨j, hj, rfl, rfl, HN, hbq⟩ := hrel
        by_cases hjl : j < k
        · obtain ⟨_, _, ee, hr⟩ := HR1'.out
          cases ee
          obtain ⟨b1, o1, rfl, hb1', hrow1⟩ := hr (by omega)
          obtain ⟨_, _, ee, hr2⟩ := HR2.out
          cases ee
          obtain ⟨b2, o2, rfl, hb2', hrow2⟩ := hr2 (by omega)
          obtain ⟨_, _, ee, hr3⟩ := HV.out
          cases ee
          obtain ⟨bb, off, rfl, hbb, hrow⟩ := hr3 (by omega)
          obtain ⟨y, q1, q2, i1⟩ := hrow j hjl
          obtain ⟨ay, cy, rfl, hry⟩ := i1
          have hbw2 := hbw.trans (hbq.mono hsw)
          have hbq2 := hb02.trans (hbw2.mono hs2)
          have c0 := (hbq2.cell (p := ⟨bb, off + j * 2, none⟩) hbb).trans q1
          have c1' := (hbq2.cell (p := ⟨bb, off + j * 2 + 1, none⟩) hbb).trans q2
          have hsq := hbq.size
          have hsq2 := hbw2.size
          have hbA := hbq.alloc hsq (.cells #[.int .i64 (ts j).long, .slice ay (ts j).nn cy] 56)
          have d0 := fun o : Obj => (((Below.refl wq.heap.size wq).alloc (Nat.le_refl _) o).cell (p := ⟨b1, o1 + j, none⟩) (Nat.lt_of_lt_of_le hb1' hsq2)).trans ((hbw2.cell (p := ⟨b1, o1 + j, none⟩) hb1').trans (hrow1 j hjl))
          have d1 := fun o : Obj => (((Below.refl wq.heap.size wq).alloc (Nat.le_refl _) o).cell (p := ⟨b2, o2 + j, none⟩) (Nat.lt_of_lt_of_le hb2' hsq2)).trans ((hbw2.cell (p := ⟨b2, o2 + j, none⟩) hb2').trans (hrow2 j hjl))
          have HQ1 := hide q1
          have HY := hide (IntsOf.below (show IntsOf w (.slice ay (ts j).nn cy) (ts j).nn (ts j).fn from ⟨_, _, rfl, hry⟩) (hbq2.alloc hbq2.size (.cells #[.int .i64 (ts j).long, .slice ay (ts j).nn cy] 56)))
          have hnn := HB.out.len hjl
          have hi0 : (0 : Int) ≤ (j : Int) := by omega
          have hi1 : (j : Int) < (k : Int) := by omega
          have HPe := hide (HC.out.spec HB.out HT.out hjl)
          have hgo : ∃ g : Bool, goB ts l j = g := ⟨_, rfl⟩
          obtain ⟨g, hg⟩ := hgo
          clear hr hr2 hr3 hrow hrow1 hrow2 q1 q2 hry
          by_cases hE : E j = e
          · have hd1 : (E j == e) = true := by simp [hE]
            by_cases hL : L j = e
            · have hd2 : (L j == e) = true := by simp [hL]
              have HP := hide (show pC ts L l e j = g by rw [HPe.out, decide_eq_true hE, decide_eq_true hL, hg]; rfl)
              clear HPe
              rcases lastI_nil_or l with ⟨hl0, hl1⟩ | ⟨y, hl0, hl1⟩
              · have hgn : decide ((ts j).nn = 0) = g := by unfold goB at hg; rw [hl0] at hg; exact hg
                have hgz : (((ts j).nn : Int) == 0) = g := by rw [← hgn]; rw [Bool.eq_iff_iff]; simp
                rw [hl1]
                clear hgn hg hl0
                cases g with
                | true =>
                  have HF := hide (fst_stop HN.out HP.out k hjl)
                  obtain ⟨_, hcr⟩ := HC.out.next HB.out HT.out HF.out
                  have HCR := hide hcr
                  have hlen2 := HC.out.len
                  have hlo2 := HC.out.lo
                  have hhi2 := HC.out.hi
                  have hrow3 := owns_below HW.out hbA
                  have hsE : (wq.alloc (.cells #[.int .i64 (ts j).long, .slice ay (ts j).nn cy] 56)).heap.size = wq.heap.size + 1 := by simp
                  have hbE := (Below.refl (wq.alloc (.cells #[.int .i64 (ts j).long, .slice ay (ts j).nn cy] 56)).heap.size (wq.alloc (.cells #[.int .i64 (ts j).long, .slice ay (ts j).nn cy] 56))).alloc (Nat.le_refl _) (.cells #[.int .i64 (j : Int)] 3)
                  have hrE := owns_below hrow3 hbE
                  have hs3 := hbA.size
                  have hbW := hbw.trans (hbA.mono hsw)
                  have HLs := hide (lastI_snoc l j)
                  have hlj := (HB.out.2 j hjl).1
                  have hj0 : (0 : Int) ≤ (j : Int) := by omega
                  have hj1 : (j : Int) < (k : Int) := by omega
                  have hq7 : ∀ w7 : World, Below w2.heap.size w2 w7 → w7.cell? ⟨bb, off + j * 2, none⟩ = some (.int .i64 (ts j).long) := fun w7 h => ((hb02.trans (h.mono hs2)).cell (p := ⟨bb, off + j * 2, none⟩) hbb).trans HQ1.out
                  have HQ7 := hide hq7
                  clear HW hrow3 HN HP HF hq7 HR1' HR2 HW0 hcr HI1 HI2 HC HY
                  go_wp2_with (at_builtin; refine wpList_append_own _ rfl _ _ 29 rfl w2.heap.size 3 i0 _ 1 8 Try.underlying29 hi hz0 hz1 hz2 rfl (by decide) _ l.length _ rfl hrE ⟨wq.heap.size + 1, 0, none⟩ 1 1 [.int .i64 (j : Int)] rfl rfl (news1' (by simp) _ _) (by intro u hu; simp at hu; subst hu; rfl) (by unfold maxLen; omega) (by omega) (by simp; omega) ?_)
                  intro v7 w7 hown7 hgrow7 _
                  have hb7 : Below w2.heap.size w2 w7 := (hbW.trans (hbE.mono (by omega))).grown hgrow7 (by simp; omega) (fun q hq => (hrE.lt q hq).1)
                  obtain ⟨a7, c7, rfl⟩ := own_form hown7
                  have HW7 := hide (show w7.ownsRow w2.heap.size 3 1 (.slice a7 (l.length + 1) c7) (l ++ [j]).length (pv (l ++ [j])) from by rw [pv_snoc, List.length_append]; exact hown7)
                  have q7 := HQ7.out w7 hb7
                  clear hgrow7 hown7 hrE hbE HQ7
                  go_wp2
                  exact ⟨⟨i + 1, l ++ [j], e + (ts j).long, HCR, rfl, by rw [HLs.out], HW7, hb7⟩, by simp [intOf]; omega⟩
                | false =>
                  clear HY
                  have HN2 := hide (fst_go HN.out HP.out)
                  clear HN HP HW HR1' HR2 HW0 HI1 HI2 HC HT HB
                  go_wp2
                  exact ⟨⟨j + 1, by omega, by go_num, rfl, HN2, hbA⟩, by simp [intOf]; omega⟩
              · have hgn : hasF (ts j).fn (y : Int) (ts j).nn = g := by unfold goB at hg; rw [hl0] at hg; exact hg
                have hy0 : ¬ ((y : Int) < 0) := by omega
                have hy1 : (0 : Int) ≤ (y : Int) := by omega
                rw [hl1]
                clear hg
                cases g with
                | true =>
                  go_wp2_with fail
                  refine (l1has _ (ts j).nn (ts j).fn (y : Int) _ _ HY.out (by omega) hgn).mono ?_
                  rintro e' w' ⟨rfl, rfl⟩
                  have HF := hide (fst_stop HN.out HP.out k hjl)
                  obtain ⟨_, hcr⟩ := HC.out.next HB.out HT.out HF.out
                  have HCR := hide hcr
                  have hlen2 := HC.out.len
                  have hlo2 := HC.out.lo
                  have hhi2 := HC.out.hi
                  have hrow3 := owns_below HW.out hbA
                  have hsE : (wq.alloc (.cells #[.int .i64 (ts j).long, .slice ay (ts j).nn cy] 56)).heap.size = wq.heap.size + 1 := by simp
                  have hbE := (Below.refl (wq.alloc (.cells #[.int .i64 (ts j).long, .slice ay (ts j).nn cy] 56)).heap.size (wq.alloc (.cells #[.int .i64 (ts j).long, .slice ay (ts j).nn cy] 56))).alloc (Nat.le_refl _) (.cells #[.int .i64 (j : Int)] 3)
                  have hrE := owns_below hrow3 hbE
                  have hs3 := hbA.size
                  have hbW := hbw.trans (hbA.mono hsw)
                  have HLs := hide (lastI_snoc l j)
                  have hlj := (HB.out.2 j hjl).1
                  have hj0 : (0 : Int) ≤ (j : Int) := by omega
                  have hj1 : (j : Int) < (k : Int) := by omega
                  have hq7 : ∀ w7 : World, Below w2.heap.size w2 w7 → w7.cell? ⟨bb, off + j * 2, none⟩ = some (.int .i64 (ts j).long) := fun w7 h => ((hb02.trans (h.mono hs2)).cell (p := ⟨bb, off + j * 2, none⟩) hbb).trans HQ1.out
                  have HQ7 := hide hq7
                  clear HW hrow3 HN HP HF hq7 HR1' HR2 HW0 hcr HI1 HI2 HC HY
                  go_wp2_with (at_builtin; refine wpList_append_own _ rfl _ _ 29 rfl w2.heap.size 3 i0 _ 1 8 Try.underlying29 hi hz0 hz1 hz2 rfl (by decide) _ l.length _ rfl hrE ⟨wq.heap.size + 1, 0, none⟩ 1 1 [.int .i64 (j : Int)] rfl rfl (news1' (by simp) _ _) (by intro u hu; simp at hu; subst hu; rfl) (by unfold maxLen; omega) (by omega) (by simp; omega) ?_)
                  intro v7 w7 hown7 hgrow7 _
                  have hb7 : Below w2.heap.size w2 w7 := (hbW.trans (hbE.mono (by omega))).grown hgrow7 (by simp; omega) (fun q hq => (hrE.lt q hq).1)
                  obtain ⟨a7, c7, rfl⟩ := own_form hown7
                  have HW7 := hide (show w7.ownsRow w2.heap.size 3 1 (.slice a7 (l.length + 1) c7) (l ++ [j]).length (pv (l ++ [j])) from by rw [pv_snoc, List.length_append]; exact hown7)
                  have q7 := HQ7.out w7 hb7
                  clear hgrow7 hown7 hrE hbE HQ7
                  go_wp2
                  exact ⟨⟨i + 1, l ++ [j], e + (ts j).long, HCR, rfl, by rw [HLs.out], HW7, hb7⟩, by simp [intOf]; omega⟩
                | false =>
                  go_wp2_with fail
                  refine (l1has _ (ts j).nn (ts j).fn (y : Int) _ _ HY.out (by omega) hgn).mono ?_
                  rintro e' w' ⟨rfl, rfl⟩
                  clear HY
                  have HN2 := hide (fst_go HN.out HP.out)
                  clear HN HP HW HR1' HR2 HW0 HI1 HI2 HC HT HB
                  go_wp2
                  exact ⟨⟨j + 1, by omega, by go_num, rfl, HN2, hbA⟩, by simp [intOf]; omega⟩
            · have hd2 : (L j == e) = false := by simp [hL]
              have HP := hide (show pC ts L l e j = false by rw [HPe.out, decide_eq_false hL]; simp)
              clear HPe hg HY
              have HN2 := hide (fst_go HN.out HP.out)
              clear HN HP HW HR1' HR2 HW0 HI1 HI2 HC HT HB
              go_wp2
              exact ⟨⟨j + 1, by omega, by go_num, rfl, HN2, hbA⟩, by simp [intOf]; omega⟩
          · have hd1 : (E j == e) = false := by simp [hE]
            have HP := hide (show pC ts L l e j = false by rw [HPe.out, decide_eq_false hE]; simp)
            clear HPe hg HY
            have HN2 := hide (fst_go HN.out HP.out)
            clear HN HP HW HR1' HR2 HW0 HI1 HI2 HC HT HB
            go_wp2
            exact ⟨⟨j + 1, by omega, by go_num, rfl, HN2, hbA⟩, by simp [intOf]; omega⟩
        · obtain rfl : k = j := by omega
          exact absurd HN.out (HC.out.found HB.out HT.out hea2)
    · have HA := hide (show IntsOf wo (.slice ax l.length cx) (cw ts k L all.toNat).1.length (lv (cw ts k L all.toNat).1) from by
        rw [HC.out.fin (CR.ended HT.out hea2)]
        have := HW.out
        rw [pv_range] at this
        exact own_ints this)
      rw [← HLL.out, ← HAA.out] at HA
      have hbf := hb02.trans (hbw.mono hs2)
      clear HC HW HR1' HR2 HW0 HT
      go_wp2
      go_ret2
      exact ⟨⟨_, rfl, HA.out⟩, hbf⟩
end Go.Proofs.Ytkfnfgencaplfaa

/-
  The program's CriticalOf.
-/
import Derived.Test.YtkfnfgencaplfaaPlanXW
namespace Go.Proofs.Ytkfnfgencaplfaa
open Go.RowKit M
theorem goB_at (ts : Nat → Tk) (l : List Nat) (x : Nat) : goB (fun _ => ts x) l 0 = goB ts l x := rfl
set_option maxRecDepth 20000 in
set_option maxHeartbeats 4000000 in
theorem impl_crit (v : Value) (k : Nat) (ts : Nat → Tk) (w : World) (hv : TasksOf w v k ts) (hs : Short k ts) (hg : GoodP k ts) :
    Calls Try.prog 33 #[v] w fun e w' => (∃ r, e = .returned (.tuple #[r, .bool true]) ∧ AnsC w' w.heap.size r (cw ts k (lat ts (eal ts (ord ts k k)) (ord ts k k).reverse) (eal ts (ord ts k k)).toNat).1.length (lv (cw ts k (lat ts (eal ts (ord ts k k)) (ord ts k k).reverse) (eal ts (ord ts k k)).toNat).1)) ∧ Below w.heap.size w w' := by
  obtain ⟨i0, hi, hz0, hz1, hz2⟩ := info_parts info_int
  have HV := hide hv
  have HG := hide hg
  have HS := hide hs
  have hk := hg.1.1
  have HT := hide (tm hg)
  have hea : eal ts (ord ts k k) ≤ 93000 := by
    obtain ⟨-, -, h⟩ := est_in hg.1 (ord ts k k) (fun x hx => ord_lt ts k k x hx)
    rw [show (ord ts k k).length = k from hg.2] at h; omega
  obtain ⟨a, cap, rfl⟩ := hv.form
  clear hv hs hg
  go_enter Try.func33, Try.ntmps33
  go_wp2_with fail
  refine wp_scope_straight ?_
  go_wp2_with fail
  refine (impl_late _ k ts _ HV.out HS.out HG.out).mono ?_
  rintro e w2 ⟨⟨r, rfl, hr⟩, hb02⟩
  have hri := hr.ints
  obtain ⟨a2, c2, rfl⟩ := hr.form
  have HR2 := hide hri
  have hs2 := hb02.size
  clear hr hri
  generalize hLL : lat ts (eal ts (ord ts k k)) (ord ts k k).reverse = L at *
  generalize hEE : est ts (ord ts k k) = E at *
  generalize hAA : eal ts (ord ts k k) = all at *
  have HLL := hide hLL
  have HAA := hide hAA
  have HB := hide HG.out.1
  have HW0 := hide (World.ownsRow_nil w2 w2.heap.size 3 1)
  clear HS HG hLL hEE hAA
  go_wp2_with fail
  refine wp_label ?_
  go_wp2_with fail
  go_loopw [6, 7] (fun x6 x7 wr => ∃ (i : Nat) (l : List Nat) (e : Int), Hid (CR k ts E L all i l e) ∧ x7 = .int .i64 e ∧ Hid (wr.ownsRow w2.heap.size 3 1 x6 l.length (pv l)) ∧ Below w2.heap.size w2 wr) (fun _ x7 _ => (all - intOf x7).toNat)
  case atStart => exact ⟨0, [], 0, hide (CR.zero HT.out), rfl, HW0, Below.refl _ _⟩
  case round =>
    rename World => wo
    obtain ⟨i, l, e, HC, rfl, HW, hbw⟩ := hrel
    obtain ⟨ax, cx, rfl⟩ := own_form HW.out
    have hsw := hbw.size
    have hlen2 := HC.out.len
    have hlo2 := HC.out.lo
    have hhi2 := HC.out.hi
    have HU := hide (show IntsOf wo (.slice ax l.length cx) l.length (lv l) from by
      have := HW.out
      rw [pv_range] at this
      exact own_ints this)
    go_wp2_with fail
    go_loopw [6, 7, 19] (fun x6 x7 y wr => ∃ j : Nat, j ≤ k ∧ y = .int .i64 j ∧ x6 = .slice ax l.length cx ∧ x7 = .int .i64 e ∧ Hid (fst (pC ts L l e) j = none) ∧ Below wo.heap.size wo wr) (fun _ _ y _ => k - (intOf y).toNat)
    case atStart => exact ⟨0, Nat.zero_le _, rfl, rfl, rfl, hide rfl, Below.refl _ _⟩
    case round =>
      rename World => wq
      obtain ⟨j, hj, rfl, rfl, rfl, HN, hbq⟩ := hrel
      by_cases hjl : j < k
      · obtain ⟨_, _, ee, hr2⟩ := HR2.out
        cases ee
        obtain ⟨b2, o2, rfl, hb2', hrow2⟩ := hr2 (by omega)
        obtain ⟨_, _, ee, hr3⟩ := HV.out
        cases ee
        obtain ⟨bb, off, rfl, hbb, hrow⟩ := hr3 (by omega)
        obtain ⟨y, q1, q2, i1⟩ := hrow j hjl
        obtain ⟨ay, cy, rfl, hry⟩ := i1
        have hbw2 := hbw.trans (hbq.mono hsw)
        have hbq2 := hb02.trans (hbw2.mono hs2)
        have c0 := (hbq2.cell (p := ⟨bb, off + j * 2, none⟩) hbb).trans q1
        have c1' := (hbq2.cell (p := ⟨bb, off + j * 2 + 1, none⟩) hbb).trans q2
        have d1 := (hbw2.cell (p := ⟨b2, o2 + j, none⟩) hb2').trans (hrow2 j hjl)
        have HQ1 := hide q1
        have HY := hide (IntsOf.below (show IntsOf w (.slice ay (ts j).nn cy) (ts j).nn (ts j).fn from ⟨_, _, rfl, hry⟩) hbq2)
        have hnn := HB.out.len hjl
        have hi0 : (0 : Int) ≤ (j : Int) := by omega
        have hi1 : (j : Int) < (k : Int) := by omega
        obtain ⟨g, hg⟩ : ∃ g : Bool, goB ts l j = g := ⟨_, rfl⟩
        clear hr2 hr3 hrow hrow2 q1 q2 hry
        by_cases hL : L j = e
        · have hd2 : (L j == e) = true := by simp [hL]
          have HP := hide (show pC ts L l e j = g by unfold pC; rw [decide_eq_true hL, hg]; rfl)
          have HGo := hide (goes_on (.slice ax l.length cx) (.slice ay (ts j).nn cy) l (ts j) g wq (HU.out.below hbq) HY.out (by omega) (by omega) hg)
          have heall : e < all := by have h1 := HT.out.l2 j; have h2 := HT.out.lng j hjl; omega
          clear hg HY
          go_wp2_with fail
          refine HGo.out.mono ?_
          rintro e' w3 ⟨rfl, hb3⟩
          have hbA := hbq.trans (hb3.mono hbq.size)
          clear HGo hb3 d1 hd2 hL c0 c1'
          cases g with
          | true =>
            have HF := hide (fst_stop HN.out HP.out k hjl)
            obtain ⟨_, hcr⟩ := HC.out.next HB.out HT.out HF.out
            have HCR := hide hcr
            have hrow3 := owns_below HW.out hbA
            have hbE := (Below.refl w3.heap.size w3).alloc (Nat.le_refl _) (.cells #[.int .i64 (j : Int)] 3)
            have hrE := owns_below hrow3 hbE
            have hs3 := hbA.size
            have hbW := hbw.trans (hbA.mono hsw)
            have hlj := (HB.out.2 j hjl).1
            have HQ7 := hide (show ∀ w7 : World, Below w2.heap.size w2 w7 → w7.cell? ⟨bb, off + j * 2, none⟩ = some (.int .i64 (ts j).long) from fun w7 h => ((hb02.trans (h.mono hs2)).cell (p := ⟨bb, off + j * 2, none⟩) hbb).trans HQ1.out)
            clear HW hrow3 HN HP HF HR2 HW0 hcr HC HU
            go_wp2_with (at_builtin; refine wpList_append_own _ rfl _ _ 29 rfl w2.heap.size 3 i0 _ 1 8 Try.underlying29 hi hz0 hz1 hz2 rfl (by decide) _ l.length _ rfl hrE ⟨w3.heap.size, 0, none⟩ 1 1 [.int .i64 (j : Int)] rfl rfl (news1 w3 _ _) (by intro u hu; simp at hu; subst hu; rfl) (by unfold maxLen; omega) (by omega) (by simp; omega) ?_)
            intro v7 w7 hown7 hgrow7 _
            have hb7 : Below w2.heap.size w2 w7 := (hbW.trans (hbE.mono (by omega))).grown hgrow7 (by simp; omega) (fun q hq => (hrE.lt q hq).1)
            obtain ⟨a7, c7, rfl⟩ := own_form hown7
            have HW7 := hide (show w7.ownsRow w2.heap.size 3 1 (.slice a7 (l.length + 1) c7) (l ++ [j]).length (pv (l ++ [j])) from by rw [pv_snoc, List.length_append]; exact hown7)
            have q7 := HQ7.out w7 hb7
            clear hgrow7 hown7 hrE hbE HQ7
            go_wp2
            exact ⟨⟨i + 1, l ++ [j], e + (ts j).long, HCR, rfl, HW7, hb7⟩, by simp [intOf]; omega⟩
          | false =>
            have HN2 := hide (fst_go HN.out HP.out)
            clear HN HP HW HR2 HW0 HC HT HB HU HQ1
            go_wp2
            exact ⟨⟨j + 1, by omega, by go_num, rfl, rfl, HN2, hbA⟩, by simp [intOf]; omega⟩
        · have hd2 : (L j == e) = false := by simp [hL]
          have HN2 := hide (fst_go HN.out (show pC ts L l e j = false by unfold pC; rw [decide_eq_false hL]; rfl))
          clear hg HY HN HW HR2 HW0 HC HT HB HU HQ1
          go_wp2
          exact ⟨⟨j + 1, by omega, by go_num, rfl, rfl, HN2, hbq⟩, by simp [intOf]; omega⟩
      · obtain rfl : k = j := by omega
        have HA := hide (show AnsC wq w.heap.size (.slice ax l.length cx) (cw ts k L all.toNat).1.length (lv (cw ts k L all.toNat).1) from by
          rw [HC.out.fin HN.out]
          have := owns_below HW.out hbq
          rw [pv_range] at this
          exact (own_ansC this).mono hs2)
        rw [← HLL.out, ← HAA.out] at HA
        have hbf := hb02.trans ((hbw.trans (hbq.mono hsw)).mono hs2)
        clear HN HC HW HR2 HW0 HT HU
        go_wp2
        rw [Exit.noGoto_ret]
        go_ret2
        exact ⟨⟨_, rfl, HA.out⟩, hbf⟩
end Go.Proofs.Ytkfnfgencaplfaa

/-
  AddBranch and MergeTellings in the program's text. Condition: the table knownKinds reads as its text lays it.
-/
import Derived.Test.YtjgopjnkkhkcnaaGreatDoorBrR
import Derived.Deep.RegionWith
namespace Go.Proofs.YtjgopjnkkhkcnaaGreatDoor
open Go.RowKit M
open Go.Sort (grow)
namespace M
theorem GdU.fine {bs : Brs} (h : GdU bs) (hl : bs.length ≤ 1048576) : FineS bs := ⟨hl, fun b hb => ⟨by have := (h.1 b hb).short; omega, fun e he => by have := (h.1 b hb).names e he; unfold maxLen; omega⟩⟩
theorem plc_ins {ps : Prs} {h : Evs} {i : Nat} {u : Value} : bsP (ps.take i ++ (u, h) :: ps.drop i) = (bsP ps).take i ++ h :: (bsP ps).drop i := by simp [bsP, List.map_take, List.map_drop]
theorem add_no {bs : Brs} {h : Evs} (ht : told bs h = false) : add bs h = (lft bs h).take (plc (lft bs h) h) ++ h :: (lft bs h).drop (plc (lft bs h) h) := by unfold add; rw [ht]; simp
theorem add_yes {bs : Brs} {h : Evs} (ht : told bs h = true) : add bs h = bs := by unfold add; rw [if_pos ht]
/-- What tellings are answered: those, or none. -/
def TlA (w' : World) (B : Nat) (e : Ending) (ok : Bool) (l : Brs) : Prop := ∃ v ps, e = .returned (.tuple #[.agg #[v], .bool ok]) ∧ OwnP w' B v ps ∧ bsP ps = l
end M
set_option maxRecDepth 20000 in
set_option maxHeartbeats 4000000 in
theorem put_branch (A : World) (B : Nat) (v u : Value) (ps : Prs) (h : Evs) (w : World) (ho : OwnP w B v ps) (hA : Below A.heap.size A w) (hAB : A.heap.size ≤ B) (hBw : B ≤ w.heap.size) (hu : SliceOf A u h) (hn : ps.length ≤ 1000) (hg : GdU (bsP ps)) (hh : Tl h) :
    Calls Tryz.prog 123 #[v, u] w fun e w' => (∃ r ps', e = .returned r ∧ OwnP w' B r ps' ∧ bsP ps' = add (bsP ps) h) ∧ Below A.heap.size A w' ∧ w.heap.size ≤ w'.heap.size := by
  have hal := (Below.refl w.heap.size w).alloc (Nat.le_refl _) (.cells #[u] 146)
  obtain ⟨w1, hw1⟩ : ∃ w1, w.alloc (.cells #[u] 146) = w1 := ⟨_, rfl⟩
  have hb1 : M.One w1 w.heap.size u 146 := by rw [← hw1]; exact heap_alloc_new w _
  rw [hw1] at hal
  have hA1 := hA.trans (hal.mono hA.size)
  have HO1 := hide (ho.down hal)
  have HB1 := hide hb1
  have HU := hide hu
  have HF := hide (hg.fine (by rw [bsP_len]; omega))
  have HG := hide hg
  have HH := hide hh
  have hB1 := Nat.le_trans hBw hal.size
  have HVB := hide (show ∀ g, v.ownBlock = some g → g < w.heap.size from fun g hg => (ho.rowBlock hg).2)
  have hsh := hh.short
  obtain ⟨av, cv, rfl⟩ := ho.form
  obtain ⟨au, cu, rfl⟩ := hu.form
  have Hw1 := hide hw1
  have hws := hal.size
  obtain ⟨z, hz⟩ : ∃ z, told (bsP ps) h = z := ⟨_, rfl⟩
  have HZ := hide hz
  have d1 := hb1.cell
  rw [← hw1] at d1
  clear ho hA hu hg hh hw1 hz hb1 hal
  go_enter Tryz.func123, Tryz.ntmps123
  go_wp2_with fail
  rw [Hw1.out]
  have hbrs := HO1.out.brs
  obtain ⟨hpl⟩ : Nonempty ((bsP ps).length = ps.length) := ⟨bsP_len ps⟩
  refine (is_told _ _ (bsP ps) h _ hbrs (HU.out.below hA1) HF.out (by omega) HH.out.pl (fun b hb => (HG.out.1 b hb).pl)).mono ?_
  rw [HZ.out]
  rintro e w2 ⟨rfl, hb2⟩
  have hA2 := hA1.trans (hb2.mono hA1.size)
  have HO2 := hide (HO1.out.down hb2)
  have HB2 := hide (HB1.out.down hb2)
  have hs2 := Nat.le_trans hws hb2.size
  have hB2 := Nat.le_trans hB1 hb2.size
  clear hb2 HO1 HB1 d1 hbrs hpl Hw1 hB1 hA1 hws
  cases z
  case true =>
    have HN := hide (add_yes HZ.out)
    clear HF HG HZ
    go_wp2
    go_ret
    exact ⟨⟨_, ps, rfl, HO2.out, HN.out.symm⟩, hA2, hs2⟩
  case false =>
    have HN := hide (add_no HZ.out)
    have HLP := hide (kp_bs h ps)
    have HLG := hide (show GdU (lft (bsP ps) h) from ⟨fun b hb => HG.out.1 b (mem_lft.1 hb).1, lft_up h HG.out.2⟩)
    have HKL := hide (kp_le h ps)
    have d2 := HB2.out.cell
    go_wp2_with fail
    refine (del_func _ (.slice au h.length cu) ps h w.heap.size B _ HO2.out HB2.out.cell (HU.out.below hA2) (fun g hg => by have := HVB.out g hg; omega) (fun w' hg' => HU.out.below (hA2.grown hg' (Nat.le_trans hAB hB2) (fun j hj => Nat.le_trans hAB (HO2.out.rowBlock hj).1))) (by omega) HF.out (by omega) HH.out.pl (fun b hb => (HG.out.1 b hb).pl)).mono ?_
    rintro e w3 ⟨⟨r1, rfl, hO3, hrb⟩, hg3⟩
    have hA3 := hA2.grown hg3 (Nat.le_trans hAB hB2) (fun j hj => Nat.le_trans hAB (HO2.out.rowBlock hj).1)
    have hb3 : M.One w3 w.heap.size (.slice au h.length cu) 146 := by
      unfold M.One
      rw [hg3.block w.heap.size HB2.out.lt (fun e => by have := HVB.out _ e.symm; omega)]
      exact HB2.out
    have hs3 := Nat.le_trans hs2 hg3.size
    have hB3 := Nat.le_trans hB2 hg3.size
    have HB3 := hide hb3
    have HO3 := hide hO3
    have HR1 := hide (show ∀ g, r1.ownBlock = some g → g < w3.heap.size from fun g hg => (hO3.rowBlock hg).2)
    have hbr : BrsOf w3 r1 (lft (bsP ps) h) := by have := hO3.brs; rwa [HLP.out] at this
    obtain ⟨ar, cr, rfl⟩ := hO3.form
    have HBR := hide hbr
    have hkl := HKL.out
    have HFL := hide (HLG.out.fine (by have := congrArg List.length HLP.out; rw [bsP_len] at this; omega))
    obtain ⟨i, hi⟩ : ∃ i, plc (lft (bsP ps) h) h = i := ⟨_, rfl⟩
    have hil : i ≤ (kp h ps).length := by
      have h1 := plc_le (lft (bsP ps) h) h
      have := congrArg List.length HLP.out
      rw [bsP_len] at this
      omega
    have HI := hide hi
    have HM := hide (show ∀ wx wy : World, wx.heap = w3.heap → Below wx.heap.size wx wy → wy.cell? ⟨w.heap.size, 0, none⟩ = some (.slice au h.length cu) from fun wx wy hh hb => by
      have h : M.One wx w.heap.size (.slice au h.length cu) 146 := by unfold M.One; rw [hh]; exact HB3.out
      exact (h.down hb).cell)
    clear hg3 hb3 hO3 hbr hrb d2 HO2 HB2 HVB hA2 hs2 hB2 hi HZ HG HF
    have d3 := HB3.out.cell
    go_wp2_with fail
    go_cut [5] from 13 (fun x wx => x = .int .i64 (i : Int) ∧ Hid (Below w3.heap.size w3 wx))
    case first =>
      go_region_with (first
        | (go_at_call 185; refine (in_events _ (lft (bsP ps) h) _ (HBR.out.below (Below.refl w3.heap.size w3).drew) HFL.out.1).mono ?_; rintro e w4 ⟨⟨q4, rfl, hq4⟩, hb4⟩; have HQ4 := hide hq4; obtain ⟨a4, c4, rfl⟩ := hq4.form; clear hq4; have m0 := HM.out w3.drew w4 rfl hb4)
        | (go_at_call 184; refine (place_among _ _ (lft (bsP ps) h) h _ HQ4.out (HU.out.below (hA3.drew.trans (hb4.mono hA3.size))) HFL.out (by omega)).mono ?_; rw [HI.out]; rintro e w5 ⟨rfl, hb5⟩))
      all_goals
        go_wp2_with fail
        go_meet
        exact ⟨rfl, hide (((Below.refl w3.heap.size w3).drew.trans hb4).trans (hb5.mono hb4.size))⟩
    case rest =>
    rename World => w5
    obtain ⟨rfl, HCC⟩ := hcut
    have hA5 := hA3.trans (HCC.out.mono hA3.size)
    have HO5 := hide (HO3.out.down HCC.out)
    have HB5 := hide (HB3.out.down HCC.out)
    have hs5 := Nat.le_trans hs3 HCC.out.size
    have h35 := HCC.out.size
    have hB5 := Nat.le_trans hB3 HCC.out.size
    clear HCC HO3 HB3 d3 HM HBR hA3
    have d5 := HB5.out.cell
    go_wp2_with fail
    refine (copy_evs _ h _ (HU.out.below hA5) (by omega) HH.out.names).mono ?_
    rintro e w6 ⟨⟨a6, n6, c6, rfl, hO6⟩, hb6⟩
    have hdn := (Below.refl w6.heap.size w6).alloc (Nat.le_refl _) (.cells #[.slice a6 n6 c6] 148)
    obtain ⟨w7, hw7⟩ : ∃ w7, w6.alloc (.cells #[.slice a6 n6 c6] 148) = w7 := ⟨_, rfl⟩
    obtain ⟨vb, hvb⟩ : ∃ vb, w6.heap.size = vb := ⟨_, rfl⟩
    have hBlk : Blk w7 vb 1 (fun _ => (⟨a6, n6, c6⟩ : Sl).sv) 148 := by rw [← hw7, ← hvb]; exact Blk.fresh w6 #[.slice a6 n6 c6] 1 (fun _ => .slice a6 n6 c6) 148 rfl
    rw [hw7] at hdn
    have h57 := hb6.trans (hdn.mono hb6.size)
    have hA7 := hA5.trans (h57.mono hA5.size)
    have hP7 := HO5.out.down h57
    have hE7 : OwnE w7 B (⟨a6, n6, c6⟩ : Sl).sv h := (hO6.mono hB5).down hdn
    have HP7 := hide hP7
    have HE7 := hide hE7
    have HAP := hide (show ∀ p ∈ kp h ps, Apt p.1 (⟨a6, n6, c6⟩ : Sl).sv from fun p hp q h1 h3 => by
      have h4 := ((HO5.out.evs p hp).lt h1).2
      have h5 := (hO6.lt (g := q) h3).1
      omega)
    have hB7 := Nat.le_trans hB5 h57.size
    have hs7 := Nat.le_trans hs5 h57.size
    have hvl : w3.heap.size ≤ vb := by rw [← hvb]; exact Nat.le_trans h35 hb6.size
    have HINS := hide (ins_brs (.slice ar (kp h ps).length cr) (sls (kp h ps)) i vb B ⟨a6, n6, c6⟩ w7 hP7.row1 (by rw [sls_len]; exact hil) (by rw [sls_len]; omega) hB7 hBlk (fun e => by have := HR1.out vb e; omega))
    have Hw7 := hide hw7
    have Hvb := hide hvb
    clear hw7 hvb hBlk hdn h57 hP7 hE7 hO6 hb6 d5 HO5 HB5 hA5 hs5 hB5 h35 HR1
    go_wp2_with fail
    rw [Hw7.out, Hvb.out]
    refine HINS.out.mono ?_
    rintro e w8 ⟨⟨a8, n8, c8, rfl, hO8⟩, hg8⟩
    have HR := hide (HP7.out.ins HE7.out HAP.out hO8 hg8)
    have hA8 := hA7.grown hg8 (Nat.le_trans hAB hB7) (fun j hj => Nat.le_trans hAB (HP7.out.rowBlock hj).1)
    have hs8 := Nat.le_trans hs7 hg8.size
    have HBS := hide (show bsP ((kp h ps).take i ++ ((⟨a6, n6, c6⟩ : Sl).sv, h) :: (kp h ps).drop i) = add (bsP ps) h by rw [plc_ins, HLP.out, HN.out, HI.out])
    clear hO8 hg8 HINS HP7 HE7 HAP Hw7 Hvb hA7
    go_wp2
    go_ret
    exact ⟨⟨_, _, rfl, HR.out, HBS.out⟩, hA8, hs8⟩
set_option maxHeartbeats 2000000 in
theorem tellings_of (v : Value) (ps : Prs) (ok : Bool) (w : World) (ho : ∃ a c, v = .slice a ps.length c) (hk : ok = decide (ps.length ≤ 12)) :
    Calls Tryz.prog 263 #[v] w fun e w' => e = .returned (.tuple #[.agg #[if ok = true then v else .slice none 0 0], .bool ok]) ∧ Below w.heap.size w w' := by
  obtain ⟨a, c, rfl⟩ := ho
  by_cases h12 : ps.length ≤ 12
  · have hg : ¬ ((ps.length : Int) > 12) := by omega
    have hg2 : ¬ (12 < ps.length) := by omega
    have hok : ok = true := by rw [hk]; exact decide_eq_true h12
    subst hok
    clear hk h12
    go_enter Tryz.func263, Tryz.ntmps263
    go_wp2
    exact bodyPost_ret (v := .tuple #[.agg #[.slice a ps.length c], .bool true]) (by simp [results, Tryz.results263, go_sem]) rfl ⟨rfl, (Below.refl _ w).alloc (Nat.le_refl _) _⟩
  · have hg : (ps.length : Int) > 12 := by omega
    have hg2 : 12 < ps.length := by omega
    have hok : ok = false := by rw [hk]; exact decide_eq_false h12
    subst hok
    clear hk h12
    go_enter Tryz.func263, Tryz.ntmps263
    go_wp2
    exact bodyPost_ret (v := .tuple #[.agg #[.slice none 0 0], .bool false]) (by simp [results, Tryz.results263, go_sem]) rfl ⟨rfl, (Below.refl _ w).alloc (Nat.le_refl _) _⟩
end Go.Proofs.YtjgopjnkkhkcnaaGreatDoor

/-
  One history more, told by what may be turned: the row of the branches, and nothing else.
-/
import Derived.Test.YtjgopjnkkhkcnaaGreatDoorBrT
namespace Go.Proofs.YtjgopjnkkhkcnaaGreatDoor
open Go.RowKit M
open Go.Sort (grow)
namespace M
theorem gbU_trans {a b c : World} {row : Option Nat} (h : a.grownBy b row) (h2 : b.grownBy c row) : a.grownBy c row :=
  ⟨h2.os.trans h.os, h2.tape.trans h.tape, h2.output.trans h.output, Nat.le_trans h.size h2.size, fun k hk hn => (h2.block k (Nat.lt_of_lt_of_le hk h.size) hn).trans (h.block k hk hn)⟩
theorem gbD {w w' : World} (h : Below w.heap.size w w') (row : Option Nat) : w.grownBy w' row := ⟨h.os, h.tape, h.output, h.size, fun k hk _ => h.block k hk⟩
end M
set_option maxRecDepth 20000 in
set_option maxHeartbeats 4000000 in
theorem put_branch2 (B Bu : Nat) (v u : Value) (ps : Prs) (h : Evs) (w : World) (ho : OwnP w B v ps) (hBw : B ≤ w.heap.size) (hu : OwnE w Bu u h) (hap : Apt v u) (hn : ps.length ≤ 1000) (hg : GdU (bsP ps)) (hh : Tl h) :
    Calls Tryz.prog 123 #[v, u] w fun e w' => (∃ r ps', e = .returned r ∧ OwnP w' B r ps' ∧ bsP ps' = add (bsP ps) h) ∧ w.grownBy w' v.ownBlock := by
  have hal := (Below.refl w.heap.size w).alloc (Nat.le_refl _) (.cells #[u] 146)
  obtain ⟨w1, hw1⟩ : ∃ w1, w.alloc (.cells #[u] 146) = w1 := ⟨_, rfl⟩
  have hb1 : M.One w1 w.heap.size u 146 := by rw [← hw1]; exact heap_alloc_new w _
  rw [hw1] at hal
  obtain ⟨row, hrow⟩ : ∃ row, v.ownBlock = row := ⟨_, rfl⟩
  have HUW := hide (show ∀ W, w.grownBy W row → SliceOf W u h from fun W hg => (hu.other hg (fun g h1 e => by rw [← hrow] at e; exact hap g e.symm h1)).slice)
  have G1 := gbD hal row
  have HRW := hide hrow
  have HO1 := hide (ho.down hal)
  have HB1 := hide hb1
  have HF := hide (hg.fine (by rw [bsP_len]; omega))
  have HG := hide hg
  have HH := hide hh
  have hB1 := Nat.le_trans hBw hal.size
  have HVB := hide (show ∀ g, v.ownBlock = some g → g < w.heap.size from fun g hg => (ho.rowBlock hg).2)
  have hsh := hh.short
  obtain ⟨av, cv, rfl⟩ := ho.form
  obtain ⟨au, cu, rfl⟩ := hu.slice.form
  have Hw1 := hide hw1
  have hws := hal.size
  obtain ⟨z, hz⟩ : ∃ z, told (bsP ps) h = z := ⟨_, rfl⟩
  have HZ := hide hz
  have d1 := hb1.cell
  rw [← hw1] at d1
  clear ho hu hap hg hh hw1 hz hb1 hal hrow
  go_enter Tryz.func123, Tryz.ntmps123
  go_wp2_with fail
  rw [Hw1.out]
  have hbrs := HO1.out.brs
  obtain ⟨hpl⟩ : Nonempty ((bsP ps).length = ps.length) := ⟨bsP_len ps⟩
  refine (is_told _ _ (bsP ps) h _ hbrs (HUW.out _ G1) HF.out (by omega) HH.out.pl (fun b hb => (HG.out.1 b hb).pl)).mono ?_
  rw [HZ.out]
  rintro e w2 ⟨rfl, hb2⟩
  have G2 := gbU_trans G1 (gbD hb2 row)
  have HO2 := hide (HO1.out.down hb2)
  have HB2 := hide (HB1.out.down hb2)
  have hs2 := Nat.le_trans hws hb2.size
  have hB2 := Nat.le_trans hB1 hb2.size
  clear hb2 HO1 HB1 d1 hbrs hpl Hw1 hB1 hws
  cases z
  case true =>
    have HN := hide (add_yes HZ.out)
    clear HF HG HZ
    go_wp2
    go_ret
    exact ⟨⟨_, ps, rfl, HO2.out, HN.out.symm⟩, by rw [HRW.out]; exact G2⟩
  case false =>
    have HN := hide (add_no HZ.out)
    have HLP := hide (kp_bs h ps)
    have HLG := hide (show GdU (lft (bsP ps) h) from ⟨fun b hb => HG.out.1 b (mem_lft.1 hb).1, lft_up h HG.out.2⟩)
    have HKL := hide (kp_le h ps)
    have d2 := HB2.out.cell
    go_wp2_with fail
    refine (del_func _ (.slice au h.length cu) ps h w.heap.size B _ HO2.out HB2.out.cell (HUW.out _ G2) (fun g hg => by have := HVB.out g hg; omega) (fun w' hg' => HUW.out _ (gbU_trans G2 (by rw [HRW.out] at hg'; exact hg'))) (by omega) HF.out (by omega) HH.out.pl (fun b hb => (HG.out.1 b hb).pl)).mono ?_
    rintro e w3 ⟨⟨r1, rfl, hO3, hrb⟩, hg3⟩
    have G3 := gbU_trans G2 (by rw [HRW.out] at hg3; exact hg3)
    have HRB := hide (hrb.trans HRW.out)
    have hb3 : M.One w3 w.heap.size (.slice au h.length cu) 146 := by
      unfold M.One
      rw [hg3.block w.heap.size HB2.out.lt (fun e => by have := HVB.out _ e.symm; omega)]
      exact HB2.out
    have hs3 := Nat.le_trans hs2 hg3.size
    have hB3 := Nat.le_trans hB2 hg3.size
    have HB3 := hide hb3
    have HO3 := hide hO3
    have HR1 := hide (show ∀ g, r1.ownBlock = some g → g < w3.heap.size from fun g hg => (hO3.rowBlock hg).2)
    have hbr : BrsOf w3 r1 (lft (bsP ps) h) := by have := hO3.brs; rwa [HLP.out] at this
    obtain ⟨ar, cr, rfl⟩ := hO3.form
    have HBR := hide hbr
    have hkl := HKL.out
    have HFL := hide (HLG.out.fine (by have := congrArg List.length HLP.out; rw [bsP_len] at this; omega))
    obtain ⟨i, hi⟩ : ∃ i, plc (lft (bsP ps) h) h = i := ⟨_, rfl⟩
    have hil : i ≤ (kp h ps).length := by
      have h1 := plc_le (lft (bsP ps) h) h
      have := congrArg List.length HLP.out
      rw [bsP_len] at this
      omega
    have HI := hide hi
    have HM := hide (show ∀ wx wy : World, wx.heap = w3.heap → Below wx.heap.size wx wy → wy.cell? ⟨w.heap.size, 0, none⟩ = some (.slice au h.length cu) from fun wx wy hh hb => by
      have h : M.One wx w.heap.size (.slice au h.length cu) 146 := by unfold M.One; rw [hh]; exact HB3.out
      exact (h.down hb).cell)
    clear hg3 hb3 hO3 hbr hrb d2 HO2 HB2 HVB hs2 hB2 hi HZ HG HF
    have d3 := HB3.out.cell
    go_wp2_with fail
    go_cut [5] from 13 (fun x wx => x = .int .i64 (i : Int) ∧ Hid (Below w3.heap.size w3 wx))
    case first =>
      go_region_with (first
        | (go_at_call 185; refine (in_events _ (lft (bsP ps) h) _ (HBR.out.below (Below.refl w3.heap.size w3).drew) HFL.out.1).mono ?_; rintro e w4 ⟨⟨q4, rfl, hq4⟩, hb4⟩; have HQ4 := hide hq4; obtain ⟨a4, c4, rfl⟩ := hq4.form; clear hq4; have m0 := HM.out w3.drew w4 rfl hb4)
        | (go_at_call 184; refine (place_among _ _ (lft (bsP ps) h) h _ HQ4.out (HUW.out _ (gbU_trans G3 (gbD ((Below.refl w3.heap.size w3).drew.trans hb4) row))) HFL.out (by omega)).mono ?_; rw [HI.out]; rintro e w5 ⟨rfl, hb5⟩))
      all_goals
        go_wp2_with fail
        go_meet
        exact ⟨rfl, hide (((Below.refl w3.heap.size w3).drew.trans hb4).trans (hb5.mono hb4.size))⟩
    case rest =>
    rename World => w5
    obtain ⟨rfl, HCC⟩ := hcut
    have G5 := gbU_trans G3 (gbD HCC.out row)
    have HO5 := hide (HO3.out.down HCC.out)
    have HB5 := hide (HB3.out.down HCC.out)
    have hs5 := Nat.le_trans hs3 HCC.out.size
    have h35 := HCC.out.size
    have hB5 := Nat.le_trans hB3 HCC.out.size
    clear HCC HO3 HB3 d3 HM HBR
    have d5 := HB5.out.cell
    go_wp2_with fail
    refine (copy_evs _ h _ (HUW.out _ G5) (by omega) HH.out.names).mono ?_
    rintro e w6 ⟨⟨a6, n6, c6, rfl, hO6⟩, hb6⟩
    have hdn := (Below.refl w6.heap.size w6).alloc (Nat.le_refl _) (.cells #[.slice a6 n6 c6] 148)
    obtain ⟨w7, hw7⟩ : ∃ w7, w6.alloc (.cells #[.slice a6 n6 c6] 148) = w7 := ⟨_, rfl⟩
    obtain ⟨vb, hvb⟩ : ∃ vb, w6.heap.size = vb := ⟨_, rfl⟩
    have hBlk : Blk w7 vb 1 (fun _ => (⟨a6, n6, c6⟩ : Sl).sv) 148 := by rw [← hw7, ← hvb]; exact Blk.fresh w6 #[.slice a6 n6 c6] 1 (fun _ => .slice a6 n6 c6) 148 rfl
    rw [hw7] at hdn
    have h57 := hb6.trans (hdn.mono hb6.size)
    have G7 := gbU_trans G5 (gbD h57 row)
    have hP7 := HO5.out.down h57
    have hE7 : OwnE w7 B (⟨a6, n6, c6⟩ : Sl).sv h := (hO6.mono hB5).down hdn
    have HP7 := hide hP7
    have HE7 := hide hE7
    have HAP := hide (show ∀ p ∈ kp h ps, Apt p.1 (⟨a6, n6, c6⟩ : Sl).sv from fun p hp q h1 h3 => by
      have h4 := ((HO5.out.evs p hp).lt h1).2
      have h5 := (hO6.lt (g := q) h3).1
      omega)
    have hB7 := Nat.le_trans hB5 h57.size
    have hs7 := Nat.le_trans hs5 h57.size
    have hvl : w3.heap.size ≤ vb := by rw [← hvb]; exact Nat.le_trans h35 hb6.size
    have HINS := hide (ins_brs (.slice ar (kp h ps).length cr) (sls (kp h ps)) i vb B ⟨a6, n6, c6⟩ w7 hP7.row1 (by rw [sls_len]; exact hil) (by rw [sls_len]; omega) hB7 hBlk (fun e => by have := HR1.out vb e; omega))
    have Hw7 := hide hw7
    have Hvb := hide hvb
    clear hw7 hvb hBlk hdn h57 hP7 hE7 hO6 hb6 d5 HO5 HB5 hs5 hB5 h35 HR1
    go_wp2_with fail
    rw [Hw7.out, Hvb.out]
    refine HINS.out.mono ?_
    rintro e w8 ⟨⟨a8, n8, c8, rfl, hO8⟩, hg8⟩
    have HR := hide (HP7.out.ins HE7.out HAP.out hO8 hg8)
    have G8 := gbU_trans G7 (by rw [HRB.out] at hg8; exact hg8)
    have HBS := hide (show bsP ((kp h ps).take i ++ ((⟨a6, n6, c6⟩ : Sl).sv, h) :: (kp h ps).drop i) = add (bsP ps) h by rw [plc_ins, HLP.out, HN.out, HI.out])
    clear hO8 hg8 HINS HP7 HE7 HAP Hw7 Hvb
    go_wp2
    go_ret
    exact ⟨⟨_, _, rfl, HR.out, HBS.out⟩, by rw [HRW.out]; exact G8⟩
end Go.Proofs.YtjgopjnkkhkcnaaGreatDoor

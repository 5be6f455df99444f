/-
  Texts that follow one another, joined: StT4, StT5, StT6.
-/
import Derived.Test.YtfkeokglifpkoaaDoorJoin23
/-
  What happens to a state in its box, at one kind.
-/
namespace Go.Proofs.YtfkeokglifpkoaaDoor
open Go.RowKit M
open Clk (upd upd_same upd_other)
open Go.Sort (grow)
set_option maxRecDepth 20000 in
set_option maxHeartbeats 8000000 in
theorem take4 (B g : Nat) (v0 v1 : Value) (s : St) (x : ByteArray) (b : Bool) (w : World) (h : SM w B g v0 v1 s) (hs : GoodSt s) (hx : gN x = true) (hB : B ≤ w.heap.size) (hb : BP b (s.st = 1 ∧ GoodSt ⟨s.st, s.nx + 1, s.ca, s.dn, s.sg, tog s.tm x⟩)) :
    Calls Tryd.prog 66 #[.pointer (some ⟨g, 0, none⟩), .iface 115 (.agg #[.string x])] w fun e w' => e = .returned (.bool b) ∧ (b = true → ∃ u0 u1, SM w' B g u0 u1 ⟨s.st, s.nx + 1, s.ca, s.dn, s.sg, tog s.tm x⟩) ∧ Below B w w' := by
  obtain ⟨a0, c0, rfl⟩ := h.o0.form
  obtain ⟨a1, c1, rfl⟩ := h.o1.form
  obtain ⟨⟨d0, d1, d2, d3, d4, d5⟩, f0, f1, f2, f3, f4, f5⟩ := h.box.hex
  have hcm := cm4 x
  have ha1 := as4_1
  have ha2 := as4_2
  have ha3 := as4_3
  have ha4 := as4_4
  have HM := hide h
  have HG := hide hs
  have HB := hide hb
  have e0 := fun wy (hb : Below w.drew.heap.size w.drew wy) => ((hb.cell (p := ⟨g, 0, none⟩) (show g < w.drew.heap.size from HM.out.box.lt)).trans (show w.drew.cell? ⟨g, 0, none⟩ = _ from d0))
  have HE0 := hide e0
  clear e0 h hs hb
  by_cases hst : s.st = 1
  case neg =>
    have hq : (s.st != 1) = true := by simp [hst]
    have HF := hide (HB.out.no (fun h => hst h.1))
    clear hst
    go_enter Tryd.func66, Tryd.ntmps66
    go_upto_region 1 with fail
    go_cut [17] from 11 (fun bb wx => bb = .bool true ∧ Hid (Below w.heap.size w wx))
    case first =>
      go_region_with (go_at_call 114; refine (comes2 _).mono ?_; rintro e wj ⟨rfl, hbj⟩; have m0 := HE0.out _ hbj)
      all_goals
        go_wp2_with fail
        go_meet
        exact ⟨rfl, hide ((Below.refl _ w).drew.trans hbj)⟩
    case rest =>
      rename World => wC
      obtain ⟨rfl, HC⟩ := hcut
      clear d0 d1 d2 d3 d4 d5 f0 f1 f2 f3 f4 f5 HM HE0 HB HG
      go_wp2
      go_ret
      exact ⟨ret_bool HF.out.symm, fun h => (by rw [HF.out] at h; cases h), HC.out.mono hB⟩
  have hq : (s.st != 1) = false := by simp [hst]
  have HST := hide hst
  clear hst
  obtain ⟨⟨hn1, hn2⟩, ⟨hd1, hd2⟩, hsg, htm, -⟩ := HG.out
  have HSG := hide hsg
  have HTM := hide htm
  have HSH := hide (show ShortT s from ⟨by have := hsg.1; omega, by have := htm.1; omega⟩)
  clear hsg htm
  go_enter Tryd.func66, Tryd.ntmps66
  go_upto_region 1 with fail
  go_cut [17] from 11 (fun bb wx => bb = .bool false ∧ Hid (SM wx B g (.slice a0 s.sg.length c0) (.slice a1 s.tm.length c1) s ∧ Below w.heap.size w wx))
  case first =>
    go_region_with (go_at_call 114; refine (comes2 _).mono ?_; rintro e wj ⟨rfl, hbj⟩; have m0 := HE0.out _ hbj)
    all_goals
      go_wp2_with fail
      go_meet
      exact ⟨rfl, hide ⟨HM.out.down ((Below.refl _ w).drew.trans hbj), (Below.refl _ w).drew.trans hbj⟩⟩
  case rest =>
    rename World => wC
    obtain ⟨rfl, HC⟩ := hcut
    clear d0 d1 d2 d3 d4 d5 f0 f1 f2 f3 f4 f5 HM HE0
    have hbC : Below B w wC := HC.out.2.mono hB
    have hBC : B ≤ wC.heap.size := Nat.le_trans hB hbC.size
    have HM := hide HC.out.1
    clear HC
    obtain ⟨⟨d0, d1, d2, d3, d4, d5⟩, f0, f1, f2, f3, f4, f5⟩ := HM.out.box.hex
    have hlo := HM.out.lo
    have hglt : g < wC.heap.size := HM.out.box.lt
    have HBG := hide (show BP b (GoodSt ⟨s.st, s.nx + 1, s.ca, s.dn, s.sg, tog s.tm x⟩) from ⟨fun hh => (HB.out.1 hh).2, fun hh => HB.out.2 ⟨HST.out, hh⟩⟩)
    have hdn := (Below.refl wC.heap.size wC).alloc (Nat.le_refl _) (.cells #[.string x] 115)
    have HM2 := hide (HM.out.down hdn)
    have hb2 := hbC.trans (hdn.mono hBC)
    have hB2 : B ≤ (wC.alloc (.cells #[.string x] 115)).heap.size := by simp; omega
    have HX := hide hx
    clear HM HB HST HG hdn d0 d1 d2 d3 d4 d5 f0 f1 f2 f3 f4 f5 hx
    go_wp2_with fail
    refine (turn_impl B g _ _ s x _ HM2.out HTM.out.rise (by have := HTM.out.1; omega) hB2).mono ?_
    rintro e w5 ⟨rfl, ⟨a5, n5, c5, hM5⟩, hb5⟩
    have HM5 := hide hM5
    have hb6 := hb2.trans hb5
    obtain ⟨⟨d0, d1, d2, d3, d4, d5⟩, f0, f1, f2, f3, f4, f5⟩ := hM5.box.hex
    have HS := hide (hM5.set1 (s.nx + 1))
    have HL := hide (hb6.setCell (p := ⟨g, 1, none⟩) hlo (.int .i64 (s.nx + 1)))
    simp only at d0 d1 d2 d3 d4 d5
    clear hM5 hb5 HM2 hb2 hB2 hb6 HM5
    go_wp2_with fail
    refine (impl_goodSt _ _ (⟨s.st, s.nx + 1, s.ca, s.dn, s.sg, tog s.tm x⟩ : St) b _ HS.out.c (show ShortT _ from ⟨HSH.out.1, Nat.le_trans (tog_len _ _) (by have := HTM.out.1; omega)⟩) (show NmT _ from ⟨nm12 HSG.out, tog_nm HTM.out HX.out⟩) HBG.out).mono ?_
    rintro e w9 ⟨rfl, hb9⟩
    have HF := hide (show (∃ u0 u1, SM w9 B g u0 u1 ⟨s.st, s.nx + 1, s.ca, s.dn, s.sg, tog s.tm x⟩) ∧ Below B w w9 from ⟨⟨_, _, HS.out.down hb9⟩, HL.out.trans (hb9.mono (Nat.le_trans hB HL.out.size))⟩)
    clear hb9
    go_wp2
    go_ret
    exact ⟨rfl, fun _ => HF.out.1, HF.out.2⟩
end Go.Proofs.YtfkeokglifpkoaaDoor

/-
  What happens to a state in its box, at one kind.
-/
namespace Go.Proofs.YtfkeokglifpkoaaDoor
open Go.RowKit M
open Clk (upd upd_same upd_other)
open Go.Sort (grow)
set_option maxRecDepth 20000 in
set_option maxHeartbeats 8000000 in
theorem take5 (B g : Nat) (v0 v1 : Value) (s : St) (b : Bool) (w : World) (h : SM w B g v0 v1 s) (hs : GoodSt s) (hB : B ≤ w.heap.size) (hb : BP b (s.st = 1 ∧ s.ca = false ∧ GoodSt ⟨s.st, s.nx + 1, true, s.dn, s.sg, s.tm⟩)) :
    Calls Tryd.prog 66 #[.pointer (some ⟨g, 0, none⟩), .iface 117 (.agg #[])] w fun e w' => e = .returned (.bool b) ∧ (b = true → ∃ u0 u1, SM w' B g u0 u1 ⟨s.st, s.nx + 1, true, s.dn, s.sg, s.tm⟩) ∧ Below B w w' := by
  obtain ⟨a0, c0, rfl⟩ := h.o0.form
  obtain ⟨a1, c1, rfl⟩ := h.o1.form
  obtain ⟨⟨d0, d1, d2, d3, d4, d5⟩, f0, f1, f2, f3, f4, f5⟩ := h.box.hex
  have hcm := cm5
  have ha1 := as5_1
  have ha2 := as5_2
  have ha3 := as5_3
  have ha4 := as5_4
  have ha5 := as5_5
  have HM := hide h
  have HG := hide hs
  have HB := hide hb
  have e0 := fun wy (hb : Below w.drew.heap.size w.drew wy) => ((hb.cell (p := ⟨g, 0, none⟩) (show g < w.drew.heap.size from HM.out.box.lt)).trans (show w.drew.cell? ⟨g, 0, none⟩ = _ from d0))
  have HE0 := hide e0
  clear e0 h hs hb
  by_cases hst : s.st = 1
  case neg =>
    have hq : (s.st != 1) = true := by simp [hst]
    have HF := hide (HB.out.no (fun h => hst h.1))
    clear hst
    go_enter Tryd.func66, Tryd.ntmps66
    go_upto_region 1 with fail
    go_cut [17] from 11 (fun bb wx => bb = .bool true ∧ Hid (Below w.heap.size w wx))
    case first =>
      go_region_with (go_at_call 114; refine (comes2 _).mono ?_; rintro e wj ⟨rfl, hbj⟩; have m0 := HE0.out _ hbj)
      all_goals
        go_wp2_with fail
        go_meet
        exact ⟨rfl, hide ((Below.refl _ w).drew.trans hbj)⟩
    case rest =>
      rename World => wC
      obtain ⟨rfl, HC⟩ := hcut
      clear d0 d1 d2 d3 d4 d5 f0 f1 f2 f3 f4 f5 HM HE0 HB HG
      go_wp2
      go_ret
      exact ⟨ret_bool HF.out.symm, fun h => (by rw [HF.out] at h; cases h), HC.out.mono hB⟩
  have hq : (s.st != 1) = false := by simp [hst]
  have HST := hide hst
  clear hst
  obtain ⟨⟨hn1, hn2⟩, ⟨hd1, hd2⟩, hsg, htm, -⟩ := HG.out
  have HSG := hide hsg
  have HTM := hide htm
  have HSH := hide (show ShortT s from ⟨by have := hsg.1; omega, by have := htm.1; omega⟩)
  clear hsg htm
  go_enter Tryd.func66, Tryd.ntmps66
  go_upto_region 1 with fail
  go_cut [17] from 11 (fun bb wx => bb = .bool false ∧ Hid (SM wx B g (.slice a0 s.sg.length c0) (.slice a1 s.tm.length c1) s ∧ Below w.heap.size w wx))
  case first =>
    go_region_with (go_at_call 114; refine (comes2 _).mono ?_; rintro e wj ⟨rfl, hbj⟩; have m0 := HE0.out _ hbj)
    all_goals
      go_wp2_with fail
      go_meet
      exact ⟨rfl, hide ⟨HM.out.down ((Below.refl _ w).drew.trans hbj), (Below.refl _ w).drew.trans hbj⟩⟩
  case rest =>
    rename World => wC
    obtain ⟨rfl, HC⟩ := hcut
    clear d0 d1 d2 d3 d4 d5 f0 f1 f2 f3 f4 f5 HM HE0
    have hbC : Below B w wC := HC.out.2.mono hB
    have hBC : B ≤ wC.heap.size := Nat.le_trans hB hbC.size
    have HM := hide HC.out.1
    clear HC
    obtain ⟨⟨d0, d1, d2, d3, d4, d5⟩, f0, f1, f2, f3, f4, f5⟩ := HM.out.box.hex
    have hlo := HM.out.lo
    have hglt : g < wC.heap.size := HM.out.box.lt
    by_cases hca : s.ca = true
    · have HF := hide (HB.out.no (fun h => by rw [hca] at h; exact absurd h.2.1 (by simp)))
      have HL := hide (hbC.alloc hBC (.cells #[] 117))
      rw [hca] at d2
      clear HM HB HST HG hca d0 d1 d3 d4 d5
      go_wp2
      go_ret
      exact ⟨ret_bool HF.out.symm, fun h => (by rw [HF.out] at h; cases h), HL.out⟩
    have hca : s.ca = false := by simpa using hca
    have HBG := hide (show BP b (GoodSt ⟨s.st, s.nx + 1, true, s.dn, s.sg, s.tm⟩) from ⟨fun hh => (HB.out.1 hh).2.2, fun hh => HB.out.2 ⟨HST.out, hca, hh⟩⟩)
    rw [hca] at d2
    have HS := hide (((HM.out.set2 true).set1 (s.nx + 1)).down ((Below.refl _ _).alloc (Nat.le_refl _) (.cells #[] 117)))
    have HL := hide (((hbC.setCell (p := ⟨g, 2, none⟩) hlo (.bool true)).setCell (p := ⟨g, 1, none⟩) hlo (.int .i64 (s.nx + 1))).alloc (by simp; omega) (.cells #[] 117))
    clear HM HB HST HG hca
    go_wp2_with fail
    refine (impl_goodSt _ _ (⟨s.st, s.nx + 1, true, s.dn, s.sg, s.tm⟩ : St) b _ HS.out.c (show ShortT _ from HSH.out) (show NmT _ from ⟨nm12 HSG.out, nm12 HTM.out⟩) HBG.out).mono ?_
    rintro e w9 ⟨rfl, hb9⟩
    have HF := hide (show (∃ u0 u1, SM w9 B g u0 u1 ⟨s.st, s.nx + 1, true, s.dn, s.sg, s.tm⟩) ∧ Below B w w9 from ⟨⟨_, _, HS.out.down hb9⟩, HL.out.trans (hb9.mono (Nat.le_trans hB HL.out.size))⟩)
    clear hb9
    go_wp2
    go_ret
    exact ⟨rfl, fun _ => HF.out.1, HF.out.2⟩
end Go.Proofs.YtfkeokglifpkoaaDoor

/-
  What happens to a state in its box, at one kind.
-/
namespace Go.Proofs.YtfkeokglifpkoaaDoor
open Go.RowKit M
open Clk (upd upd_same upd_other)
open Go.Sort (grow)
set_option maxRecDepth 20000 in
set_option maxHeartbeats 8000000 in
theorem take6 (B g : Nat) (v0 v1 : Value) (s : St) (b : Bool) (w : World) (h : SM w B g v0 v1 s) (hs : GoodSt s) (hB : B ≤ w.heap.size) (hb : BP b (s.st = 1 ∧ GoodSt ⟨2, s.nx + 1, s.ca, s.dn, s.sg, []⟩)) :
    Calls Tryd.prog 66 #[.pointer (some ⟨g, 0, none⟩), .iface 118 (.agg #[])] w fun e w' => e = .returned (.bool b) ∧ (b = true → ∃ u0 u1, SM w' B g u0 u1 ⟨2, s.nx + 1, s.ca, s.dn, s.sg, []⟩) ∧ Below B w w' := by
  obtain ⟨a0, c0, rfl⟩ := h.o0.form
  obtain ⟨a1, c1, rfl⟩ := h.o1.form
  obtain ⟨⟨d0, d1, d2, d3, d4, d5⟩, f0, f1, f2, f3, f4, f5⟩ := h.box.hex
  have hcm := cm6
  have ha1 := as6_1
  have ha2 := as6_2
  have ha3 := as6_3
  have ha4 := as6_4
  have ha5 := as6_5
  have ha6 := as6_6
  have HM := hide h
  have HG := hide hs
  have HB := hide hb
  have e0 := fun wy (hb : Below w.drew.heap.size w.drew wy) => ((hb.cell (p := ⟨g, 0, none⟩) (show g < w.drew.heap.size from HM.out.box.lt)).trans (show w.drew.cell? ⟨g, 0, none⟩ = _ from d0))
  have HE0 := hide e0
  clear e0 h hs hb
  by_cases hst : s.st = 1
  case neg =>
    have hq : (s.st != 1) = true := by simp [hst]
    have HF := hide (HB.out.no (fun h => hst h.1))
    clear hst
    go_enter Tryd.func66, Tryd.ntmps66
    go_upto_region 1 with fail
    go_cut [17] from 11 (fun bb wx => bb = .bool true ∧ Hid (Below w.heap.size w wx))
    case first =>
      go_region_with (go_at_call 114; refine (comes2 _).mono ?_; rintro e wj ⟨rfl, hbj⟩; have m0 := HE0.out _ hbj)
      all_goals
        go_wp2_with fail
        go_meet
        exact ⟨rfl, hide ((Below.refl _ w).drew.trans hbj)⟩
    case rest =>
      rename World => wC
      obtain ⟨rfl, HC⟩ := hcut
      clear d0 d1 d2 d3 d4 d5 f0 f1 f2 f3 f4 f5 HM HE0 HB HG
      go_wp2
      go_ret
      exact ⟨ret_bool HF.out.symm, fun h => (by rw [HF.out] at h; cases h), HC.out.mono hB⟩
  have hq : (s.st != 1) = false := by simp [hst]
  have HST := hide hst
  clear hst
  obtain ⟨⟨hn1, hn2⟩, ⟨hd1, hd2⟩, hsg, htm, -⟩ := HG.out
  have HSG := hide hsg
  have HTM := hide htm
  have HSH := hide (show ShortT s from ⟨by have := hsg.1; omega, by have := htm.1; omega⟩)
  clear hsg htm
  go_enter Tryd.func66, Tryd.ntmps66
  go_upto_region 1 with fail
  go_cut [17] from 11 (fun bb wx => bb = .bool false ∧ Hid (SM wx B g (.slice a0 s.sg.length c0) (.slice a1 s.tm.length c1) s ∧ Below w.heap.size w wx))
  case first =>
    go_region_with (go_at_call 114; refine (comes2 _).mono ?_; rintro e wj ⟨rfl, hbj⟩; have m0 := HE0.out _ hbj)
    all_goals
      go_wp2_with fail
      go_meet
      exact ⟨rfl, hide ⟨HM.out.down ((Below.refl _ w).drew.trans hbj), (Below.refl _ w).drew.trans hbj⟩⟩
  case rest =>
    rename World => wC
    obtain ⟨rfl, HC⟩ := hcut
    clear d0 d1 d2 d3 d4 d5 f0 f1 f2 f3 f4 f5 HM HE0
    have hbC : Below B w wC := HC.out.2.mono hB
    have hBC : B ≤ wC.heap.size := Nat.le_trans hB hbC.size
    have HM := hide HC.out.1
    clear HC
    obtain ⟨⟨d0, d1, d2, d3, d4, d5⟩, f0, f1, f2, f3, f4, f5⟩ := HM.out.box.hex
    have hlo := HM.out.lo
    have hglt : g < wC.heap.size := HM.out.box.lt
    have HBG := hide (show BP b (GoodSt ⟨2, s.nx + 1, s.ca, s.dn, s.sg, []⟩) from ⟨fun hh => (HB.out.1 hh).2, fun hh => HB.out.2 ⟨HST.out, hh⟩⟩)
    have HS := hide ((((HM.out.set0 2).nil5).set1 (s.nx + 1)).down ((Below.refl _ _).alloc (Nat.le_refl _) (.cells #[] 118)))
    have HL := hide ((((hbC.setCell (p := ⟨g, 0, none⟩) hlo (.int .i64 2)).setCell (p := ⟨g, 5, none⟩) hlo (.slice none 0 0)).setCell (p := ⟨g, 1, none⟩) hlo (.int .i64 (s.nx + 1))).alloc (by simp; omega) (.cells #[] 118))
    clear HM HB HST HG
    go_wp2_with fail
    refine (impl_goodSt _ _ (⟨2, s.nx + 1, s.ca, s.dn, s.sg, []⟩ : St) b _ HS.out.c (show ShortT _ from ⟨HSH.out.1, Nat.zero_le _⟩) (show NmT _ from ⟨nm12 HSG.out, fun y hy => (by cases hy)⟩) HBG.out).mono ?_
    rintro e w9 ⟨rfl, hb9⟩
    have HF := hide (show (∃ u0 u1, SM w9 B g u0 u1 ⟨2, s.nx + 1, s.ca, s.dn, s.sg, []⟩) ∧ Below B w w9 from ⟨⟨_, _, HS.out.down hb9⟩, HL.out.trans (hb9.mono (Nat.le_trans hB HL.out.size))⟩)
    clear hb9
    go_wp2
    go_ret
    exact ⟨rfl, fun _ => HF.out.1, HF.out.2⟩
end Go.Proofs.YtfkeokglifpkoaaDoor

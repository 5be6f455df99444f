/-
  Texts that follow one another, joined: StT2, StT3, StT4, StT5, StT6.
-/
import Derived.Test.YtfkeokglifpkoaaGreatDoorJoin14
/-
  What happens to a state in its box, at one kind.
-/
namespace Go.Proofs.YtfkeokglifpkoaaGreatDoor
open Go.RowKit M
open Clk (upd upd_same upd_other)
open Go.Sort (grow)
set_option maxRecDepth 20000 in
set_option maxHeartbeats 8000000 in
theorem take2 (B g : Nat) (v0 v1 : Value) (s : St) (x : ByteArray) (b : Bool) (w : World) (h : SM w B g v0 v1 s) (hs : GoodSt s) (hx : gN x = true) (hB : B ≤ w.heap.size) (hb : BP b (s.st = 1 ∧ GoodSt ⟨s.st, s.nx + 1, s.ca, s.dn, s.sg ++ [x], s.tm⟩)) :
    Calls Tryz.prog 166 #[.pointer (some ⟨g, 0, none⟩), .iface 226 (.agg #[.string x])] w fun e w' => e = .returned (.bool b) ∧ (b = true → ∃ u0 u1, SM w' B g u0 u1 ⟨s.st, s.nx + 1, s.ca, s.dn, s.sg ++ [x], s.tm⟩) ∧ Below B w w' := by
  obtain ⟨a0, c0, rfl⟩ := h.o0.form
  obtain ⟨a1, c1, rfl⟩ := h.o1.form
  obtain ⟨⟨d0, d1, d2, d3, d4, d5⟩, f0, f1, f2, f3, f4, f5⟩ := h.box.hex
  have hcm := cm2 x
  have ha1 := as2_1
  have ha2 := as2_2
  have HM := hide h
  have HG := hide hs
  have HB := hide hb
  have e0 := fun wy (hb : Below w.drew.heap.size w.drew wy) => ((hb.cell (p := ⟨g, 0, none⟩) (show g < w.drew.heap.size from HM.out.box.lt)).trans (show w.drew.cell? ⟨g, 0, none⟩ = _ from d0))
  have HE0 := hide e0
  clear e0 h hs hb
  by_cases hst : s.st = 1
  case neg =>
    have hq : (s.st != 1) = true := by simp [hst]
    have HF := hide (HB.out.no (fun h => hst h.1))
    clear hst
    go_enter Tryz.func166, Tryz.ntmps166
    go_upto_region 1 with fail
    go_cut [17] from 11 (fun bb wx => bb = .bool true ∧ Hid (Below w.heap.size w wx))
    case first =>
      go_region_with (go_at_call 243; refine (comes2 _).mono ?_; rintro e wj ⟨rfl, hbj⟩; have m0 := HE0.out _ hbj)
      all_goals
        go_wp2_with fail
        go_meet
        exact ⟨rfl, hide ((Below.refl _ w).drew.trans hbj)⟩
    case rest =>
      rename World => wC
      obtain ⟨rfl, HC⟩ := hcut
      clear d0 d1 d2 d3 d4 d5 f0 f1 f2 f3 f4 f5 HM HE0 HB HG
      go_wp2
      go_ret
      exact ⟨ret_bool HF.out.symm, fun h => (by rw [HF.out] at h; cases h), HC.out.mono hB⟩
  have hq : (s.st != 1) = false := by simp [hst]
  have HST := hide hst
  clear hst
  obtain ⟨⟨hn1, hn2⟩, ⟨hd1, hd2⟩, hsg, htm, -⟩ := HG.out
  have HSG := hide hsg
  have HTM := hide htm
  have HSH := hide (show ShortT s from ⟨by have := hsg.1; omega, by have := htm.1; omega⟩)
  clear hsg htm
  go_enter Tryz.func166, Tryz.ntmps166
  go_upto_region 1 with fail
  go_cut [17] from 11 (fun bb wx => bb = .bool false ∧ Hid (SM wx B g (.slice a0 s.sg.length c0) (.slice a1 s.tm.length c1) s ∧ Below w.heap.size w wx))
  case first =>
    go_region_with (go_at_call 243; refine (comes2 _).mono ?_; rintro e wj ⟨rfl, hbj⟩; have m0 := HE0.out _ hbj)
    all_goals
      go_wp2_with fail
      go_meet
      exact ⟨rfl, hide ⟨HM.out.down ((Below.refl _ w).drew.trans hbj), (Below.refl _ w).drew.trans hbj⟩⟩
  case rest =>
    rename World => wC
    obtain ⟨rfl, HC⟩ := hcut
    clear d0 d1 d2 d3 d4 d5 f0 f1 f2 f3 f4 f5 HM HE0
    have hbC : Below B w wC := HC.out.2.mono hB
    have hBC : B ≤ wC.heap.size := Nat.le_trans hB hbC.size
    have HM := hide HC.out.1
    clear HC
    obtain ⟨⟨d0, d1, d2, d3, d4, d5⟩, f0, f1, f2, f3, f4, f5⟩ := HM.out.box.hex
    have hlo := HM.out.lo
    have hglt : g < wC.heap.size := HM.out.box.lt
    have HBG := hide (show BP b (GoodSt ⟨s.st, s.nx + 1, s.ca, s.dn, s.sg ++ [x], s.tm⟩) from ⟨fun hh => (HB.out.1 hh).2, fun hh => HB.out.2 ⟨HST.out, hh⟩⟩)
    obtain ⟨i0, hi, hz0, hz1, hz2⟩ := info_parts info_str
    have hdn := (Below.refl wC.heap.size wC).alloc (Nat.le_refl _) (.cells #[.string x] 226)
    have hdn2 := (hdn.alloc (by simp) (.cells #[.string x] 9))
    have HO2 := hide (HM.out.o0.down hdn2)
    have HM2 := hide (HM.out.down hdn2)
    have HX := hide hx
    have hl30 : s.sg.length ≤ 30 := HSG.out.1
    have HF := hide (show ∀ (W w7 : World) (g7 cap7 : Nat), W.grownBy w7 (Value.slice a0 s.sg.length c0).ownBlock → W.heap = ((wC.alloc (.cells #[.string x] 226)).alloc (.cells #[.string x] 9)).heap → Below B w W → w7.ownsRow B 9 1 (.slice (some ⟨g7, 0, none⟩) (s.sg.length + 1) cap7) (s.sg.length + 1) (sv s.sg ++ [.string x]) → ((Value.slice a0 s.sg.length c0).ownBlock = some g7 ∨ g7 = W.heap.size) →
        SM (w7.setCell ⟨g, 4, none⟩ (.slice (some ⟨g7, 0, none⟩) (s.sg.length + 1) cap7)) B g (.slice (some ⟨g7, 0, none⟩) (s.sg.length + 1) cap7) (.slice a1 s.tm.length c1) ⟨s.st, s.nx, s.ca, s.dn, s.sg ++ [x], s.tm⟩ ∧ Below B w (w7.setCell ⟨g, 4, none⟩ (.slice (some ⟨g7, 0, none⟩) (s.sg.length + 1) cap7)) from fun W w7 g7 cap7 hg hh hbW ho hat => by
      have hM := HM2.out.same hh
      have hO : OwnT w7 B (.slice (some ⟨g7, 0, none⟩) (s.sg.length + 1) cap7) (s.sg ++ [x]) := by
        unfold OwnT; rw [List.length_append, sv_app]; exact ho
      refine ⟨hM.put4 hg hO ?_, hbW.trans (hM.low4 hg (Nat.le_trans hB hbW.size) 4)⟩
      rcases hat with hat | hat
      · exact .inl hat.symm
      · exact .inr ⟨g7, rfl, by omega⟩)
    have HGG := hide (show ∀ (W w7 : World), W.grownBy w7 (Value.slice a0 s.sg.length c0).ownBlock → W.heap = ((wC.alloc (.cells #[.string x] 226)).alloc (.cells #[.string x] 9)).heap → w7.cell? ⟨g, 4, none⟩ = some (.slice a0 s.sg.length c0) ∧ w7.frozen? ⟨g, 4, none⟩ = false from fun W w7 hg hh => by
      have hM := HM2.out.same hh
      have hbx := hM.box.gb hg (fun e => hM.ne0 e.symm)
      exact ⟨hbx.hex.1.2.2.2.2.1, hbx.thaw 4⟩)
    have HBd := hide (show Below B w ((wC.alloc (.cells #[.string x] 226)).alloc (.cells #[.string x] 9)).drew from (hbC.trans (hdn2.mono hBC)).drew)
    have hlit : ((wC.alloc (.cells #[.string x] 226)).alloc (.cells #[.string x] 9)).heap[wC.heap.size + 1]? = some (.cells #[.string x] 9 (0, 0)) := by
      have := heap_alloc_new (wC.alloc (.cells #[.string x] 226)) (.cells #[.string x] 9)
      rw [World.size_alloc] at this; exact this
    have HLit := hide hlit
    clear HB HST HG hx hdn hdn2 hlit
    go_upto_region 9 with fail
    go_region_law (refine step_append_lies _ rfl (.tmp 32) (.tmp 35) 58 rfl B 9 i0 _ 1 16 Tryz.underlying58 hi hz0 hz1 hz2 rfl (by decide) (.slice a0 s.sg.length c0) s.sg.length _ (by simp [Act.eval]) (owns_same HO2.out rfl) ⟨wC.heap.size + 1, 0, none⟩ 1 1 [.string x] (by simp [Act.eval]) rfl (news1' _ _ _ _ HLit.out) (by intro u hu; simp at hu; subst hu; rfl) (by omega) (by unfold maxLen; omega) (by omega) (by simp; omega) _ rfl ?_; intro g7 cap7 w7 hown7 hgrow7 hat hlt7; obtain ⟨z0, z1⟩ := HGG.out _ w7 hgrow7 rfl)
    all_goals
      have HE := hide (HF.out _ w7 g7 cap7 hgrow7 rfl HBd.out hown7 hat)
      clear HF HGG z0 z1 hgrow7 hown7 hat HO2 HM2 HBd HM d0 d1 d2 d3 d4 d5 f0 f1 f2 f3 f4 f5
      obtain ⟨⟨d0, d1, d2, d3, d4, d5⟩, f0, f1, f2, f3, f4, f5⟩ := HE.out.1.box.hex
      simp only at d0 d1 d2 d3 d4 d5
      have HS := hide (HE.out.1.set1 (s.nx + 1))
      have HL := hide (HE.out.2.setCell (p := ⟨g, 1, none⟩) hlo (.int .i64 (s.nx + 1)))
      clear HE
      go_wp2_with fail
      refine (impl_goodSt _ _ (⟨s.st, s.nx + 1, s.ca, s.dn, s.sg ++ [x], s.tm⟩ : St) b _ HS.out.c (show ShortT _ from ⟨by simp; omega, HSH.out.2⟩) (show NmT _ from ⟨snoc_nm HSG.out HX.out, nm12 HTM.out⟩) HBG.out).mono ?_
      rintro e w9 ⟨rfl, hb9⟩
      have HF := hide (show (∃ u0 u1, SM w9 B g u0 u1 ⟨s.st, s.nx + 1, s.ca, s.dn, s.sg ++ [x], s.tm⟩) ∧ Below B w w9 from ⟨⟨_, _, HS.out.down hb9⟩, HL.out.trans (hb9.mono (Nat.le_trans hB HL.out.size))⟩)
      clear hb9
      go_wp2
      go_ret
      exact ⟨rfl, fun _ => HF.out.1, HF.out.2⟩
end Go.Proofs.YtfkeokglifpkoaaGreatDoor

/-
  What happens to a state in its box, at one kind.
-/
namespace Go.Proofs.YtfkeokglifpkoaaGreatDoor
open Go.RowKit M
open Clk (upd upd_same upd_other)
open Go.Sort (grow)
set_option maxRecDepth 20000 in
set_option maxHeartbeats 8000000 in
theorem take3 (B g : Nat) (v0 v1 : Value) (s : St) (b : Bool) (w : World) (h : SM w B g v0 v1 s) (hs : GoodSt s) (hB : B ≤ w.heap.size) (hb : BP b (s.st = 1 ∧ GoodSt ⟨s.st, s.nx + 1, s.ca, s.dn + 1, s.sg, s.tm⟩)) :
    Calls Tryz.prog 166 #[.pointer (some ⟨g, 0, none⟩), .iface 228 (.agg #[])] w fun e w' => e = .returned (.bool b) ∧ (b = true → ∃ u0 u1, SM w' B g u0 u1 ⟨s.st, s.nx + 1, s.ca, s.dn + 1, s.sg, s.tm⟩) ∧ Below B w w' := by
  obtain ⟨a0, c0, rfl⟩ := h.o0.form
  obtain ⟨a1, c1, rfl⟩ := h.o1.form
  obtain ⟨⟨d0, d1, d2, d3, d4, d5⟩, f0, f1, f2, f3, f4, f5⟩ := h.box.hex
  have hcm := cm3
  have ha1 := as3_1
  have ha2 := as3_2
  have ha3 := as3_3
  have HM := hide h
  have HG := hide hs
  have HB := hide hb
  have e0 := fun wy (hb : Below w.drew.heap.size w.drew wy) => ((hb.cell (p := ⟨g, 0, none⟩) (show g < w.drew.heap.size from HM.out.box.lt)).trans (show w.drew.cell? ⟨g, 0, none⟩ = _ from d0))
  have HE0 := hide e0
  clear e0 h hs hb
  by_cases hst : s.st = 1
  case neg =>
    have hq : (s.st != 1) = true := by simp [hst]
    have HF := hide (HB.out.no (fun h => hst h.1))
    clear hst
    go_enter Tryz.func166, Tryz.ntmps166
    go_upto_region 1 with fail
    go_cut [17] from 11 (fun bb wx => bb = .bool true ∧ Hid (Below w.heap.size w wx))
    case first =>
      go_region_with (go_at_call 243; refine (comes2 _).mono ?_; rintro e wj ⟨rfl, hbj⟩; have m0 := HE0.out _ hbj)
      all_goals
        go_wp2_with fail
        go_meet
        exact ⟨rfl, hide ((Below.refl _ w).drew.trans hbj)⟩
    case rest =>
      rename World => wC
      obtain ⟨rfl, HC⟩ := hcut
      clear d0 d1 d2 d3 d4 d5 f0 f1 f2 f3 f4 f5 HM HE0 HB HG
      go_wp2
      go_ret
      exact ⟨ret_bool HF.out.symm, fun h => (by rw [HF.out] at h; cases h), HC.out.mono hB⟩
  have hq : (s.st != 1) = false := by simp [hst]
  have HST := hide hst
  clear hst
  obtain ⟨⟨hn1, hn2⟩, ⟨hd1, hd2⟩, hsg, htm, -⟩ := HG.out
  have HSG := hide hsg
  have HTM := hide htm
  have HSH := hide (show ShortT s from ⟨by have := hsg.1; omega, by have := htm.1; omega⟩)
  clear hsg htm
  go_enter Tryz.func166, Tryz.ntmps166
  go_upto_region 1 with fail
  go_cut [17] from 11 (fun bb wx => bb = .bool false ∧ Hid (SM wx B g (.slice a0 s.sg.length c0) (.slice a1 s.tm.length c1) s ∧ Below w.heap.size w wx))
  case first =>
    go_region_with (go_at_call 243; refine (comes2 _).mono ?_; rintro e wj ⟨rfl, hbj⟩; have m0 := HE0.out _ hbj)
    all_goals
      go_wp2_with fail
      go_meet
      exact ⟨rfl, hide ⟨HM.out.down ((Below.refl _ w).drew.trans hbj), (Below.refl _ w).drew.trans hbj⟩⟩
  case rest =>
    rename World => wC
    obtain ⟨rfl, HC⟩ := hcut
    clear d0 d1 d2 d3 d4 d5 f0 f1 f2 f3 f4 f5 HM HE0
    have hbC : Below B w wC := HC.out.2.mono hB
    have hBC : B ≤ wC.heap.size := Nat.le_trans hB hbC.size
    have HM := hide HC.out.1
    clear HC
    obtain ⟨⟨d0, d1, d2, d3, d4, d5⟩, f0, f1, f2, f3, f4, f5⟩ := HM.out.box.hex
    have hlo := HM.out.lo
    have hglt : g < wC.heap.size := HM.out.box.lt
    have HBG := hide (show BP b (GoodSt ⟨s.st, s.nx + 1, s.ca, s.dn + 1, s.sg, s.tm⟩) from ⟨fun hh => (HB.out.1 hh).2, fun hh => HB.out.2 ⟨HST.out, hh⟩⟩)
    have HS := hide (((HM.out.set3 (s.dn + 1)).set1 (s.nx + 1)).down ((Below.refl _ _).alloc (Nat.le_refl _) (.cells #[] 228)))
    have HL := hide (((hbC.setCell (p := ⟨g, 3, none⟩) hlo (.int .i64 (s.dn + 1))).setCell (p := ⟨g, 1, none⟩) hlo (.int .i64 (s.nx + 1))).alloc (by simp; omega) (.cells #[] 228))
    clear HM HB HST HG
    go_wp2_with fail
    refine (impl_goodSt _ _ (⟨s.st, s.nx + 1, s.ca, s.dn + 1, s.sg, s.tm⟩ : St) b _ HS.out.c (show ShortT _ from HSH.out) (show NmT _ from ⟨nm12 HSG.out, nm12 HTM.out⟩) HBG.out).mono ?_
    rintro e w9 ⟨rfl, hb9⟩
    have HF := hide (show (∃ u0 u1, SM w9 B g u0 u1 ⟨s.st, s.nx + 1, s.ca, s.dn + 1, s.sg, s.tm⟩) ∧ Below B w w9 from ⟨⟨_, _, HS.out.down hb9⟩, HL.out.trans (hb9.mono (Nat.le_trans hB HL.out.size))⟩)
    clear hb9
    go_wp2
    go_ret
    exact ⟨rfl, fun _ => HF.out.1, HF.out.2⟩
end Go.Proofs.YtfkeokglifpkoaaGreatDoor

/-
  What happens to a state in its box, at one kind.
-/
namespace Go.Proofs.YtfkeokglifpkoaaGreatDoor
open Go.RowKit M
open Clk (upd upd_same upd_other)
open Go.Sort (grow)
set_option maxRecDepth 20000 in
set_option maxHeartbeats 8000000 in
theorem take4 (B g : Nat) (v0 v1 : Value) (s : St) (x : ByteArray) (b : Bool) (w : World) (h : SM w B g v0 v1 s) (hs : GoodSt s) (hx : gN x = true) (hB : B ≤ w.heap.size) (hb : BP b (s.st = 1 ∧ GoodSt ⟨s.st, s.nx + 1, s.ca, s.dn, s.sg, tog s.tm x⟩)) :
    Calls Tryz.prog 166 #[.pointer (some ⟨g, 0, none⟩), .iface 229 (.agg #[.string x])] w fun e w' => e = .returned (.bool b) ∧ (b = true → ∃ u0 u1, SM w' B g u0 u1 ⟨s.st, s.nx + 1, s.ca, s.dn, s.sg, tog s.tm x⟩) ∧ Below B w w' := by
  obtain ⟨a0, c0, rfl⟩ := h.o0.form
  obtain ⟨a1, c1, rfl⟩ := h.o1.form
  obtain ⟨⟨d0, d1, d2, d3, d4, d5⟩, f0, f1, f2, f3, f4, f5⟩ := h.box.hex
  have hcm := cm4 x
  have ha1 := as4_1
  have ha2 := as4_2
  have ha3 := as4_3
  have ha4 := as4_4
  have HM := hide h
  have HG := hide hs
  have HB := hide hb
  have e0 := fun wy (hb : Below w.drew.heap.size w.drew wy) => ((hb.cell (p := ⟨g, 0, none⟩) (show g < w.drew.heap.size from HM.out.box.lt)).trans (show w.drew.cell? ⟨g, 0, none⟩ = _ from d0))
  have HE0 := hide e0
  clear e0 h hs hb
  by_cases hst : s.st = 1
  case neg =>
    have hq : (s.st != 1) = true := by simp [hst]
    have HF := hide (HB.out.no (fun h => hst h.1))
    clear hst
    go_enter Tryz.func166, Tryz.ntmps166
    go_upto_region 1 with fail
    go_cut [17] from 11 (fun bb wx => bb = .bool true ∧ Hid (Below w.heap.size w wx))
    case first =>
      go_region_with (go_at_call 243; refine (comes2 _).mono ?_; rintro e wj ⟨rfl, hbj⟩; have m0 := HE0.out _ hbj)
      all_goals
        go_wp2_with fail
        go_meet
        exact ⟨rfl, hide ((Below.refl _ w).drew.trans hbj)⟩
    case rest =>
      rename World => wC
      obtain ⟨rfl, HC⟩ := hcut
      clear d0 d1 d2 d3 d4 d5 f0 f1 f2 f3 f4 f5 HM HE0 HB HG
      go_wp2
      go_ret
      exact ⟨ret_bool HF.out.symm, fun h => (by rw [HF.out] at h; cases h), HC.out.mono hB⟩
  have hq : (s.st != 1) = false := by simp [hst]
  have HST := hide hst
  clear hst
  obtain ⟨⟨hn1, hn2⟩, ⟨hd1, hd2⟩, hsg, htm, -⟩ := HG.out
  have HSG := hide hsg
  have HTM := hide htm
  have HSH := hide (show ShortT s from ⟨by have := hsg.1; omega, by have := htm.1; omega⟩)
  clear hsg htm
  go_enter Tryz.func166, Tryz.ntmps166
  go_upto_region 1 with fail
  go_cut [17] from 11 (fun bb wx => bb = .bool false ∧ Hid (SM wx B g (.slice a0 s.sg.length c0) (.slice a1 s.tm.length c1) s ∧ Below w.heap.size w wx))
  case first =>
    go_region_with (go_at_call 243; refine (comes2 _).mono ?_; rintro e wj ⟨rfl, hbj⟩; have m0 := HE0.out _ hbj)
    all_goals
      go_wp2_with fail
      go_meet
      exact ⟨rfl, hide ⟨HM.out.down ((Below.refl _ w).drew.trans hbj), (Below.refl _ w).drew.trans hbj⟩⟩
  case rest =>
    rename World => wC
    obtain ⟨rfl, HC⟩ := hcut
    clear d0 d1 d2 d3 d4 d5 f0 f1 f2 f3 f4 f5 HM HE0
    have hbC : Below B w wC := HC.out.2.mono hB
    have hBC : B ≤ wC.heap.size := Nat.le_trans hB hbC.size
    have HM := hide HC.out.1
    clear HC
    obtain ⟨⟨d0, d1, d2, d3, d4, d5⟩, f0, f1, f2, f3, f4, f5⟩ := HM.out.box.hex
    have hlo := HM.out.lo
    have hglt : g < wC.heap.size := HM.out.box.lt
    have HBG := hide (show BP b (GoodSt ⟨s.st, s.nx + 1, s.ca, s.dn, s.sg, tog s.tm x⟩) from ⟨fun hh => (HB.out.1 hh).2, fun hh => HB.out.2 ⟨HST.out, hh⟩⟩)
    have hdn := (Below.refl wC.heap.size wC).alloc (Nat.le_refl _) (.cells #[.string x] 229)
    have HM2 := hide (HM.out.down hdn)
    have hb2 := hbC.trans (hdn.mono hBC)
    have hB2 : B ≤ (wC.alloc (.cells #[.string x] 229)).heap.size := by simp; omega
    have HX := hide hx
    clear HM HB HST HG hdn d0 d1 d2 d3 d4 d5 f0 f1 f2 f3 f4 f5 hx
    go_wp2_with fail
    refine (turn_impl B g _ _ s x _ HM2.out HTM.out.rise (by have := HTM.out.1; omega) hB2).mono ?_
    rintro e w5 ⟨rfl, ⟨a5, n5, c5, hM5⟩, hb5⟩
    have HM5 := hide hM5
    have hb6 := hb2.trans hb5
    obtain ⟨⟨d0, d1, d2, d3, d4, d5⟩, f0, f1, f2, f3, f4, f5⟩ := hM5.box.hex
    have HS := hide (hM5.set1 (s.nx + 1))
    have HL := hide (hb6.setCell (p := ⟨g, 1, none⟩) hlo (.int .i64 (s.nx + 1)))
    simp only at d0 d1 d2 d3 d4 d5
    clear hM5 hb5 HM2 hb2 hB2 hb6 HM5
    go_wp2_with fail
    refine (impl_goodSt _ _ (⟨s.st, s.nx + 1, s.ca, s.dn, s.sg, tog s.tm x⟩ : St) b _ HS.out.c (show ShortT _ from ⟨HSH.out.1, Nat.le_trans (tog_len _ _) (by have := HTM.out.1; omega)⟩) (show NmT _ from ⟨nm12 HSG.out, tog_nm HTM.out HX.out⟩) HBG.out).mono ?_
    rintro e w9 ⟨rfl, hb9⟩
    have HF := hide (show (∃ u0 u1, SM w9 B g u0 u1 ⟨s.st, s.nx + 1, s.ca, s.dn, s.sg, tog s.tm x⟩) ∧ Below B w w9 from ⟨⟨_, _, HS.out.down hb9⟩, HL.out.trans (hb9.mono (Nat.le_trans hB HL.out.size))⟩)
    clear hb9
    go_wp2
    go_ret
    exact ⟨rfl, fun _ => HF.out.1, HF.out.2⟩
end Go.Proofs.YtfkeokglifpkoaaGreatDoor

/-
  What happens to a state in its box, at one kind.
-/
namespace Go.Proofs.YtfkeokglifpkoaaGreatDoor
open Go.RowKit M
open Clk (upd upd_same upd_other)
open Go.Sort (grow)
set_option maxRecDepth 20000 in
set_option maxHeartbeats 8000000 in
theorem take5 (B g : Nat) (v0 v1 : Value) (s : St) (b : Bool) (w : World) (h : SM w B g v0 v1 s) (hs : GoodSt s) (hB : B ≤ w.heap.size) (hb : BP b (s.st = 1 ∧ s.ca = false ∧ GoodSt ⟨s.st, s.nx + 1, true, s.dn, s.sg, s.tm⟩)) :
    Calls Tryz.prog 166 #[.pointer (some ⟨g, 0, none⟩), .iface 231 (.agg #[])] w fun e w' => e = .returned (.bool b) ∧ (b = true → ∃ u0 u1, SM w' B g u0 u1 ⟨s.st, s.nx + 1, true, s.dn, s.sg, s.tm⟩) ∧ Below B w w' := by
  obtain ⟨a0, c0, rfl⟩ := h.o0.form
  obtain ⟨a1, c1, rfl⟩ := h.o1.form
  obtain ⟨⟨d0, d1, d2, d3, d4, d5⟩, f0, f1, f2, f3, f4, f5⟩ := h.box.hex
  have hcm := cm5
  have ha1 := as5_1
  have ha2 := as5_2
  have ha3 := as5_3
  have ha4 := as5_4
  have ha5 := as5_5
  have HM := hide h
  have HG := hide hs
  have HB := hide hb
  have e0 := fun wy (hb : Below w.drew.heap.size w.drew wy) => ((hb.cell (p := ⟨g, 0, none⟩) (show g < w.drew.heap.size from HM.out.box.lt)).trans (show w.drew.cell? ⟨g, 0, none⟩ = _ from d0))
  have HE0 := hide e0
  clear e0 h hs hb
  by_cases hst : s.st = 1
  case neg =>
    have hq : (s.st != 1) = true := by simp [hst]
    have HF := hide (HB.out.no (fun h => hst h.1))
    clear hst
    go_enter Tryz.func166, Tryz.ntmps166
    go_upto_region 1 with fail
    go_cut [17] from 11 (fun bb wx => bb = .bool true ∧ Hid (Below w.heap.size w wx))
    case first =>
      go_region_with (go_at_call 243; refine (comes2 _).mono ?_; rintro e wj ⟨rfl, hbj⟩; have m0 := HE0.out _ hbj)
      all_goals
        go_wp2_with fail
        go_meet
        exact ⟨rfl, hide ((Below.refl _ w).drew.trans hbj)⟩
    case rest =>
      rename World => wC
      obtain ⟨rfl, HC⟩ := hcut
      clear d0 d1 d2 d3 d4 d5 f0 f1 f2 f3 f4 f5 HM HE0 HB HG
      go_wp2
      go_ret
      exact ⟨ret_bool HF.out.symm, fun h => (by rw [HF.out] at h; cases h), HC.out.mono hB⟩
  have hq : (s.st != 1) = false := by simp [hst]
  have HST := hide hst
  clear hst
  obtain ⟨⟨hn1, hn2⟩, ⟨hd1, hd2⟩, hsg, htm, -⟩ := HG.out
  have HSG := hide hsg
  have HTM := hide htm
  have HSH := hide (show ShortT s from ⟨by have := hsg.1; omega, by have := htm.1; omega⟩)
  clear hsg htm
  go_enter Tryz.func166, Tryz.ntmps166
  go_upto_region 1 with fail
  go_cut [17] from 11 (fun bb wx => bb = .bool false ∧ Hid (SM wx B g (.slice a0 s.sg.length c0) (.slice a1 s.tm.length c1) s ∧ Below w.heap.size w wx))
  case first =>
    go_region_with (go_at_call 243; refine (comes2 _).mono ?_; rintro e wj ⟨rfl, hbj⟩; have m0 := HE0.out _ hbj)
    all_goals
      go_wp2_with fail
      go_meet
      exact ⟨rfl, hide ⟨HM.out.down ((Below.refl _ w).drew.trans hbj), (Below.refl _ w).drew.trans hbj⟩⟩
  case rest =>
    rename World => wC
    obtain ⟨rfl, HC⟩ := hcut
    clear d0 d1 d2 d3 d4 d5 f0 f1 f2 f3 f4 f5 HM HE0
    have hbC : Below B w wC := HC.out.2.mono hB
    have hBC : B ≤ wC.heap.size := Nat.le_trans hB hbC.size
    have HM := hide HC.out.1
    clear HC
    obtain ⟨⟨d0, d1, d2, d3, d4, d5⟩, f0, f1, f2, f3, f4, f5⟩ := HM.out.box.hex
    have hlo := HM.out.lo
    have hglt : g < wC.heap.size := HM.out.box.lt
    by_cases hca : s.ca = true
    · have HF := hide (HB.out.no (fun h => by rw [hca] at h; exact absurd h.2.1 (by simp)))
      have HL := hide (hbC.alloc hBC (.cells #[] 231))
      rw [hca] at d2
      clear HM HB HST HG hca d0 d1 d3 d4 d5
      go_wp2
      go_ret
      exact ⟨ret_bool HF.out.symm, fun h => (by rw [HF.out] at h; cases h), HL.out⟩
    have hca : s.ca = false := by simpa using hca
    have HBG := hide (show BP b (GoodSt ⟨s.st, s.nx + 1, true, s.dn, s.sg, s.tm⟩) from ⟨fun hh => (HB.out.1 hh).2.2, fun hh => HB.out.2 ⟨HST.out, hca, hh⟩⟩)
    rw [hca] at d2
    have HS := hide (((HM.out.set2 true).set1 (s.nx + 1)).down ((Below.refl _ _).alloc (Nat.le_refl _) (.cells #[] 231)))
    have HL := hide (((hbC.setCell (p := ⟨g, 2, none⟩) hlo (.bool true)).setCell (p := ⟨g, 1, none⟩) hlo (.int .i64 (s.nx + 1))).alloc (by simp; omega) (.cells #[] 231))
    clear HM HB HST HG hca
    go_wp2_with fail
    refine (impl_goodSt _ _ (⟨s.st, s.nx + 1, true, s.dn, s.sg, s.tm⟩ : St) b _ HS.out.c (show ShortT _ from HSH.out) (show NmT _ from ⟨nm12 HSG.out, nm12 HTM.out⟩) HBG.out).mono ?_
    rintro e w9 ⟨rfl, hb9⟩
    have HF := hide (show (∃ u0 u1, SM w9 B g u0 u1 ⟨s.st, s.nx + 1, true, s.dn, s.sg, s.tm⟩) ∧ Below B w w9 from ⟨⟨_, _, HS.out.down hb9⟩, HL.out.trans (hb9.mono (Nat.le_trans hB HL.out.size))⟩)
    clear hb9
    go_wp2
    go_ret
    exact ⟨rfl, fun _ => HF.out.1, HF.out.2⟩
end Go.Proofs.YtfkeokglifpkoaaGreatDoor

/-
  What happens to a state in its box, at one kind.
-/
namespace Go.Proofs.YtfkeokglifpkoaaGreatDoor
open Go.RowKit M
open Clk (upd upd_same upd_other)
open Go.Sort (grow)
set_option maxRecDepth 20000 in
set_option maxHeartbeats 8000000 in
theorem take6 (B g : Nat) (v0 v1 : Value) (s : St) (b : Bool) (w : World) (h : SM w B g v0 v1 s) (hs : GoodSt s) (hB : B ≤ w.heap.size) (hb : BP b (s.st = 1 ∧ GoodSt ⟨2, s.nx + 1, s.ca, s.dn, s.sg, []⟩)) :
    Calls Tryz.prog 166 #[.pointer (some ⟨g, 0, none⟩), .iface 232 (.agg #[])] w fun e w' => e = .returned (.bool b) ∧ (b = true → ∃ u0 u1, SM w' B g u0 u1 ⟨2, s.nx + 1, s.ca, s.dn, s.sg, []⟩) ∧ Below B w w' := by
  obtain ⟨a0, c0, rfl⟩ := h.o0.form
  obtain ⟨a1, c1, rfl⟩ := h.o1.form
  obtain ⟨⟨d0, d1, d2, d3, d4, d5⟩, f0, f1, f2, f3, f4, f5⟩ := h.box.hex
  have hcm := cm6
  have ha1 := as6_1
  have ha2 := as6_2
  have ha3 := as6_3
  have ha4 := as6_4
  have ha5 := as6_5
  have ha6 := as6_6
  have HM := hide h
  have HG := hide hs
  have HB := hide hb
  have e0 := fun wy (hb : Below w.drew.heap.size w.drew wy) => ((hb.cell (p := ⟨g, 0, none⟩) (show g < w.drew.heap.size from HM.out.box.lt)).trans (show w.drew.cell? ⟨g, 0, none⟩ = _ from d0))
  have HE0 := hide e0
  clear e0 h hs hb
  by_cases hst : s.st = 1
  case neg =>
    have hq : (s.st != 1) = true := by simp [hst]
    have HF := hide (HB.out.no (fun h => hst h.1))
    clear hst
    go_enter Tryz.func166, Tryz.ntmps166
    go_upto_region 1 with fail
    go_cut [17] from 11 (fun bb wx => bb = .bool true ∧ Hid (Below w.heap.size w wx))
    case first =>
      go_region_with (go_at_call 243; refine (comes2 _).mono ?_; rintro e wj ⟨rfl, hbj⟩; have m0 := HE0.out _ hbj)
      all_goals
        go_wp2_with fail
        go_meet
        exact ⟨rfl, hide ((Below.refl _ w).drew.trans hbj)⟩
    case rest =>
      rename World => wC
      obtain ⟨rfl, HC⟩ := hcut
      clear d0 d1 d2 d3 d4 d5 f0 f1 f2 f3 f4 f5 HM HE0 HB HG
      go_wp2
      go_ret
      exact ⟨ret_bool HF.out.symm, fun h => (by rw [HF.out] at h; cases h), HC.out.mono hB⟩
  have hq : (s.st != 1) = false := by simp [hst]
  have HST := hide hst
  clear hst
  obtain ⟨⟨hn1, hn2⟩, ⟨hd1, hd2⟩, hsg, htm, -⟩ := HG.out
  have HSG := hide hsg
  have HTM := hide htm
  have HSH := hide (show ShortT s from ⟨by have := hsg.1; omega, by have := htm.1; omega⟩)
  clear hsg htm
  go_enter Tryz.func166, Tryz.ntmps166
  go_upto_region 1 with fail
  go_cut [17] from 11 (fun bb wx => bb = .bool false ∧ Hid (SM wx B g (.slice a0 s.sg.length c0) (.slice a1 s.tm.length c1) s ∧ Below w.heap.size w wx))
  case first =>
    go_region_with (go_at_call 243; refine (comes2 _).mono ?_; rintro e wj ⟨rfl, hbj⟩; have m0 := HE0.out _ hbj)
    all_goals
      go_wp2_with fail
      go_meet
      exact ⟨rfl, hide ⟨HM.out.down ((Below.refl _ w).drew.trans hbj), (Below.refl _ w).drew.trans hbj⟩⟩
  case rest =>
    rename World => wC
    obtain ⟨rfl, HC⟩ := hcut
    clear d0 d1 d2 d3 d4 d5 f0 f1 f2 f3 f4 f5 HM HE0
    have hbC : Below B w wC := HC.out.2.mono hB
    have hBC : B ≤ wC.heap.size := Nat.le_trans hB hbC.size
    have HM := hide HC.out.1
    clear HC
    obtain ⟨⟨d0, d1, d2, d3, d4, d5⟩, f0, f1, f2, f3, f4, f5⟩ := HM.out.box.hex
    have hlo := HM.out.lo
    have hglt : g < wC.heap.size := HM.out.box.lt
    have HBG := hide (show BP b (GoodSt ⟨2, s.nx + 1, s.ca, s.dn, s.sg, []⟩) from ⟨fun hh => (HB.out.1 hh).2, fun hh => HB.out.2 ⟨HST.out, hh⟩⟩)
    have HS := hide ((((HM.out.set0 2).nil5).set1 (s.nx + 1)).down ((Below.refl _ _).alloc (Nat.le_refl _) (.cells #[] 232)))
    have HL := hide ((((hbC.setCell (p := ⟨g, 0, none⟩) hlo (.int .i64 2)).setCell (p := ⟨g, 5, none⟩) hlo (.slice none 0 0)).setCell (p := ⟨g, 1, none⟩) hlo (.int .i64 (s.nx + 1))).alloc (by simp; omega) (.cells #[] 232))
    clear HM HB HST HG
    go_wp2_with fail
    refine (impl_goodSt _ _ (⟨2, s.nx + 1, s.ca, s.dn, s.sg, []⟩ : St) b _ HS.out.c (show ShortT _ from ⟨HSH.out.1, Nat.zero_le _⟩) (show NmT _ from ⟨nm12 HSG.out, fun y hy => (by cases hy)⟩) HBG.out).mono ?_
    rintro e w9 ⟨rfl, hb9⟩
    have HF := hide (show (∃ u0 u1, SM w9 B g u0 u1 ⟨2, s.nx + 1, s.ca, s.dn, s.sg, []⟩) ∧ Below B w w9 from ⟨⟨_, _, HS.out.down hb9⟩, HL.out.trans (hb9.mono (Nat.le_trans hB HL.out.size))⟩)
    clear hb9
    go_wp2
    go_ret
    exact ⟨rfl, fun _ => HF.out.1, HF.out.2⟩
end Go.Proofs.YtfkeokglifpkoaaGreatDoor

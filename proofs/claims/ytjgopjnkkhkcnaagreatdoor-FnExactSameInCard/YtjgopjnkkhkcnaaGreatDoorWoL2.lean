/-
  The law of SameIn, walked. Condition: the table knownKinds reads as the program's text lays it.
-/
import Derived.Test.YtjgopjnkkhkcnaaGreatDoorWoSi
import Derived.Test.YtjgopjnkkhkcnaaGreatDoorWoSs
import Derived.Test.YtjgopjnkkhkcnaaGreatDoorBrL
import Derived.Deep.RegionWith
namespace Go.Proofs.YtjgopjnkkhkcnaaGreatDoor
open Go.RowKit M
open Go.Sort (grow)
set_option maxRecDepth 20000 in
set_option maxHeartbeats 4000000 in
theorem law_SameIn_run (x y : Value) (W : Wd) (w : World) (hv : WdOf false w x y W) (hf : FinW W) (hkk : KK w)
    (hC : FinWS W → ∃ (r0 r1 : Bool), (∀ (x y : Value) (w : World), WdOf true w x y W → Calls Tryz.prog 51 #[wdv x y] w fun e w' => e = .returned (.tuple #[.bool r0, .bool r1]) ∧ Below w.heap.size w w') ∧
      (∀ (x y : Value) (w : World), WdOf false w x y W → KK w → Calls Tryz.prog 52 #[wdv x y] w fun e w' => e = .returned (.tuple #[.bool r0, .bool r1]) ∧ Below w.heap.size w w')) :
    Calls Tryz.prog 11 #[wdv x y] w fun e w' => e = .returned (.bool true) ∧ Below w.heap.size w w' := by
  obtain ⟨a, m, c, n, rfl, rfl⟩ := hv.form
  have hb0 := low1 w (.cells #[.slice a W.rs.length m, .slice c W.ln.length n] 53)
  have HN0 := hide (new2 w (.slice a W.rs.length m) (.slice c W.ln.length n) 53)
  have HV := hide hv
  have HF := hide hf
  have HK := hide hkk
  have HC := hide hC
  clear hv hf hkk hC
  by_cases hfit : szW W ≤ 1048576
  case neg =>
    have hz := szr_no (left := 1048576) (n := szW W) (by omega)
    have hge : szr 1048576 (szW W) < 0 := by rw [hz]; omega
    clear hz HC HN0 hfit
    go_enter Tryz.func11, Tryz.ntmps11
    go_wp2_with fail
    refine (sz_world _ _ W 1048576 _ (HV.out.below hb0) HF.out (by decide) (by decide)).mono ?_
    rintro e w1 ⟨rfl, hb⟩
    have hb1 := hb0.trans (hb.mono hb0.size)
    clear hb
    go_wp2
    go_ret
    exact ⟨rfl, hb1⟩
  have hz := szr_yes (left := 1048576) (n := szW W) (by omega)
  have hge : ¬ (szr 1048576 (szW W) < 0) := by rw [hz]; omega
  have HS := hide (finWS_of HF.out hfit)
  obtain ⟨r0, r1, hS, hI⟩ := HC.out HS.out
  have CS := hide hS
  have CI := hide hI
  have er0 : (r0 != r0) = false := by simp
  have er1 : (r1 != r1) = false := by simp
  clear hz HC hS hI hfit
  go_enter Tryz.func11, Tryz.ntmps11
  go_wp2_with fail
  refine (sz_world _ _ W 1048576 _ (HV.out.below hb0) HF.out (by decide) (by decide)).mono ?_
  rintro e w1 ⟨rfl, hb⟩
  have hb1 := hb0.trans (hb.mono hb0.size)
  have HN1 := hide (HN0.out.down hb)
  clear hb hb0 HN0
  obtain ⟨⟨d0, d1⟩, -⟩ := HN1.out.duo
  go_wp2_with fail
  refine (to_world _ _ W _ (HV.out.below hb1) HS.out).mono ?_
  rintro e w2 ⟨⟨x2, y2, ts2, ss2, rfl, hO, hps⟩, hb⟩
  have hx := hO.wd
  rw [hps] at hx
  have HX2 := hide hx
  have hb2 := hb1.trans (hb.mono hb1.size)
  have HN2 := hide (HN1.out.down hb)
  clear hb hb1 hO hps hx HN1 d0 d1
  go_wp2_with fail
  refine (CS.out _ _ _ HX2.out).mono ?_
  rintro e w3 ⟨rfl, hb⟩
  have hb3 := hb2.trans (hb.mono hb2.size)
  have HN3 := hide (HN2.out.down hb)
  clear hb hb2 HN2 HX2
  obtain ⟨⟨d0, d1⟩, -⟩ := HN3.out.duo
  go_wp2_with fail
  refine (to_world _ _ W _ (HV.out.below hb3) HS.out).mono ?_
  rintro e w4 ⟨⟨x4, y4, ts4, ss4, rfl, hO, hps⟩, hb⟩
  have hx := hO.wd
  rw [hps] at hx
  obtain ⟨a4, m4, c4, n4, rfl, rfl⟩ := hx.form
  have hb4 := hb3.trans (hb.mono hb3.size)
  have hdn := low1 w4 (.cells #[.slice a4 W.rs.length m4, .slice c4 W.ln.length n4] 59)
  have HY5 := hide (new2 w4 (.slice a4 W.rs.length m4) (.slice c4 W.ln.length n4) 59)
  have HX5 := hide (hx.weak.below hdn)
  have HN5 := hide ((HN3.out.down hb).down hdn)
  have hb5 := hb4.trans (hdn.mono hb4.size)
  clear hb hb3 hb4 hO hps hx hdn HN3 d0 d1
  obtain ⟨⟨e0, e1⟩, -⟩ := HY5.out.duo
  go_wp2_with fail
  refine (CI.out _ _ _ HX5.out (HK.out.below hb5)).mono ?_
  rintro e w6 ⟨rfl, hb⟩
  have hb6 := hb5.trans (hb.mono hb5.size)
  have HX6 := hide (HX5.out.below hb)
  have HY6 := hide (HY5.out.down hb)
  have HN6 := hide (HN5.out.down hb)
  clear hb hb5 HX5 HY5 HN5 e0 e1 CS CI
  obtain ⟨⟨d0, d1⟩, -⟩ := HN6.out.duo
  obtain ⟨⟨e0, e1⟩, -⟩ := HY6.out.duo
  have HM := hide (show ∀ wx wy : World, wx.heap = w6.heap → Below wx.heap.size wx wy → wy.cell? ⟨w4.heap.size, 0, none⟩ = some (.slice a4 W.rs.length m4) ∧ wy.cell? ⟨w4.heap.size, 1, none⟩ = some (.slice c4 W.ln.length n4) from fun wx wy hh hb => by
    have h : Blk wx w4.heap.size 2 (q2 (.slice a4 W.rs.length m4) (.slice c4 W.ln.length n4)) 59 := by unfold Blk; rw [hh]; exact HY6.out
    exact (h.down hb).duo.1)
  go_wp2_with fail
  go_region_with (first | (go_at_call 31; refine (to_world _ _ W _ (HV.out.below (hb6.drew)) HS.out).mono ?_; rintro e w7 ⟨⟨x7, y7, ts7, ss7, rfl, hO7, hps7⟩, hb7⟩; have hx7 := hO7.wd.weak; rw [hps7] at hx7; have HX7 := hide hx7; clear hx7 hO7 hps7; obtain ⟨m0, m1⟩ := HM.out w6.drew w7 rfl hb7) | (go_at_call 33; refine (eq_world _ _ _ _ W _ ((HX6.out.below ((Below.refl w6.heap.size w6).drew)).below hb7) HX7.out HS.out).mono ?_; rintro e w8 ⟨rfl, hb8⟩))
  all_goals
    have hbz : Below w.heap.size w w8 := (hb6.drew.trans (hb7.mono hb6.size)).trans (hb8.mono (Nat.le_trans hb6.size hb7.size))
    clear hb7 hb8 HX7 m0 m1 d0 d1 e0 e1 HM HX6 HY6 HN6 HV HS
    go_wp2
    go_ret
    exact ⟨rfl, hbz⟩
theorem law_sameIn (x y : Value) (W : Wd) (w : World) (hv : WdOf false w x y W) (hf : FinW W) (hkk : KK w) :
    Calls Tryz.prog 11 #[wdv x y] w fun e w' => e = .returned (.bool true) ∧ Below w.heap.size w w' :=
  law_SameIn_run x y W w hv hf hkk (fun hs => by
    obtain ⟨b, hb⟩ := bp_ex (GdWd W)
    exact ⟨_, _, fun x y w h => spec_same x y W b w h hs hb, fun x y w h hk => impl_same x y W b w h hs hk hb⟩)
end Go.Proofs.YtjgopjnkkhkcnaaGreatDoor

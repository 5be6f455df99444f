/-
  The law of IsActive, walked. Condition: the table knownKinds reads as the program's text lays it.
-/
import Derived.Test.YtfkeokglifpkoaaGreatDoorJoin10
import Derived.Test.YtfkeokglifpkoaaGreatDoorJoin24
import Derived.Test.YtfkeokglifpkoaaGreatDoorJoin34
import Derived.Test.YtfkeokglifpkoaaGreatDoorJoin21
import Derived.Deep.RegionWith
namespace Go.Proofs.YtfkeokglifpkoaaGreatDoor
open Go.RowKit M
open Go.Sort (grow)
set_option maxRecDepth 20000 in
set_option maxHeartbeats 4000000 in
theorem law_IsActive_run (id ver : Int) (v : Value) (bs : Brs) (w : World) (hv : BrsOf w v bs) (hf : Fine bs) (hkk : KK w)
    (hC : FineS bs → ∃ (r0 : Bool) (r1 : Bool), (∀ (v : Value) (w : World), BrsOf w v bs → CapOk v → Calls Tryz.prog 13 #[rv id ver v] w fun e w' => e = .returned (.tuple #[.bool r0, .bool r1]) ∧ Below w.heap.size w w') ∧
      (∀ (v : Value) (w : World), BrsOf w v bs → KK w → Calls Tryz.prog 15 #[rv id ver v] w fun e w' => e = .returned (.tuple #[.bool r0, .bool r1]) ∧ Below w.heap.size w w')) :
    Calls Tryz.prog 3 #[rv id ver v] w fun e w' => e = .returned (.bool true) ∧ Below w.heap.size w w' := by
  obtain ⟨a, c, rfl⟩ := hv.form
  have hb0 := (Below.refl w.heap.size w).alloc (Nat.le_refl _) (.cells #[.int .i64 id, .int .i64 ver, .slice a bs.length c] 26)
  have HN0 := hide (show Blk (w.alloc (.cells #[.int .i64 id, .int .i64 ver, .slice a bs.length c] 26)) w.heap.size 3 (q3 (.int .i64 id) (.int .i64 ver) (.slice a bs.length c)) 26 from new3 w _ _ _ _)
  have HV := hide hv
  have HF := hide hf
  have HK := hide hkk
  have HC := hide hC
  clear hv hf hkk hC
  by_cases hfit : bs.length + wb bs ≤ 1048576
  case neg =>
    have hz := szr_no (left := 1048576) (n := bs.length + wb bs) (by omega)
    have hge : szr 1048576 (bs.length + wb bs) < 0 := by rw [hz]; omega
    clear hz HC HN0
    go_enter Tryz.func3, Tryz.ntmps3
    go_wp2_with fail
    refine (sz_region id ver _ bs 1048576 _ (HV.out.below hb0) HF.out (by decide) (by decide)).mono ?_
    rintro e w1 ⟨rfl, hb⟩
    have hb1 := hb0.trans (hb.mono hb0.size)
    clear hb
    go_wp2
    go_ret
    exact ⟨rfl, hb1⟩
  have hz := szr_yes (left := 1048576) (n := bs.length + wb bs) (by omega)
  have hge : ¬ (szr 1048576 (bs.length + wb bs) < 0) := by rw [hz]; omega
  have HS := hide (fine_small HF.out hfit)
  obtain ⟨r0, r1, hS, hI⟩ := HC.out HS.out
  have CS := hide hS
  have CI := hide hI
  have er0 : (r0 != r0) = false := by simp
  have er1 : (r1 != r1) = false := by simp
  clear hz HC hS hI hfit
  go_enter Tryz.func3, Tryz.ntmps3
  go_wp2_with fail
  refine (sz_region id ver _ bs 1048576 _ (HV.out.below hb0) HF.out (by decide) (by decide)).mono ?_
  rintro e w1 ⟨rfl, hb⟩
  have hb1 := hb0.trans (hb.mono hb0.size)
  have HN1 := hide (HN0.out.down hb)
  clear hb hb0 HN0
  obtain ⟨⟨d0, d1, d2⟩, -⟩ := HN1.out.tri
  go_wp2_with fail
  refine (to_region id ver _ bs _ (HV.out.below hb1) HS.out).mono ?_
  rintro e w2 ⟨⟨g2, ps2, rfl, hO, hps⟩, hb⟩
  have hx := hO.brs
  rw [hps] at hx
  have HX2 := hide hx
  have hb2 := hb1.trans (hb.mono hb1.size)
  have HN2 := hide (HN1.out.down hb)
  clear hb hb1 hO hps hx HN1 d0 d1 d2
  go_wp2_with fail
  refine (CS.out _ _ HX2.out (Nat.le_refl _)).mono ?_
  rintro e w3 ⟨rfl, hb⟩
  have hb3 := hb2.trans (hb.mono hb2.size)
  have HN3 := hide (HN2.out.down hb)
  clear hb hb2 HN2 HX2
  obtain ⟨⟨d0, d1, d2⟩, -⟩ := HN3.out.tri
  go_wp2_with fail
  refine (to_region id ver _ bs _ (HV.out.below hb3) HS.out).mono ?_
  rintro e w4 ⟨⟨g4, ps4, rfl, hO, hps⟩, hb⟩
  have hx := hO.brs
  rw [hps] at hx
  have hb4 := hb3.trans (hb.mono hb3.size)
  have hdn := (Below.refl w4.heap.size w4).alloc (Nat.le_refl _) (.cells #[.int .i64 id, .int .i64 ver, .slice (some ⟨g4, 0, none⟩) bs.length bs.length] 34)
  have HY5 := hide (show Blk (w4.alloc (.cells #[.int .i64 id, .int .i64 ver, .slice (some ⟨g4, 0, none⟩) bs.length bs.length] 34)) w4.heap.size 3 (q3 (.int .i64 id) (.int .i64 ver) (.slice (some ⟨g4, 0, none⟩) bs.length bs.length)) 34 from new3 _ _ _ _ _)
  have HX5 := hide (hx.below hdn)
  have HN5 := hide ((HN3.out.down hb).down hdn)
  have hb5 := hb4.trans (hdn.mono hb4.size)
  clear hb hb3 hb4 hO hps hx hdn HN3 d0 d1 d2
  obtain ⟨⟨e0, e1, e2⟩, -⟩ := HY5.out.tri
  go_wp2_with fail
  refine (CI.out _ _ HX5.out (HK.out.below hb5)).mono ?_
  rintro e w6 ⟨rfl, hb⟩
  have hb6 := hb5.trans (hb.mono hb5.size)
  have HX6 := hide (HX5.out.below hb)
  have HY6 := hide (HY5.out.down hb)
  have HN6 := hide (HN5.out.down hb)
  clear hb hb5 HX5 HY5 HN5 e0 e1 e2 CS CI
  obtain ⟨⟨d0, d1, d2⟩, -⟩ := HN6.out.tri
  obtain ⟨⟨e0, e1, e2⟩, -⟩ := HY6.out.tri
  have HM := hide (show ∀ wx wy : World, wx.heap = w6.heap → Below wx.heap.size wx wy → wy.cell? ⟨w4.heap.size, 0, none⟩ = some (.int .i64 id) ∧ wy.cell? ⟨w4.heap.size, 1, none⟩ = some (.int .i64 ver) ∧ wy.cell? ⟨w4.heap.size, 2, none⟩ = some (.slice (some ⟨g4, 0, none⟩) bs.length bs.length) from fun wx wy hh hb => by
    have h : Blk wx w4.heap.size 3 (q3 (.int .i64 id) (.int .i64 ver) (.slice (some ⟨g4, 0, none⟩) bs.length bs.length)) 34 := by unfold Blk; rw [hh]; exact HY6.out
    exact (h.down hb).tri.1)
  go_wp2_with fail
  go_region_with (first | (go_at_call 14; refine (to_region id ver _ bs _ (HV.out.below (hb6.drew)) HS.out).mono ?_; rintro e w7 ⟨⟨g7, ps7, rfl, hO7, hps7⟩, hb7⟩; have hx7 := hO7.brs; rw [hps7] at hx7; have HX7 := hide hx7; clear hx7 hO7 hps7; obtain ⟨m0, m1, m2⟩ := HM.out w6.drew w7 rfl hb7) | (go_at_call 16; refine (eq_region id ver _ _ bs _ ((HX6.out.below ((Below.refl w6.heap.size w6).drew)).below hb7) HX7.out HS.out).mono ?_; rintro e w8 ⟨rfl, hb8⟩))
  all_goals
    have hbz : Below w.heap.size w w8 := (hb6.drew.trans (hb7.mono hb6.size)).trans (hb8.mono (Nat.le_trans hb6.size hb7.size))
    clear hb7 hb8 HX7 m0 m1 m2 d0 d1 d2 e0 e1 e2 HM HX6 HY6 HN6 HV HS
    go_wp2
    go_ret
    exact ⟨rfl, hbz⟩
theorem law_isActive (id ver : Int) (v : Value) (bs : Brs) (w : World) (hv : BrsOf w v bs) (hf : Fine bs) (hkk : KK w) :
    Calls Tryz.prog 3 #[rv id ver v] w fun e w' => e = .returned (.bool true) ∧ Below w.heap.size w w' :=
  law_IsActive_run id ver v bs w hv hf hkk (fun hs => by
    obtain ⟨b, hb⟩ := bp_ex (GdR ⟨id, ver, bs⟩)
    exact ⟨_, _, fun v w h hc => spec_active id ver v bs b w h hs hc hb, fun v w h hk => impl_active id ver v bs b w h hs hk hb⟩)
end Go.Proofs.YtfkeokglifpkoaaGreatDoor

/-
  Texts that follow one another, joined: RgI, RgC8.
-/
import Derived.Test.YtfkeokglifpkoaaGreatDoorJoin34
import Derived.Test.YtfkeokglifpkoaaGreatDoorJoin30
import Derived.Test.YtfkeokglifpkoaaGreatDoorJoin33
import Derived.Test.YtfkeokglifpkoaaGreatDoorJoin39
/-
  HearWord in both texts. Condition: the table knownKinds reads as the program's text lays it.
-/
namespace Go.Proofs.YtfkeokglifpkoaaGreatDoor
open Go.RowKit M
open Go.Sort (grow)
namespace M
/-- A function's boxes: the region and the word that came in, the region that is answered. -/
structure R3 (w W : World) (id ver : Int) (v : Value) (wver : Int) (u : Value) : Prop where
  low : Below w.heap.size w W
  arg : Blk W w.heap.size 3 (q3 (.int .i64 id) (.int .i64 ver) v) 34
  wrd : Blk W (w.heap.size + 1) 2 (q2 (.int .i64 wver) u) 45
  res : Blk W (w.heap.size + 2) 3 (q3 (.int .i64 0) (.int .i64 0) (.slice none 0 0)) 34
  big : w.heap.size + 3 ≤ W.heap.size
theorem R3.down {w W W' : World} {id ver wver : Int} {v u : Value} (h : R3 w W id ver v wver u) (hb : Below W.heap.size W W') : R3 w W' id ver v wver u :=
  ⟨h.low.trans (hb.mono h.low.size), h.arg.down hb, h.wrd.down hb, h.res.down hb, Nat.le_trans h.big hb.size⟩
theorem R3.new (w : World) (id ver : Int) (v : Value) (wver : Int) (u : Value) : R3 w (((w.alloc (.cells #[.int .i64 id, .int .i64 ver, v] 34)).alloc (.cells #[.int .i64 wver, u] 45)).alloc (.cells #[.int .i64 0, .int .i64 0, .slice none 0 0] 34)) id ver v wver u := by
  refine ⟨(((Below.refl _ w).alloc (Nat.le_refl _) _).alloc (by simp) _).alloc (by simp; omega) _, ((new3 w _ _ _ 34).alloc _).alloc _, Blk.alloc ?_ _, ?_, by simp⟩
  · have := new2 (w.alloc (.cells #[.int .i64 id, .int .i64 ver, v] 34)) (.int .i64 wver) u 45
    rw [World.size_alloc] at this; exact this
  · have := new3 ((w.alloc (.cells #[.int .i64 id, .int .i64 ver, v] 34)).alloc (.cells #[.int .i64 wver, u] 45)) (.int .i64 0) (.int .i64 0) (.slice none 0 0) 34
    rw [World.size_alloc, World.size_alloc] at this; exact this
theorem R3.fin {w W : World} {id ver wver : Int} {v u : Value} (h : R3 w W id ver v wver u) (x y z : Value) : ∀ WZ, ((W.setCell ⟨w.heap.size + 2, 0, none⟩ x).setCell ⟨w.heap.size + 2, 1, none⟩ y).setCell ⟨w.heap.size + 2, 2, none⟩ z = WZ →
    Blk WZ (w.heap.size + 2) 3 (q3 x y z) 34 ∧ Below w.heap.size w WZ ∧ ∀ (B : Nat) (u : Value) (ps : Prs), OwnP W B u ps → w.heap.size + 3 ≤ B → OwnP WZ w.heap.size u ps := by
  intro WZ hWZ
  subst hWZ
  exact ⟨h.res.put3 _ _ _, ((h.low.setCell (p := ⟨w.heap.size + 2, 0, none⟩) (by simp) _).setCell (p := ⟨w.heap.size + 2, 1, none⟩) (by simp) _).setCell (p := ⟨w.heap.size + 2, 2, none⟩) (by simp) _, fun B u ps ho hB => (((ho.set_low (by omega) _).set_low (by omega) _).set_low (by omega) _).mono (by omega)⟩
end M
set_option maxRecDepth 20000 in
set_option maxHeartbeats 8000000 in
theorem spec_hear_no (id ver : Int) (v : Value) (bs : Brs) (wver : Int) (u : Value) (ws : Brs) (w : World) (hv : BrsOf w v bs) (hf : FineS bs) (hu : BrsOf w u ws) (hf2 : FineS ws) (hco : CapOk v) (hco2 : CapOk u) (hb : BP false (GdR ⟨id, ver, bs⟩)) :
    Calls Tryz.prog 29 #[rv id ver v, wv wver u] w fun e w' => (∃ v ps, e = .returned (.tuple #[rv 0 0 v, .bool false]) ∧ OwnP w' w.heap.size v ps ∧ bsP ps = []) ∧ Below w.heap.size w w' := by
  have HF := hide hf
  have HF2 := hide hf2
  have HCO := hide hco
  have HCO2 := hide hco2
  obtain ⟨a1, c1, rfl⟩ := hv.form
  obtain ⟨a2, c2, rfl⟩ := hu.form
  obtain ⟨W, hW⟩ : ∃ W, ((w.alloc (.cells #[.int .i64 id, .int .i64 ver, .slice a1 bs.length c1] 34)).alloc (.cells #[.int .i64 wver, .slice a2 ws.length c2] 45)).alloc (.cells #[.int .i64 0, .int .i64 0, .slice none 0 0] 34) = W := ⟨_, rfl⟩
  have HR := hide (show R3 w W id ver (.slice a1 bs.length c1) wver (.slice a2 ws.length c2) from by rw [← hW]; exact R3.new w _ _ _ _ _)
  have HV := hide (hv.below HR.out.low)
  have HU := hide (hu.below HR.out.low)
  have HW := hide hW
  obtain ⟨⟨d0, d1, d2⟩, -⟩ := HR.out.arg.tri
  rw [← hW] at d0 d1 d2
  clear hv hf hu hf2 hco hco2 hW
  have HB := hide hb
  clear hb
  go_enter Tryz.func29, Tryz.ntmps29
  go_wp2_with fail
  rw [HW.out]
  clear HW d0 d1 d2
  refine (spec_goodR id ver _ bs false _ HV.out HF.out HCO.out HB.out).mono ?_
  rintro e w1 ⟨rfl, hb1⟩
  have HR1 := hide (HR.out.down hb1)
  obtain ⟨WZ, hWZ⟩ : ∃ WZ, ((w1.setCell ⟨w.heap.size + 2, 0, none⟩ (.int .i64 0)).setCell ⟨w.heap.size + 2, 1, none⟩ (.int .i64 0)).setCell ⟨w.heap.size + 2, 2, none⟩ (.slice none 0 0) = WZ := ⟨_, rfl⟩
  obtain ⟨hz, hzb, -⟩ := HR1.out.fin (.int .i64 0) (.int .i64 0) (.slice none 0 0) WZ hWZ
  obtain ⟨⟨e0, e1, e2⟩, f0, f1, f2⟩ := HR1.out.res.tri
  have HWZ := hide hWZ
  have HZ := hide hz
  clear hz hWZ
  go_wp2
  rw [HWZ.out]
  clear e0 e1 e2 f0 f1 f2
  obtain ⟨⟨e0, e1, e2⟩, -⟩ := HZ.out.tri
  exact bodyPost_ret (v := .tuple #[rv 0 0 (.slice none 0 0), .bool false]) (by simp [results, Tryz.results29, go_sem, e0, e1, e2]) rfl ⟨⟨_, [], rfl, OwnP.nil _ _, rfl⟩, hzb⟩
set_option maxRecDepth 20000 in
set_option maxHeartbeats 8000000 in
theorem spec_hear_word (id ver : Int) (v : Value) (bs : Brs) (wver : Int) (u : Value) (ws : Brs) (w : World) (hv : BrsOf w v bs) (hf : FineS bs) (hu : BrsOf w u ws) (hf2 : FineS ws) (hco : CapOk v) (hco2 : CapOk u) (hb : GdR ⟨id, ver, bs⟩) (hw : BP false (GdW wver ws)) :
    Calls Tryz.prog 29 #[rv id ver v, wv wver u] w fun e w' => (∃ v ps, e = .returned (.tuple #[rv 0 0 v, .bool false]) ∧ OwnP w' w.heap.size v ps ∧ bsP ps = []) ∧ Below w.heap.size w w' := by
  have HF := hide hf
  have HF2 := hide hf2
  have HCO := hide hco
  have HCO2 := hide hco2
  obtain ⟨a1, c1, rfl⟩ := hv.form
  obtain ⟨a2, c2, rfl⟩ := hu.form
  obtain ⟨W, hW⟩ : ∃ W, ((w.alloc (.cells #[.int .i64 id, .int .i64 ver, .slice a1 bs.length c1] 34)).alloc (.cells #[.int .i64 wver, .slice a2 ws.length c2] 45)).alloc (.cells #[.int .i64 0, .int .i64 0, .slice none 0 0] 34) = W := ⟨_, rfl⟩
  have HR := hide (show R3 w W id ver (.slice a1 bs.length c1) wver (.slice a2 ws.length c2) from by rw [← hW]; exact R3.new w _ _ _ _ _)
  have HV := hide (hv.below HR.out.low)
  have HU := hide (hu.below HR.out.low)
  have HW := hide hW
  obtain ⟨⟨d0, d1, d2⟩, -⟩ := HR.out.arg.tri
  rw [← hW] at d0 d1 d2
  clear hv hf hu hf2 hco hco2 hW
  have HB := hide (show BP true (GdR ⟨id, ver, bs⟩) from ⟨fun _ => hb, fun _ => rfl⟩)
  have HX := hide (show BP false (GdR ⟨0, wver, ws⟩) from ⟨fun h => ⟨(by show (0 : Int) ≤ 0 ∧ (0 : Int) ≤ 9; decide), hw.1 h⟩, fun h => hw.2 h.2⟩)
  clear hb hw
  go_enter Tryz.func29, Tryz.ntmps29
  go_wp2_with fail
  rw [HW.out]
  clear HW d0 d1 d2
  refine (spec_goodR id ver _ bs true _ HV.out HF.out HCO.out HB.out).mono ?_
  rintro e w1 ⟨rfl, hb1⟩
  have HR1 := hide (HR.out.down hb1)
  have HV1 := hide (HV.out.below hb1)
  have HU1 := hide (HU.out.below hb1)
  obtain ⟨⟨g0, g1⟩, -⟩ := HR1.out.wrd.duo
  clear hb1 HR HV HU
  go_wp2_with fail
  refine (spec_goodR 0 wver _ ws false _ HU1.out HF2.out HCO2.out HX.out).mono ?_
  rintro e w2 ⟨rfl, hb2⟩
  have HR2 := hide (HR1.out.down hb2)
  have HV2 := hide (HV1.out.below hb2)
  have HU2 := hide (HU1.out.below hb2)
  clear hb2 HR1 HV1 HU1 g0 g1
  obtain ⟨WZ, hWZ⟩ : ∃ WZ, ((w2.setCell ⟨w.heap.size + 2, 0, none⟩ (.int .i64 0)).setCell ⟨w.heap.size + 2, 1, none⟩ (.int .i64 0)).setCell ⟨w.heap.size + 2, 2, none⟩ (.slice none 0 0) = WZ := ⟨_, rfl⟩
  obtain ⟨hz, hzb, -⟩ := HR2.out.fin (.int .i64 0) (.int .i64 0) (.slice none 0 0) WZ hWZ
  obtain ⟨⟨e0, e1, e2⟩, f0, f1, f2⟩ := HR2.out.res.tri
  have HWZ := hide hWZ
  have HZ := hide hz
  clear hz hWZ
  go_wp2
  rw [HWZ.out]
  clear e0 e1 e2 f0 f1 f2
  obtain ⟨⟨e0, e1, e2⟩, -⟩ := HZ.out.tri
  exact bodyPost_ret (v := .tuple #[rv 0 0 (.slice none 0 0), .bool false]) (by simp [results, Tryz.results29, go_sem, e0, e1, e2]) rfl ⟨⟨_, [], rfl, OwnP.nil _ _, rfl⟩, hzb⟩
set_option maxRecDepth 20000 in
set_option maxHeartbeats 8000000 in
theorem spec_hear_many (id ver : Int) (v : Value) (bs : Brs) (wver : Int) (u : Value) (ws : Brs) (w : World) (hv : BrsOf w v bs) (hf : FineS bs) (hu : BrsOf w u ws) (hf2 : FineS ws) (hco : CapOk v) (hco2 : CapOk u) (hb : GdR ⟨id, ver, bs⟩) (hw0 : GdW wver ws) (hm : ¬ (mge bs ws).length ≤ 12) :
    Calls Tryz.prog 29 #[rv id ver v, wv wver u] w fun e w' => (∃ v ps, e = .returned (.tuple #[rv 0 0 v, .bool false]) ∧ OwnP w' w.heap.size v ps ∧ bsP ps = []) ∧ Below w.heap.size w w' := by
  have HF := hide hf
  have HF2 := hide hf2
  have HCO := hide hco
  have HCO2 := hide hco2
  obtain ⟨a1, c1, rfl⟩ := hv.form
  obtain ⟨a2, c2, rfl⟩ := hu.form
  obtain ⟨W, hW⟩ : ∃ W, ((w.alloc (.cells #[.int .i64 id, .int .i64 ver, .slice a1 bs.length c1] 34)).alloc (.cells #[.int .i64 wver, .slice a2 ws.length c2] 45)).alloc (.cells #[.int .i64 0, .int .i64 0, .slice none 0 0] 34) = W := ⟨_, rfl⟩
  have HR := hide (show R3 w W id ver (.slice a1 bs.length c1) wver (.slice a2 ws.length c2) from by rw [← hW]; exact R3.new w _ _ _ _ _)
  have HV := hide (hv.below HR.out.low)
  have HU := hide (hu.below HR.out.low)
  have HW := hide hW
  obtain ⟨⟨d0, d1, d2⟩, -⟩ := HR.out.arg.tri
  rw [← hW] at d0 d1 d2
  clear hv hf hu hf2 hco hco2 hW
  have HB := hide (show BP true (GdR ⟨id, ver, bs⟩) from ⟨fun _ => hb, fun _ => rfl⟩)
  have hw : BP true (GdW wver ws) := ⟨fun _ => hw0, fun _ => rfl⟩
  have HX := hide (show BP true (GdR ⟨0, wver, ws⟩) from ⟨fun h => ⟨(by show (0 : Int) ≤ 0 ∧ (0 : Int) ≤ 9; decide), hw.1 h⟩, fun h => hw.2 h.2⟩)
  have HM := hide (show BP false (GdT bs ∧ GdT ws ∧ (mge bs ws).length ≤ 12) from ⟨fun h => (by cases h), fun h => absurd h.2.2 hm⟩)
  clear hb hw hw0 hm
  go_enter Tryz.func29, Tryz.ntmps29
  go_wp2_with fail
  rw [HW.out]
  clear HW d0 d1 d2
  refine (spec_goodR id ver _ bs true _ HV.out HF.out HCO.out HB.out).mono ?_
  rintro e w1 ⟨rfl, hb1⟩
  have HR1 := hide (HR.out.down hb1)
  have HV1 := hide (HV.out.below hb1)
  have HU1 := hide (HU.out.below hb1)
  obtain ⟨⟨g0, g1⟩, -⟩ := HR1.out.wrd.duo
  clear hb1 HR HV HU
  go_wp2_with fail
  refine (spec_goodR 0 wver _ ws true _ HU1.out HF2.out HCO2.out HX.out).mono ?_
  rintro e w2 ⟨rfl, hb2⟩
  have HR2 := hide (HR1.out.down hb2)
  have HV2 := hide (HV1.out.below hb2)
  have HU2 := hide (HU1.out.below hb2)
  clear hb2 HR1 HV1 HU1 g0 g1
  obtain ⟨⟨d0, d1, d2⟩, -⟩ := HR2.out.arg.tri
  obtain ⟨⟨g0, g1⟩, -⟩ := HR2.out.wrd.duo
  go_wp2_with fail
  refine (spec_mge _ _ bs ws false [] _ HV2.out HU2.out HF.out HF2.out HCO.out HCO2.out HM.out ⟨fun h => (by cases h), fun _ => rfl⟩).mono ?_
  rintro e w3 ⟨⟨y, ps, rfl, hO, hps⟩, hb3⟩
  obtain ⟨ay, cy, rfl⟩ := hO.form
  obtain ⟨w4, hw4⟩ : ∃ w4, w3.alloc (.cells #[.slice ay ps.length cy] 32) = w4 := ⟨_, rfl⟩
  have h34 : Below w3.heap.size w3 w4 := by rw [← hw4]; exact low1 _ _
  have HT := hide (show M.One w4 w3.heap.size (.slice ay ps.length cy) 32 from by rw [← hw4]; exact heap_alloc_new _ _)
  have HR4 := hide ((HR2.out.down hb3).down h34)
  have HB2 := hide HR2.out.big
  have HO4 := hide (hO.down h34)
  have HPS := hide hps
  have HW4 := hide hw4
  clear hb3 h34 hO hps hw4 HR2 HV2 HU2 d0 d1 d2 g0 g1
  go_upto_region 4 with fail
  rw [HW4.out]
  clear HW4
  obtain ⟨WZ, hWZ⟩ : ∃ WZ, ((w4.setCell ⟨w.heap.size + 2, 0, none⟩ (.int .i64 0)).setCell ⟨w.heap.size + 2, 1, none⟩ (.int .i64 0)).setCell ⟨w.heap.size + 2, 2, none⟩ (.slice none 0 0) = WZ := ⟨_, rfl⟩
  obtain ⟨hz, hzb, -⟩ := HR4.out.fin (.int .i64 0) (.int .i64 0) (.slice none 0 0) WZ hWZ
  obtain ⟨⟨e0, e1, e2⟩, f0, f1, f2⟩ := HR4.out.res.tri
  have HWZ := hide hWZ
  have HZ := hide hz
  clear hz hWZ
  go_wp2
  rw [HWZ.out]
  clear e0 e1 e2 f0 f1 f2
  obtain ⟨⟨e0, e1, e2⟩, -⟩ := HZ.out.tri
  exact bodyPost_ret (v := .tuple #[rv 0 0 (.slice none 0 0), .bool false]) (by simp [results, Tryz.results29, go_sem, e0, e1, e2]) rfl ⟨⟨_, [], rfl, OwnP.nil _ _, rfl⟩, hzb⟩
set_option maxRecDepth 20000 in
set_option maxHeartbeats 8000000 in
theorem spec_hear_ok (id ver : Int) (v : Value) (bs : Brs) (wver : Int) (u : Value) (ws : Brs) (w : World) (hv : BrsOf w v bs) (hf : FineS bs) (hu : BrsOf w u ws) (hf2 : FineS ws) (hco : CapOk v) (hco2 : CapOk u) (hb : GdR ⟨id, ver, bs⟩) (hw0 : GdW wver ws) (hm : (mge bs ws).length ≤ 12) :
    Calls Tryz.prog 29 #[rv id ver v, wv wver u] w fun e w' => (∃ v ps, e = .returned (.tuple #[rv id (if ver < wver then wver else ver) v, .bool true]) ∧ OwnP w' w.heap.size v ps ∧ bsP ps = mge bs ws) ∧ Below w.heap.size w w' := by
  have HF := hide hf
  have HF2 := hide hf2
  have HCO := hide hco
  have HCO2 := hide hco2
  obtain ⟨a1, c1, rfl⟩ := hv.form
  obtain ⟨a2, c2, rfl⟩ := hu.form
  obtain ⟨W, hW⟩ : ∃ W, ((w.alloc (.cells #[.int .i64 id, .int .i64 ver, .slice a1 bs.length c1] 34)).alloc (.cells #[.int .i64 wver, .slice a2 ws.length c2] 45)).alloc (.cells #[.int .i64 0, .int .i64 0, .slice none 0 0] 34) = W := ⟨_, rfl⟩
  have HR := hide (show R3 w W id ver (.slice a1 bs.length c1) wver (.slice a2 ws.length c2) from by rw [← hW]; exact R3.new w _ _ _ _ _)
  have HV := hide (hv.below HR.out.low)
  have HU := hide (hu.below HR.out.low)
  have HW := hide hW
  obtain ⟨⟨d0, d1, d2⟩, -⟩ := HR.out.arg.tri
  rw [← hW] at d0 d1 d2
  clear hv hf hu hf2 hco hco2 hW
  have HB := hide (show BP true (GdR ⟨id, ver, bs⟩) from ⟨fun _ => hb, fun _ => rfl⟩)
  have hw : BP true (GdW wver ws) := ⟨fun _ => hw0, fun _ => rfl⟩
  have HX := hide (show BP true (GdR ⟨0, wver, ws⟩) from ⟨fun h => ⟨(by show (0 : Int) ≤ 0 ∧ (0 : Int) ≤ 9; decide), hw.1 h⟩, fun h => hw.2 h.2⟩)
  have HM := hide (show BP true (GdT bs ∧ GdT ws ∧ (mge bs ws).length ≤ 12) from ⟨fun _ => ⟨hb.2.2.1, hw0.2.1, hm⟩, fun _ => rfl⟩)
  obtain ⟨xv, hxv⟩ : ∃ xv, (if ver < wver then wver else ver) = xv := ⟨_, rfl⟩
  rw [hxv]
  have HXV := hide hxv
  clear hb hw hw0 hm hxv
  go_enter Tryz.func29, Tryz.ntmps29
  go_wp2_with fail
  rw [HW.out]
  clear HW d0 d1 d2
  refine (spec_goodR id ver _ bs true _ HV.out HF.out HCO.out HB.out).mono ?_
  rintro e w1 ⟨rfl, hb1⟩
  have HR1 := hide (HR.out.down hb1)
  have HV1 := hide (HV.out.below hb1)
  have HU1 := hide (HU.out.below hb1)
  obtain ⟨⟨g0, g1⟩, -⟩ := HR1.out.wrd.duo
  clear hb1 HR HV HU
  go_wp2_with fail
  refine (spec_goodR 0 wver _ ws true _ HU1.out HF2.out HCO2.out HX.out).mono ?_
  rintro e w2 ⟨rfl, hb2⟩
  have HR2 := hide (HR1.out.down hb2)
  have HV2 := hide (HV1.out.below hb2)
  have HU2 := hide (HU1.out.below hb2)
  clear hb2 HR1 HV1 HU1 g0 g1
  obtain ⟨⟨d0, d1, d2⟩, -⟩ := HR2.out.arg.tri
  obtain ⟨⟨g0, g1⟩, -⟩ := HR2.out.wrd.duo
  go_wp2_with fail
  refine (spec_mge _ _ bs ws true (mge bs ws) _ HV2.out HU2.out HF.out HF2.out HCO.out HCO2.out HM.out ⟨fun _ => rfl, fun h => (by cases h)⟩).mono ?_
  rintro e w3 ⟨⟨y, ps, rfl, hO, hps⟩, hb3⟩
  obtain ⟨ay, cy, rfl⟩ := hO.form
  obtain ⟨w4, hw4⟩ : ∃ w4, w3.alloc (.cells #[.slice ay ps.length cy] 32) = w4 := ⟨_, rfl⟩
  have h34 : Below w3.heap.size w3 w4 := by rw [← hw4]; exact low1 _ _
  have HT := hide (show M.One w4 w3.heap.size (.slice ay ps.length cy) 32 from by rw [← hw4]; exact heap_alloc_new _ _)
  have HR4 := hide ((HR2.out.down hb3).down h34)
  have HB2 := hide HR2.out.big
  have HO4 := hide (hO.down h34)
  have HPS := hide hps
  have HW4 := hide hw4
  clear hb3 h34 hO hps hw4 HR2 HV2 HU2 d0 d1 d2 g0 g1
  go_upto_region 4 with fail
  rw [HW4.out]
  clear HW4
  obtain ⟨⟨d0, d1, d2⟩, h0, h1, h2⟩ := HR4.out.arg.tri
  obtain ⟨⟨g0, g1⟩, -⟩ := HR4.out.wrd.duo
  have t0 := HT.out.cell
  have HB5 := hide (show w.heap.size + 3 ≤ w2.heap.size from HB2.out)
  by_cases hlt : ver < wver
  · have hx : wver = xv := by rw [← HXV.out, if_pos hlt]
    subst hx
    have hgt : wver > ver := hlt
    obtain ⟨w5, hw5⟩ : ∃ w5, (w4.setCell ⟨w.heap.size, 1, none⟩ (.int .i64 wver)).setCell ⟨w.heap.size, 2, none⟩ (.slice ay ps.length cy) = w5 := ⟨_, rfl⟩
    have hb2 := HB2.out
    have HR5 := hide (show R3 w w5 id wver (.slice ay ps.length cy) wver (.slice a2 ws.length c2) from by
      rw [← hw5]; exact ⟨(HR4.out.low.setCell (p := ⟨w.heap.size, 1, none⟩) (Nat.le_refl _) _).setCell (p := ⟨w.heap.size, 2, none⟩) (Nat.le_refl _) _, (HR4.out.arg.tri1 _).tri2 _, (HR4.out.wrd.off (by omega) _).off (by omega) _, (HR4.out.res.off (by omega) _).off (by omega) _, by simpa using HR4.out.big⟩)
    have HO5 := hide (show OwnP w5 w2.heap.size (.slice ay ps.length cy) ps from by rw [← hw5]; exact (HO4.out.set_low (by omega) _).set_low (by omega) _)
    have HW5 := hide hw5
    clear hw5 HR4 HO4
    go_upto_region 9 with fail
    rw [HW5.out]
    clear HW5 d0 d1 d2 h0 h1 h2 g0 g1 t0
    obtain ⟨⟨d0, d1, d2⟩, -⟩ := HR5.out.arg.tri
    obtain ⟨⟨e0, e1, e2⟩, f0, f1, f2⟩ := HR5.out.res.tri
    obtain ⟨WZ, hWZ⟩ : ∃ WZ, ((w5.setCell ⟨w.heap.size + 2, 0, none⟩ (.int .i64 id)).setCell ⟨w.heap.size + 2, 1, none⟩ (.int .i64 wver)).setCell ⟨w.heap.size + 2, 2, none⟩ (.slice ay ps.length cy) = WZ := ⟨_, rfl⟩
    obtain ⟨hz, hzb, hzo⟩ := HR5.out.fin (.int .i64 id) (.int .i64 wver) (.slice ay ps.length cy) WZ hWZ
    have HZO := hide (hzo _ _ _ HO5.out HB5.out)
    clear HR5 HO5
    have HWZ := hide hWZ
    have HZ := hide hz
    clear hz hWZ hzo
    go_wp2
    rw [HWZ.out]
    obtain ⟨⟨s0, s1, s2⟩, -⟩ := HZ.out.tri
    exact bodyPost_ret (v := .tuple #[rv id wver (.slice ay ps.length cy), .bool true]) (by simp [results, Tryz.results29, go_sem, s0, s1, s2]) rfl (by first | exact ⟨⟨_, ps, rfl, HZO.out, HPS.out⟩, hzb⟩ | exact ⟨⟨_, rfl, ps, HZO.out, HPS.out⟩, hzb⟩)
  · have hx : ver = xv := by rw [← HXV.out, if_neg hlt]
    subst hx
    have hgt : ¬ wver > ver := hlt
    obtain ⟨w5, hw5⟩ : ∃ w5, w4.setCell ⟨w.heap.size, 2, none⟩ (.slice ay ps.length cy) = w5 := ⟨_, rfl⟩
    have hb2 := HB2.out
    have HR5 := hide (show R3 w w5 id ver (.slice ay ps.length cy) wver (.slice a2 ws.length c2) from by
      rw [← hw5]; exact ⟨HR4.out.low.setCell (p := ⟨w.heap.size, 2, none⟩) (Nat.le_refl _) _, HR4.out.arg.tri2 _, HR4.out.wrd.off (by omega) _, HR4.out.res.off (by omega) _, by simpa using HR4.out.big⟩)
    have HO5 := hide (show OwnP w5 w2.heap.size (.slice ay ps.length cy) ps from by rw [← hw5]; exact HO4.out.set_low (by omega) _)
    have HW5 := hide hw5
    clear hw5 HR4 HO4
    go_upto_region 9 with fail
    rw [HW5.out]
    clear HW5 d0 d1 d2 h0 h1 h2 g0 g1 t0
    obtain ⟨⟨d0, d1, d2⟩, -⟩ := HR5.out.arg.tri
    obtain ⟨⟨e0, e1, e2⟩, f0, f1, f2⟩ := HR5.out.res.tri
    obtain ⟨WZ, hWZ⟩ : ∃ WZ, ((w5.setCell ⟨w.heap.size + 2, 0, none⟩ (.int .i64 id)).setCell ⟨w.heap.size + 2, 1, none⟩ (.int .i64 ver)).setCell ⟨w.heap.size + 2, 2, none⟩ (.slice ay ps.length cy) = WZ := ⟨_, rfl⟩
    obtain ⟨hz, hzb, hzo⟩ := HR5.out.fin (.int .i64 id) (.int .i64 ver) (.slice ay ps.length cy) WZ hWZ
    have HZO := hide (hzo _ _ _ HO5.out HB5.out)
    clear HR5 HO5
    have HWZ := hide hWZ
    have HZ := hide hz
    clear hz hWZ hzo
    go_wp2
    rw [HWZ.out]
    obtain ⟨⟨s0, s1, s2⟩, -⟩ := HZ.out.tri
    exact bodyPost_ret (v := .tuple #[rv id ver (.slice ay ps.length cy), .bool true]) (by simp [results, Tryz.results29, go_sem, s0, s1, s2]) rfl (by first | exact ⟨⟨_, ps, rfl, HZO.out, HPS.out⟩, hzb⟩ | exact ⟨⟨_, rfl, ps, HZO.out, HPS.out⟩, hzb⟩)
set_option maxRecDepth 20000 in
set_option maxHeartbeats 8000000 in
theorem impl_hear_no (id ver : Int) (v : Value) (bs : Brs) (wver : Int) (u : Value) (ws : Brs) (w : World) (hv : BrsOf w v bs) (hf : FineS bs) (hu : BrsOf w u ws) (hf2 : FineS ws) (hkk : KK w) (hb : BP false (GdR ⟨id, ver, bs⟩)) :
    Calls Tryz.prog 31 #[rv id ver v, wv wver u] w fun e w' => (∃ v ps, e = .returned (.tuple #[rv 0 0 v, .bool false]) ∧ OwnP w' w.heap.size v ps ∧ bsP ps = []) ∧ Below w.heap.size w w' := by
  have HF := hide hf
  have HF2 := hide hf2
  have HK := hide hkk
  obtain ⟨a1, c1, rfl⟩ := hv.form
  obtain ⟨a2, c2, rfl⟩ := hu.form
  obtain ⟨W, hW⟩ : ∃ W, ((w.alloc (.cells #[.int .i64 id, .int .i64 ver, .slice a1 bs.length c1] 34)).alloc (.cells #[.int .i64 wver, .slice a2 ws.length c2] 45)).alloc (.cells #[.int .i64 0, .int .i64 0, .slice none 0 0] 34) = W := ⟨_, rfl⟩
  have HR := hide (show R3 w W id ver (.slice a1 bs.length c1) wver (.slice a2 ws.length c2) from by rw [← hW]; exact R3.new w _ _ _ _ _)
  have HV := hide (hv.below HR.out.low)
  have HU := hide (hu.below HR.out.low)
  have HW := hide hW
  obtain ⟨⟨d0, d1, d2⟩, -⟩ := HR.out.arg.tri
  rw [← hW] at d0 d1 d2
  clear hv hf hu hf2 hkk hW
  have HB := hide hb
  clear hb
  go_enter Tryz.func31, Tryz.ntmps31
  go_wp2_with fail
  rw [HW.out]
  clear HW d0 d1 d2
  refine (impl_goodR id ver _ bs false _ HV.out HF.out (HK.out.below HR.out.low) HB.out).mono ?_
  rintro e w1 ⟨rfl, hb1⟩
  have HR1 := hide (HR.out.down hb1)
  obtain ⟨WZ, hWZ⟩ : ∃ WZ, ((w1.setCell ⟨w.heap.size + 2, 0, none⟩ (.int .i64 0)).setCell ⟨w.heap.size + 2, 1, none⟩ (.int .i64 0)).setCell ⟨w.heap.size + 2, 2, none⟩ (.slice none 0 0) = WZ := ⟨_, rfl⟩
  obtain ⟨hz, hzb, -⟩ := HR1.out.fin (.int .i64 0) (.int .i64 0) (.slice none 0 0) WZ hWZ
  obtain ⟨⟨e0, e1, e2⟩, f0, f1, f2⟩ := HR1.out.res.tri
  have HWZ := hide hWZ
  have HZ := hide hz
  clear hz hWZ
  go_wp2
  rw [HWZ.out]
  clear e0 e1 e2 f0 f1 f2
  obtain ⟨⟨e0, e1, e2⟩, -⟩ := HZ.out.tri
  exact bodyPost_ret (v := .tuple #[rv 0 0 (.slice none 0 0), .bool false]) (by simp [results, Tryz.results31, go_sem, e0, e1, e2]) rfl ⟨⟨_, [], rfl, OwnP.nil _ _, rfl⟩, hzb⟩
set_option maxRecDepth 20000 in
set_option maxHeartbeats 8000000 in
theorem impl_hear_word (id ver : Int) (v : Value) (bs : Brs) (wver : Int) (u : Value) (ws : Brs) (w : World) (hv : BrsOf w v bs) (hf : FineS bs) (hu : BrsOf w u ws) (hf2 : FineS ws) (hkk : KK w) (hb : GdR ⟨id, ver, bs⟩) (hw : BP false (GdW wver ws)) :
    Calls Tryz.prog 31 #[rv id ver v, wv wver u] w fun e w' => (∃ v ps, e = .returned (.tuple #[rv 0 0 v, .bool false]) ∧ OwnP w' w.heap.size v ps ∧ bsP ps = []) ∧ Below w.heap.size w w' := by
  have HF := hide hf
  have HF2 := hide hf2
  have HK := hide hkk
  obtain ⟨a1, c1, rfl⟩ := hv.form
  obtain ⟨a2, c2, rfl⟩ := hu.form
  obtain ⟨W, hW⟩ : ∃ W, ((w.alloc (.cells #[.int .i64 id, .int .i64 ver, .slice a1 bs.length c1] 34)).alloc (.cells #[.int .i64 wver, .slice a2 ws.length c2] 45)).alloc (.cells #[.int .i64 0, .int .i64 0, .slice none 0 0] 34) = W := ⟨_, rfl⟩
  have HR := hide (show R3 w W id ver (.slice a1 bs.length c1) wver (.slice a2 ws.length c2) from by rw [← hW]; exact R3.new w _ _ _ _ _)
  have HV := hide (hv.below HR.out.low)
  have HU := hide (hu.below HR.out.low)
  have HW := hide hW
  obtain ⟨⟨d0, d1, d2⟩, -⟩ := HR.out.arg.tri
  rw [← hW] at d0 d1 d2
  clear hv hf hu hf2 hkk hW
  have HB := hide (show BP true (GdR ⟨id, ver, bs⟩) from ⟨fun _ => hb, fun _ => rfl⟩)
  have HX := hide hw
  clear hb hw
  go_enter Tryz.func31, Tryz.ntmps31
  go_wp2_with fail
  rw [HW.out]
  clear HW d0 d1 d2
  refine (impl_goodR id ver _ bs true _ HV.out HF.out (HK.out.below HR.out.low) HB.out).mono ?_
  rintro e w1 ⟨rfl, hb1⟩
  have HR1 := hide (HR.out.down hb1)
  have HV1 := hide (HV.out.below hb1)
  have HU1 := hide (HU.out.below hb1)
  obtain ⟨⟨g0, g1⟩, -⟩ := HR1.out.wrd.duo
  clear hb1 HR HV HU
  go_wp2_with fail
  refine (impl_goodWord wver _ ws false _ HU1.out HF2.out (HK.out.below HR1.out.low) HX.out).mono ?_
  rintro e w2 ⟨rfl, hb2⟩
  have HR2 := hide (HR1.out.down hb2)
  have HV2 := hide (HV1.out.below hb2)
  have HU2 := hide (HU1.out.below hb2)
  clear hb2 HR1 HV1 HU1 g0 g1
  obtain ⟨WZ, hWZ⟩ : ∃ WZ, ((w2.setCell ⟨w.heap.size + 2, 0, none⟩ (.int .i64 0)).setCell ⟨w.heap.size + 2, 1, none⟩ (.int .i64 0)).setCell ⟨w.heap.size + 2, 2, none⟩ (.slice none 0 0) = WZ := ⟨_, rfl⟩
  obtain ⟨hz, hzb, -⟩ := HR2.out.fin (.int .i64 0) (.int .i64 0) (.slice none 0 0) WZ hWZ
  obtain ⟨⟨e0, e1, e2⟩, f0, f1, f2⟩ := HR2.out.res.tri
  have HWZ := hide hWZ
  have HZ := hide hz
  clear hz hWZ
  go_wp2
  rw [HWZ.out]
  clear e0 e1 e2 f0 f1 f2
  obtain ⟨⟨e0, e1, e2⟩, -⟩ := HZ.out.tri
  exact bodyPost_ret (v := .tuple #[rv 0 0 (.slice none 0 0), .bool false]) (by simp [results, Tryz.results31, go_sem, e0, e1, e2]) rfl ⟨⟨_, [], rfl, OwnP.nil _ _, rfl⟩, hzb⟩
set_option maxRecDepth 20000 in
set_option maxHeartbeats 8000000 in
theorem impl_hear_many (id ver : Int) (v : Value) (bs : Brs) (wver : Int) (u : Value) (ws : Brs) (w : World) (hv : BrsOf w v bs) (hf : FineS bs) (hu : BrsOf w u ws) (hf2 : FineS ws) (hkk : KK w) (hb : GdR ⟨id, ver, bs⟩) (hw0 : GdW wver ws) (hm : ¬ (mge bs ws).length ≤ 12) :
    Calls Tryz.prog 31 #[rv id ver v, wv wver u] w fun e w' => (∃ v ps, e = .returned (.tuple #[rv 0 0 v, .bool false]) ∧ OwnP w' w.heap.size v ps ∧ bsP ps = []) ∧ Below w.heap.size w w' := by
  have HF := hide hf
  have HF2 := hide hf2
  have HK := hide hkk
  obtain ⟨a1, c1, rfl⟩ := hv.form
  obtain ⟨a2, c2, rfl⟩ := hu.form
  obtain ⟨W, hW⟩ : ∃ W, ((w.alloc (.cells #[.int .i64 id, .int .i64 ver, .slice a1 bs.length c1] 34)).alloc (.cells #[.int .i64 wver, .slice a2 ws.length c2] 45)).alloc (.cells #[.int .i64 0, .int .i64 0, .slice none 0 0] 34) = W := ⟨_, rfl⟩
  have HR := hide (show R3 w W id ver (.slice a1 bs.length c1) wver (.slice a2 ws.length c2) from by rw [← hW]; exact R3.new w _ _ _ _ _)
  have HV := hide (hv.below HR.out.low)
  have HU := hide (hu.below HR.out.low)
  have HW := hide hW
  obtain ⟨⟨d0, d1, d2⟩, -⟩ := HR.out.arg.tri
  rw [← hW] at d0 d1 d2
  clear hv hf hu hf2 hkk hW
  have HB := hide (show BP true (GdR ⟨id, ver, bs⟩) from ⟨fun _ => hb, fun _ => rfl⟩)
  have hw : BP true (GdW wver ws) := ⟨fun _ => hw0, fun _ => rfl⟩
  have HX := hide hw
  have HM := hide (show BP false (GdT bs ∧ GdT ws ∧ (mge bs ws).length ≤ 12) from ⟨fun h => (by cases h), fun h => absurd h.2.2 hm⟩)
  clear hb hw hw0 hm
  go_enter Tryz.func31, Tryz.ntmps31
  go_wp2_with fail
  rw [HW.out]
  clear HW d0 d1 d2
  refine (impl_goodR id ver _ bs true _ HV.out HF.out (HK.out.below HR.out.low) HB.out).mono ?_
  rintro e w1 ⟨rfl, hb1⟩
  have HR1 := hide (HR.out.down hb1)
  have HV1 := hide (HV.out.below hb1)
  have HU1 := hide (HU.out.below hb1)
  obtain ⟨⟨g0, g1⟩, -⟩ := HR1.out.wrd.duo
  clear hb1 HR HV HU
  go_wp2_with fail
  refine (impl_goodWord wver _ ws true _ HU1.out HF2.out (HK.out.below HR1.out.low) HX.out).mono ?_
  rintro e w2 ⟨rfl, hb2⟩
  have HR2 := hide (HR1.out.down hb2)
  have HV2 := hide (HV1.out.below hb2)
  have HU2 := hide (HU1.out.below hb2)
  clear hb2 HR1 HV1 HU1 g0 g1
  obtain ⟨⟨d0, d1, d2⟩, -⟩ := HR2.out.arg.tri
  obtain ⟨⟨g0, g1⟩, -⟩ := HR2.out.wrd.duo
  go_wp2_with fail
  refine (impl_mge _ _ bs ws false [] _ HV2.out HU2.out HF.out HF2.out (HK.out.below HR2.out.low) HM.out ⟨fun h => (by cases h), fun _ => rfl⟩).mono ?_
  rintro e w3 ⟨⟨y, ps, rfl, hO, hps⟩, hb3⟩
  obtain ⟨ay, cy, rfl⟩ := hO.form
  obtain ⟨w4, hw4⟩ : ∃ w4, w3.alloc (.cells #[.slice ay ps.length cy] 32) = w4 := ⟨_, rfl⟩
  have h34 : Below w3.heap.size w3 w4 := by rw [← hw4]; exact low1 _ _
  have HT := hide (show M.One w4 w3.heap.size (.slice ay ps.length cy) 32 from by rw [← hw4]; exact heap_alloc_new _ _)
  have HR4 := hide ((HR2.out.down hb3).down h34)
  have HB2 := hide HR2.out.big
  have HO4 := hide (hO.down h34)
  have HPS := hide hps
  have HW4 := hide hw4
  clear hb3 h34 hO hps hw4 HR2 HV2 HU2 d0 d1 d2 g0 g1
  go_upto_region 4 with fail
  rw [HW4.out]
  clear HW4
  obtain ⟨WZ, hWZ⟩ : ∃ WZ, ((w4.setCell ⟨w.heap.size + 2, 0, none⟩ (.int .i64 0)).setCell ⟨w.heap.size + 2, 1, none⟩ (.int .i64 0)).setCell ⟨w.heap.size + 2, 2, none⟩ (.slice none 0 0) = WZ := ⟨_, rfl⟩
  obtain ⟨hz, hzb, -⟩ := HR4.out.fin (.int .i64 0) (.int .i64 0) (.slice none 0 0) WZ hWZ
  obtain ⟨⟨e0, e1, e2⟩, f0, f1, f2⟩ := HR4.out.res.tri
  have HWZ := hide hWZ
  have HZ := hide hz
  clear hz hWZ
  go_wp2
  rw [HWZ.out]
  clear e0 e1 e2 f0 f1 f2
  obtain ⟨⟨e0, e1, e2⟩, -⟩ := HZ.out.tri
  exact bodyPost_ret (v := .tuple #[rv 0 0 (.slice none 0 0), .bool false]) (by simp [results, Tryz.results31, go_sem, e0, e1, e2]) rfl ⟨⟨_, [], rfl, OwnP.nil _ _, rfl⟩, hzb⟩
set_option maxRecDepth 20000 in
set_option maxHeartbeats 8000000 in
theorem impl_hear_ok (id ver : Int) (v : Value) (bs : Brs) (wver : Int) (u : Value) (ws : Brs) (w : World) (hv : BrsOf w v bs) (hf : FineS bs) (hu : BrsOf w u ws) (hf2 : FineS ws) (hkk : KK w) (hb : GdR ⟨id, ver, bs⟩) (hw0 : GdW wver ws) (hm : (mge bs ws).length ≤ 12) :
    Calls Tryz.prog 31 #[rv id ver v, wv wver u] w fun e w' => (∃ v ps, e = .returned (.tuple #[rv id (if ver < wver then wver else ver) v, .bool true]) ∧ OwnP w' w.heap.size v ps ∧ bsP ps = mge bs ws) ∧ Below w.heap.size w w' := by
  have HF := hide hf
  have HF2 := hide hf2
  have HK := hide hkk
  obtain ⟨a1, c1, rfl⟩ := hv.form
  obtain ⟨a2, c2, rfl⟩ := hu.form
  obtain ⟨W, hW⟩ : ∃ W, ((w.alloc (.cells #[.int .i64 id, .int .i64 ver, .slice a1 bs.length c1] 34)).alloc (.cells #[.int .i64 wver, .slice a2 ws.length c2] 45)).alloc (.cells #[.int .i64 0, .int .i64 0, .slice none 0 0] 34) = W := ⟨_, rfl⟩
  have HR := hide (show R3 w W id ver (.slice a1 bs.length c1) wver (.slice a2 ws.length c2) from by rw [← hW]; exact R3.new w _ _ _ _ _)
  have HV := hide (hv.below HR.out.low)
  have HU := hide (hu.below HR.out.low)
  have HW := hide hW
  obtain ⟨⟨d0, d1, d2⟩, -⟩ := HR.out.arg.tri
  rw [← hW] at d0 d1 d2
  clear hv hf hu hf2 hkk hW
  have HB := hide (show BP true (GdR ⟨id, ver, bs⟩) from ⟨fun _ => hb, fun _ => rfl⟩)
  have hw : BP true (GdW wver ws) := ⟨fun _ => hw0, fun _ => rfl⟩
  have HX := hide hw
  have HM := hide (show BP true (GdT bs ∧ GdT ws ∧ (mge bs ws).length ≤ 12) from ⟨fun _ => ⟨hb.2.2.1, hw0.2.1, hm⟩, fun _ => rfl⟩)
  obtain ⟨xv, hxv⟩ : ∃ xv, (if ver < wver then wver else ver) = xv := ⟨_, rfl⟩
  rw [hxv]
  have HXV := hide hxv
  clear hb hw hw0 hm hxv
  go_enter Tryz.func31, Tryz.ntmps31
  go_wp2_with fail
  rw [HW.out]
  clear HW d0 d1 d2
  refine (impl_goodR id ver _ bs true _ HV.out HF.out (HK.out.below HR.out.low) HB.out).mono ?_
  rintro e w1 ⟨rfl, hb1⟩
  have HR1 := hide (HR.out.down hb1)
  have HV1 := hide (HV.out.below hb1)
  have HU1 := hide (HU.out.below hb1)
  obtain ⟨⟨g0, g1⟩, -⟩ := HR1.out.wrd.duo
  clear hb1 HR HV HU
  go_wp2_with fail
  refine (impl_goodWord wver _ ws true _ HU1.out HF2.out (HK.out.below HR1.out.low) HX.out).mono ?_
  rintro e w2 ⟨rfl, hb2⟩
  have HR2 := hide (HR1.out.down hb2)
  have HV2 := hide (HV1.out.below hb2)
  have HU2 := hide (HU1.out.below hb2)
  clear hb2 HR1 HV1 HU1 g0 g1
  obtain ⟨⟨d0, d1, d2⟩, -⟩ := HR2.out.arg.tri
  obtain ⟨⟨g0, g1⟩, -⟩ := HR2.out.wrd.duo
  go_wp2_with fail
  refine (impl_mge _ _ bs ws true (mge bs ws) _ HV2.out HU2.out HF.out HF2.out (HK.out.below HR2.out.low) HM.out ⟨fun _ => rfl, fun h => (by cases h)⟩).mono ?_
  rintro e w3 ⟨⟨y, ps, rfl, hO, hps⟩, hb3⟩
  obtain ⟨ay, cy, rfl⟩ := hO.form
  obtain ⟨w4, hw4⟩ : ∃ w4, w3.alloc (.cells #[.slice ay ps.length cy] 32) = w4 := ⟨_, rfl⟩
  have h34 : Below w3.heap.size w3 w4 := by rw [← hw4]; exact low1 _ _
  have HT := hide (show M.One w4 w3.heap.size (.slice ay ps.length cy) 32 from by rw [← hw4]; exact heap_alloc_new _ _)
  have HR4 := hide ((HR2.out.down hb3).down h34)
  have HB2 := hide HR2.out.big
  have HO4 := hide (hO.down h34)
  have HPS := hide hps
  have HW4 := hide hw4
  clear hb3 h34 hO hps hw4 HR2 HV2 HU2 d0 d1 d2 g0 g1
  go_upto_region 4 with fail
  rw [HW4.out]
  clear HW4
  obtain ⟨⟨d0, d1, d2⟩, -⟩ := HR4.out.arg.tri
  obtain ⟨⟨g0, g1⟩, -⟩ := HR4.out.wrd.duo
  obtain ⟨⟨e0, e1, e2⟩, f0, f1, f2⟩ := HR4.out.res.tri
  have t0 := HT.out.cell
  have HB5 := hide (show w.heap.size + 3 ≤ w2.heap.size from HB2.out)
  by_cases hlt : ver < wver
  · have hx : wver = xv := by rw [← HXV.out, if_pos hlt]
    subst hx
    have hmax : max ver wver = wver := by omega
    obtain ⟨WZ, hWZ⟩ : ∃ WZ, ((w4.setCell ⟨w.heap.size + 2, 0, none⟩ (.int .i64 id)).setCell ⟨w.heap.size + 2, 1, none⟩ (.int .i64 wver)).setCell ⟨w.heap.size + 2, 2, none⟩ (.slice ay ps.length cy) = WZ := ⟨_, rfl⟩
    obtain ⟨hz, hzb, hzo⟩ := HR4.out.fin (.int .i64 id) (.int .i64 wver) (.slice ay ps.length cy) WZ hWZ
    have HZO := hide (hzo _ _ _ HO4.out HB5.out)
    have HWZ := hide hWZ
    have HZ := hide hz
    clear hz hWZ hzo
    go_wp2
    first | rw [HWZ.out] | (rw [hmax]; rw [HWZ.out])
    obtain ⟨⟨s0, s1, s2⟩, -⟩ := HZ.out.tri
    exact bodyPost_ret (v := .tuple #[rv id wver (.slice ay ps.length cy), .bool true]) (by simp [results, Tryz.results31, go_sem, s0, s1, s2]) rfl (by first | exact ⟨⟨_, ps, rfl, HZO.out, HPS.out⟩, hzb⟩ | exact ⟨⟨_, rfl, ps, HZO.out, HPS.out⟩, hzb⟩)
  · have hx : ver = xv := by rw [← HXV.out, if_neg hlt]
    subst hx
    have hmax : max ver wver = ver := by omega
    obtain ⟨WZ, hWZ⟩ : ∃ WZ, ((w4.setCell ⟨w.heap.size + 2, 0, none⟩ (.int .i64 id)).setCell ⟨w.heap.size + 2, 1, none⟩ (.int .i64 ver)).setCell ⟨w.heap.size + 2, 2, none⟩ (.slice ay ps.length cy) = WZ := ⟨_, rfl⟩
    obtain ⟨hz, hzb, hzo⟩ := HR4.out.fin (.int .i64 id) (.int .i64 ver) (.slice ay ps.length cy) WZ hWZ
    have HZO := hide (hzo _ _ _ HO4.out HB5.out)
    have HWZ := hide hWZ
    have HZ := hide hz
    clear hz hWZ hzo
    go_wp2
    first | rw [HWZ.out] | (rw [hmax]; rw [HWZ.out])
    obtain ⟨⟨s0, s1, s2⟩, -⟩ := HZ.out.tri
    exact bodyPost_ret (v := .tuple #[rv id ver (.slice ay ps.length cy), .bool true]) (by simp [results, Tryz.results31, go_sem, s0, s1, s2]) rfl (by first | exact ⟨⟨_, ps, rfl, HZO.out, HPS.out⟩, hzb⟩ | exact ⟨⟨_, rfl, ps, HZO.out, HPS.out⟩, hzb⟩)
end Go.Proofs.YtfkeokglifpkoaaGreatDoor

/-
  The law of HearWord: both texts tell the same. Condition: the table knownKinds reads as the program's text lays it.
-/
namespace Go.Proofs.YtfkeokglifpkoaaGreatDoor
open Go.RowKit M
theorem law_hearWord (id ver : Int) (v : Value) (bs : Brs) (wver : Int) (u : Value) (ys : Brs) (w : World) (hv : BrsOf w v bs) (hf : Fine bs) (hu : BrsOf w u ys) (hf2 : Fine ys) (hkk : KK w) :
    Calls Tryz.prog 7 #[rv id ver v, wv wver u] w fun e w' => e = .returned (.bool true) ∧ Below w.heap.size w w' :=
  law_HearWord_run id ver v bs wver u ys w hv hf hu hf2 hkk (fun hs hs2 => by
    obtain ⟨b, hb⟩ := bp_ex (GdR ⟨id, ver, bs⟩)
    cases b
    · exact ⟨0, 0, [], false, by simp, fun v u w h hco h2 hco2 => spec_hear_no id ver v bs wver u ys w h hs h2 hs2 hco hco2 hb, fun v u w h h2 hk => impl_hear_no id ver v bs wver u ys w h hs h2 hs2 hk hb⟩
    have hg : GdR ⟨id, ver, bs⟩ := hb.1 rfl
    obtain ⟨c, hc⟩ := bp_ex (GdW wver ys)
    cases c
    · exact ⟨0, 0, [], false, by simp, fun v u w h hco h2 hco2 => spec_hear_word id ver v bs wver u ys w h hs h2 hs2 hco hco2 hg hc, fun v u w h h2 hk => impl_hear_word id ver v bs wver u ys w h hs h2 hs2 hk hg hc⟩
    have hw : GdW wver ys := hc.1 rfl
    by_cases hm : (mge bs ys).length ≤ 12
    case neg => exact ⟨0, 0, [], false, by simp, fun v u w h hco h2 hco2 => spec_hear_many id ver v bs wver u ys w h hs h2 hs2 hco hco2 hg hw hm, fun v u w h h2 hk => impl_hear_many id ver v bs wver u ys w h hs h2 hs2 hk hg hw hm⟩
    have h2 : GdU (mge bs ys) := mge_good hg.2.2.1.2 hw.2.1.2.1
    exact ⟨id, (if ver < wver then wver else ver), mge bs ys, true, ⟨hm, fun b hb => ⟨(h2.1 b hb).short, (h2.1 b hb).names⟩⟩, fun v u w h hco h2 hco2 => spec_hear_ok id ver v bs wver u ys w h hs h2 hs2 hco hco2 hg hw hm, fun v u w h h2 hk => impl_hear_ok id ver v bs wver u ys w h hs h2 hs2 hk hg hw hm⟩)
end Go.Proofs.YtfkeokglifpkoaaGreatDoor

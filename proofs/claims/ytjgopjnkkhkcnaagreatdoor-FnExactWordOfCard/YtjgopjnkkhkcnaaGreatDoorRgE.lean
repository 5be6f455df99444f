/-
  WordOf in both texts. Condition of the program's: the table knownKinds reads as its text lays it.
-/
import Derived.Test.YtjgopjnkkhkcnaaGreatDoorRgK
import Derived.Test.YtjgopjnkkhkcnaaGreatDoorRgS
import Derived.Deep.RegionWith
namespace Go.Proofs.YtjgopjnkkhkcnaaGreatDoor
open Go.RowKit M
open Go.Sort (grow)
set_option maxRecDepth 20000 in
set_option maxHeartbeats 4000000 in
theorem spec_word_no (id ver : Int) (v : Value) (bs : Brs) (w : World) (hv : BrsOf w v bs) (hf : FineS bs) (hco : CapOk v) (hb : BP false (GdR ⟨id, ver, bs⟩)) :
    Calls Tryz.prog 22 #[rv id ver v] w fun e w' => (∃ v ps, e = .returned (.tuple #[wv 0 v, .bool false]) ∧ OwnP w' w.heap.size v ps ∧ bsP ps = []) ∧ Below w.heap.size w w' := by
  have HF := hide hf
  have HB := hide hb
  have HCO := hide hco
  obtain ⟨a1, c1, rfl⟩ := hv.form
  obtain ⟨W, hW⟩ : ∃ W, (w.alloc (.cells #[.int .i64 id, .int .i64 ver, .slice a1 bs.length c1] 32)).alloc (.cells #[.int .i64 0, .slice none 0 0] 43) = W := ⟨_, rfl⟩
  have HR := hide (show R2W w W id ver (.slice a1 bs.length c1) from by rw [← hW]; exact R2W.new w _ _ _)
  have HV := hide (hv.below HR.out.low)
  have HW := hide hW
  obtain ⟨⟨d0, d1, d2⟩, -⟩ := HR.out.arg.tri
  rw [← hW] at d0 d1 d2
  clear hv hf hb hco hW
  have HBX := hide HB.out
  go_enter Tryz.func22, Tryz.ntmps22
  go_wp2_with fail
  rw [HW.out]
  clear HW d0 d1 d2
  refine (spec_goodR id ver _ bs false _ HV.out HF.out HCO.out HBX.out).mono ?_
  rintro e w1 ⟨rfl, hb1⟩
  have HR1 := hide (HR.out.down hb1)
  obtain ⟨WZ, hWZ⟩ : ∃ WZ, (w1.setCell ⟨w.heap.size + 1, 0, none⟩ (.int .i64 0)).setCell ⟨w.heap.size + 1, 1, none⟩ (.slice none 0 0) = WZ := ⟨_, rfl⟩
  obtain ⟨hz, hzb, -⟩ := HR1.out.fin (.int .i64 0) (.slice none 0 0) WZ hWZ
  obtain ⟨⟨e0, e1⟩, f0, f1⟩ := HR1.out.res.duo
  have HWZ := hide hWZ
  have HZ := hide hz
  clear hz hWZ
  go_wp2
  rw [HWZ.out]
  clear e0 e1 f0 f1
  obtain ⟨⟨e0, e1⟩, -⟩ := HZ.out.duo
  exact bodyPost_ret (v := .tuple #[wv 0 (.slice none 0 0), .bool false]) (by simp [results, Tryz.results22, go_sem, e0, e1]) rfl ⟨⟨_, [], rfl, OwnP.nil _ _, rfl⟩, hzb⟩
set_option maxRecDepth 20000 in
set_option maxHeartbeats 4000000 in
theorem impl_word_no (id ver : Int) (v : Value) (bs : Brs) (w : World) (hv : BrsOf w v bs) (hf : FineS bs) (hkk : KK w) (hb : BP false (GdR ⟨id, ver, bs⟩)) :
    Calls Tryz.prog 23 #[rv id ver v] w fun e w' => (∃ v ps, e = .returned (.tuple #[wv 0 v, .bool false]) ∧ OwnP w' w.heap.size v ps ∧ bsP ps = []) ∧ Below w.heap.size w w' := by
  have HF := hide hf
  have HB := hide hb
  have HK := hide hkk
  obtain ⟨a1, c1, rfl⟩ := hv.form
  obtain ⟨W, hW⟩ : ∃ W, (w.alloc (.cells #[.int .i64 id, .int .i64 ver, .slice a1 bs.length c1] 32)).alloc (.cells #[.int .i64 0, .slice none 0 0] 43) = W := ⟨_, rfl⟩
  have HR := hide (show R2W w W id ver (.slice a1 bs.length c1) from by rw [← hW]; exact R2W.new w _ _ _)
  have HV := hide (hv.below HR.out.low)
  have HW := hide hW
  obtain ⟨⟨d0, d1, d2⟩, -⟩ := HR.out.arg.tri
  rw [← hW] at d0 d1 d2
  clear hv hf hb hkk hW
  have HBX := hide HB.out
  go_enter Tryz.func23, Tryz.ntmps23
  go_wp2_with fail
  rw [HW.out]
  clear HW d0 d1 d2
  refine (impl_goodR id ver _ bs false _ HV.out HF.out (HK.out.below HR.out.low) HBX.out).mono ?_
  rintro e w1 ⟨rfl, hb1⟩
  have HR1 := hide (HR.out.down hb1)
  obtain ⟨WZ, hWZ⟩ : ∃ WZ, (w1.setCell ⟨w.heap.size + 1, 0, none⟩ (.int .i64 0)).setCell ⟨w.heap.size + 1, 1, none⟩ (.slice none 0 0) = WZ := ⟨_, rfl⟩
  obtain ⟨hz, hzb, -⟩ := HR1.out.fin (.int .i64 0) (.slice none 0 0) WZ hWZ
  obtain ⟨⟨e0, e1⟩, f0, f1⟩ := HR1.out.res.duo
  have HWZ := hide hWZ
  have HZ := hide hz
  clear hz hWZ
  go_wp2
  rw [HWZ.out]
  clear e0 e1 f0 f1
  obtain ⟨⟨e0, e1⟩, -⟩ := HZ.out.duo
  exact bodyPost_ret (v := .tuple #[wv 0 (.slice none 0 0), .bool false]) (by simp [results, Tryz.results23, go_sem, e0, e1]) rfl ⟨⟨_, [], rfl, OwnP.nil _ _, rfl⟩, hzb⟩
set_option maxRecDepth 20000 in
set_option maxHeartbeats 4000000 in
theorem spec_word_ok (id ver : Int) (v : Value) (bs : Brs) (w : World) (hv : BrsOf w v bs) (hf : FineS bs) (hco : CapOk v) (hb : GdR ⟨id, ver, bs⟩) :
    Calls Tryz.prog 22 #[rv id ver v] w fun e w' => (∃ v ps, e = .returned (.tuple #[wv ver v, .bool true]) ∧ OwnP w' w.heap.size v ps ∧ bsP ps = bs) ∧ Below w.heap.size w w' := by
  have HF := hide hf
  have HB := hide hb
  have HCO := hide hco
  obtain ⟨a1, c1, rfl⟩ := hv.form
  obtain ⟨W, hW⟩ : ∃ W, (w.alloc (.cells #[.int .i64 id, .int .i64 ver, .slice a1 bs.length c1] 32)).alloc (.cells #[.int .i64 0, .slice none 0 0] 43) = W := ⟨_, rfl⟩
  have HR := hide (show R2W w W id ver (.slice a1 bs.length c1) from by rw [← hW]; exact R2W.new w _ _ _)
  have HV := hide (hv.below HR.out.low)
  have HW := hide hW
  obtain ⟨⟨d0, d1, d2⟩, -⟩ := HR.out.arg.tri
  rw [← hW] at d0 d1 d2
  clear hv hf hb hco hW
  have HBX := hide (show BP true (GdR ⟨id, ver, bs⟩) from ⟨fun _ => HB.out, fun _ => rfl⟩)
  go_enter Tryz.func22, Tryz.ntmps22
  go_wp2_with fail
  rw [HW.out]
  clear HW d0 d1 d2
  refine (spec_goodR id ver _ bs true _ HV.out HF.out HCO.out HBX.out).mono ?_
  rintro e w1 ⟨rfl, hb1⟩
  have HR1 := hide (HR.out.down hb1)
  have HV1 := hide (HV.out.below hb1)
  obtain ⟨⟨d0, d1, d2⟩, -⟩ := HR1.out.arg.tri
  obtain ⟨⟨e0, e1⟩, f0, f1⟩ := HR1.out.res.duo
  have HG1 := hide HB.out.2.2.1.2
  have h1001 : bs.length ≤ 1001 := by have h12 : bs.length ≤ 12 := HB.out.2.2.1.1; omega
  have HB1 := hide HR1.out.big
  have HRD := hide (HR1.out.down (Below.refl w1.heap.size w1).drew)
  have HVD := hide (HV1.out.below (Below.refl w1.heap.size w1).drew)
  clear hb1 HR HV HR1 HV1
  go_upto_region 3 with fail
  go_region_with (go_at_call 69; refine (spec_own _ bs _ HVD.out h1001 HG1.out).mono ?_; rintro e w4 ⟨⟨r, ps, rfl, hO, hps⟩, hb4⟩; have HR4 := hide (HRD.out.down hb4); obtain ⟨⟨m0, m1, m2⟩, -⟩ := HR4.out.arg.tri; obtain ⟨⟨n0, n1⟩, n2, n3⟩ := HR4.out.res.duo; have HO4 := hide hO; have HPS := hide hps; obtain ⟨ar, cr, rfl⟩ := hO.form; clear hO hps)
  all_goals
    obtain ⟨WZ, hWZ⟩ : ∃ WZ, (w4.setCell ⟨w.heap.size + 1, 0, none⟩ (.int .i64 ver)).setCell ⟨w.heap.size + 1, 1, none⟩ (.slice ar ps.length cr) = WZ := ⟨_, rfl⟩
    obtain ⟨hz, hzb, hzo⟩ := HR4.out.fin (.int .i64 ver) (.slice ar ps.length cr) WZ hWZ
    have HZO := hide (hzo _ _ _ HO4.out HB1.out)
    have HWZ := hide hWZ
    have HZ := hide hz
    clear hz hWZ hzo
    go_wp2
    try rw [HWZ.out]
    obtain ⟨⟨s0, s1⟩, -⟩ := HZ.out.duo
    exact bodyPost_ret (v := .tuple #[wv ver (.slice ar ps.length cr), .bool true]) (by simp [results, Tryz.results22, go_sem, s0, s1]) rfl ⟨⟨_, ps, rfl, HZO.out, HPS.out⟩, hzb⟩
set_option maxRecDepth 20000 in
set_option maxHeartbeats 4000000 in
theorem impl_word_ok (id ver : Int) (v : Value) (bs : Brs) (w : World) (hv : BrsOf w v bs) (hf : FineS bs) (hkk : KK w) (hb : GdR ⟨id, ver, bs⟩) :
    Calls Tryz.prog 23 #[rv id ver v] w fun e w' => (∃ v ps, e = .returned (.tuple #[wv ver v, .bool true]) ∧ OwnP w' w.heap.size v ps ∧ bsP ps = bs) ∧ Below w.heap.size w w' := by
  have HF := hide hf
  have HB := hide hb
  have HK := hide hkk
  obtain ⟨a1, c1, rfl⟩ := hv.form
  obtain ⟨W, hW⟩ : ∃ W, (w.alloc (.cells #[.int .i64 id, .int .i64 ver, .slice a1 bs.length c1] 32)).alloc (.cells #[.int .i64 0, .slice none 0 0] 43) = W := ⟨_, rfl⟩
  have HR := hide (show R2W w W id ver (.slice a1 bs.length c1) from by rw [← hW]; exact R2W.new w _ _ _)
  have HV := hide (hv.below HR.out.low)
  have HW := hide hW
  obtain ⟨⟨d0, d1, d2⟩, -⟩ := HR.out.arg.tri
  rw [← hW] at d0 d1 d2
  clear hv hf hb hkk hW
  have HBX := hide (show BP true (GdR ⟨id, ver, bs⟩) from ⟨fun _ => HB.out, fun _ => rfl⟩)
  go_enter Tryz.func23, Tryz.ntmps23
  go_wp2_with fail
  rw [HW.out]
  clear HW d0 d1 d2
  refine (impl_goodR id ver _ bs true _ HV.out HF.out (HK.out.below HR.out.low) HBX.out).mono ?_
  rintro e w1 ⟨rfl, hb1⟩
  have HR1 := hide (HR.out.down hb1)
  have HV1 := hide (HV.out.below hb1)
  obtain ⟨⟨d0, d1, d2⟩, -⟩ := HR1.out.arg.tri
  clear hb1 HR HV
  go_wp2_with fail
  refine (keeper_of id ver _ bs _ HV1.out HF.out HB.out.2.2.1.2.1).mono ?_
  rintro e w3 ⟨⟨g, u, ps, rfl, hKP, hps⟩, hb3⟩
  have HRF := hide (HR1.out.down hb3)
  have HPS := hide hps
  have HOF := hide hKP.own
  have HB1 := hide HR1.out.big
  have HKB := hide hKP.box
  obtain ⟨ar, cr, rfl⟩ := hKP.own.form
  obtain ⟨⟨y0, y1, y2⟩, -⟩ := hKP.box.tri
  obtain ⟨⟨e0, e1⟩, f0, f1⟩ := HRF.out.res.duo
  clear hb3 hKP hps d0 d1 d2 HR1 HV1
  go_upto_region 4 with fail
  go_region
  all_goals
    obtain ⟨WZ, hWZ⟩ : ∃ WZ, (w3.setCell ⟨w.heap.size + 1, 0, none⟩ (.int .i64 ver)).setCell ⟨w.heap.size + 1, 1, none⟩ (.slice ar ps.length cr) = WZ := ⟨_, rfl⟩
    obtain ⟨hz, hzb, hzo⟩ := HRF.out.fin (.int .i64 ver) (.slice ar ps.length cr) WZ hWZ
    have hdr : Below WZ.heap.size WZ WZ.drew := (Below.refl _ _).drew
    have HZO := hide ((hzo _ _ _ HOF.out HB1.out).down hdr)
    have hz := hz.down hdr
    have hzb := hzb.trans (hdr.mono hzb.size)
    have HWZ := hide hWZ
    have HZ := hide hz
    clear hz hWZ hzo
    go_wp2
    try rw [HWZ.out]
    obtain ⟨⟨s0, s1⟩, -⟩ := HZ.out.duo
    exact bodyPost_ret (v := .tuple #[wv ver (.slice ar ps.length cr), .bool true]) (by simp [results, Tryz.results23, go_sem, s0, s1]) rfl ⟨⟨_, ps, rfl, HZO.out, HPS.out⟩, hzb⟩
end Go.Proofs.YtjgopjnkkhkcnaaGreatDoor

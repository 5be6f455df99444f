/-
  TakeLead in the program's text. Condition: the table knownKinds reads as its text lays it.
-/
import Derived.Test.YtjgopjnkkhkcnaaGreatDoorRgK
namespace Go.Proofs.YtjgopjnkkhkcnaaGreatDoor
open Go.RowKit M
open Go.Sort (grow)
namespace M
theorem KP.setVer {W : World} {B g : Nat} {u : Value} {ps : Prs} {id ver : Int} (h : KP W B g u ps id ver) (n : Int) : KP (W.setCell ⟨g, 2, none⟩ (.int .i64 n)) B g u ps id n :=
  ⟨h.box.tri2 _, h.own.set_off h.box (by decide) (by decide) _, h.lo⟩
theorem R2.set_off {w W : World} {id ver : Int} {v : Value} (h : R2 w W id ver v) {g i : Nat} (hg : w.heap.size + 2 ≤ g) (x : Value) : R2 w (W.setCell ⟨g, i, none⟩ x) id ver v :=
  ⟨h.low.setCell (p := ⟨g, i, none⟩) (by show w.heap.size ≤ g; omega) _, h.arg.off (by omega) _, h.res.off (by omega) _, by rw [World.size_setCell]; exact h.big⟩
end M
set_option maxRecDepth 20000 in
set_option maxHeartbeats 4000000 in
theorem impl_lead_no (id ver : Int) (v : Value) (bs : Brs) (b : Bool) (w : World) (hv : BrsOf w v bs) (hf : FineS bs) (hkk : KK w) (hb : BP b (GdR ⟨id, ver, bs⟩)) (hno : (b && nxb ver id) = false) :
    Calls Tryz.prog 21 #[rv id ver v] w fun e w' => (∃ v ps, e = .returned (.tuple #[rv 0 0 v, .bool false]) ∧ OwnP w' w.heap.size v ps ∧ bsP ps = []) ∧ Below w.heap.size w w' := by
  have HF := hide hf
  have HB := hide hb
  have HK := hide hkk
  obtain ⟨a1, c1, rfl⟩ := hv.form
  obtain ⟨W, hW⟩ : ∃ W, (w.alloc (.cells #[.int .i64 id, .int .i64 ver, .slice a1 bs.length c1] 32)).alloc (.cells #[.int .i64 0, .int .i64 0, .slice none 0 0] 32) = W := ⟨_, rfl⟩
  have HR := hide (show R2 w W id ver (.slice a1 bs.length c1) from by rw [← hW]; exact R2.new w _ _ _)
  have HV := hide (hv.below HR.out.low)
  have HW := hide hW
  obtain ⟨⟨d0, d1, d2⟩, -⟩ := HR.out.arg.tri
  rw [← hW] at d0 d1 d2
  clear hv hf hb hkk hW
  cases b
  · go_enter Tryz.func21, Tryz.ntmps21
    go_wp2_with fail
    rw [HW.out]
    clear HW d0 d1 d2
    refine (impl_goodR id ver _ bs false _ HV.out HF.out (HK.out.below HR.out.low) HB.out).mono ?_
    rintro e w1 ⟨rfl, hb1⟩
    have HR1 := hide (HR.out.down hb1)
    obtain ⟨WZ, hWZ⟩ : ∃ WZ, ((w1.setCell ⟨w.heap.size + 1, 0, none⟩ (.int .i64 0)).setCell ⟨w.heap.size + 1, 1, none⟩ (.int .i64 0)).setCell ⟨w.heap.size + 1, 2, none⟩ (.slice none 0 0) = WZ := ⟨_, rfl⟩
    obtain ⟨hz, hzb, -⟩ := HR1.out.fin (.int .i64 0) (.int .i64 0) (.slice none 0 0) WZ hWZ
    obtain ⟨⟨e0, e1, e2⟩, f0, f1, f2⟩ := HR1.out.res.tri
    have HWZ := hide hWZ
    have HZ := hide hz
    clear hz hWZ
    go_wp2
    rw [HWZ.out]
    clear e0 e1 e2 f0 f1 f2
    obtain ⟨⟨e0, e1, e2⟩, -⟩ := HZ.out.tri
    exact bodyPost_ret (v := .tuple #[rv 0 0 (.slice none 0 0), .bool false]) (by simp [results, Tryz.results21, go_sem, e0, e1, e2]) rfl ⟨⟨_, [], rfl, OwnP.nil _ _, rfl⟩, hzb⟩
  · have HN := hide (show nxb ver id = false from by simpa using hno)
    go_enter Tryz.func21, Tryz.ntmps21
    go_wp2_with fail
    rw [HW.out]
    clear HW d0 d1 d2
    refine (impl_goodR id ver _ bs true _ HV.out HF.out (HK.out.below HR.out.low) HB.out).mono ?_
    rintro e w1 ⟨rfl, hb1⟩
    have HR1 := hide (HR.out.down hb1)
    obtain ⟨⟨d0, d1, d2⟩, -⟩ := HR1.out.arg.tri
    go_wp2_with fail
    refine (impl_next _ _ _).mono ?_
    rw [HN.out]
    rintro e w2 ⟨rfl, hw2⟩
    rw [hw2]
    clear hw2 w2
    obtain ⟨WZ, hWZ⟩ : ∃ WZ, ((w1.setCell ⟨w.heap.size + 1, 0, none⟩ (.int .i64 0)).setCell ⟨w.heap.size + 1, 1, none⟩ (.int .i64 0)).setCell ⟨w.heap.size + 1, 2, none⟩ (.slice none 0 0) = WZ := ⟨_, rfl⟩
    obtain ⟨hz, hzb, -⟩ := HR1.out.fin (.int .i64 0) (.int .i64 0) (.slice none 0 0) WZ hWZ
    obtain ⟨⟨e0, e1, e2⟩, f0, f1, f2⟩ := HR1.out.res.tri
    have HWZ := hide hWZ
    have HZ := hide hz
    clear hz hWZ
    go_wp2
    rw [HWZ.out]
    clear e0 e1 e2 f0 f1 f2
    obtain ⟨⟨e0, e1, e2⟩, -⟩ := HZ.out.tri
    exact bodyPost_ret (v := .tuple #[rv 0 0 (.slice none 0 0), .bool false]) (by simp [results, Tryz.results21, go_sem, e0, e1, e2]) rfl ⟨⟨_, [], rfl, OwnP.nil _ _, rfl⟩, hzb⟩
set_option maxRecDepth 20000 in
set_option maxHeartbeats 4000000 in
theorem impl_lead_ok (id ver : Int) (v : Value) (bs : Brs) (w : World) (hv : BrsOf w v bs) (hf : FineS bs) (hkk : KK w) (hb : GdR ⟨id, ver, bs⟩) (hno : nxb ver id = true) :
    Calls Tryz.prog 21 #[rv id ver v] w fun e w' => (∃ v ps, e = .returned (.tuple #[rv id (nx ver id) v, .bool true]) ∧ OwnP w' w.heap.size v ps ∧ bsP ps = bs) ∧ Below w.heap.size w w' := by
  have HF := hide hf
  have HB := hide hb
  have HK := hide hkk
  obtain ⟨a1, c1, rfl⟩ := hv.form
  obtain ⟨W, hW⟩ : ∃ W, (w.alloc (.cells #[.int .i64 id, .int .i64 ver, .slice a1 bs.length c1] 32)).alloc (.cells #[.int .i64 0, .int .i64 0, .slice none 0 0] 32) = W := ⟨_, rfl⟩
  have HR := hide (show R2 w W id ver (.slice a1 bs.length c1) from by rw [← hW]; exact R2.new w _ _ _)
  have HV := hide (hv.below HR.out.low)
  have HW := hide hW
  obtain ⟨⟨d0, d1, d2⟩, -⟩ := HR.out.arg.tri
  rw [← hW] at d0 d1 d2
  clear hv hf hb hkk hW
  have HBT := hide (show BP true (GdR ⟨id, ver, bs⟩) from ⟨fun _ => HB.out, fun _ => rfl⟩)
  have HN := hide hno
  have HNX := hide (nxa_yes hno)
  obtain ⟨n, hn⟩ : ∃ n, nx ver id = n := ⟨_, rfl⟩
  rw [hn] at HNX ⊢
  clear hno hn
  go_enter Tryz.func21, Tryz.ntmps21
  go_wp2_with fail
  rw [HW.out]
  clear HW d0 d1 d2
  refine (impl_goodR id ver _ bs true _ HV.out HF.out (HK.out.below HR.out.low) HBT.out).mono ?_
  rintro e w1 ⟨rfl, hb1⟩
  have HR1 := hide (HR.out.down hb1)
  have HV1 := hide (HV.out.below hb1)
  obtain ⟨⟨d0, d1, d2⟩, -⟩ := HR1.out.arg.tri
  clear hb1 HR HV
  go_wp2_with fail
  refine (impl_next _ _ _).mono ?_
  rw [HN.out, HNX.out]
  rintro e w2 ⟨rfl, hw2⟩
  rw [hw2]
  clear hw2 w2
  go_wp2_with fail
  refine (keeper_of id ver _ bs _ HV1.out HF.out HB.out.2.2.1.2.1).mono ?_
  rintro e w3 ⟨⟨g, u, ps, rfl, hKP, hps⟩, hb3⟩
  have HR3 := hide (HR1.out.down hb3)
  have HKP := hide hKP
  have HPS := hide hps
  have hgB : w.heap.size + 2 ≤ g := Nat.le_trans HR1.out.big hKP.lo
  obtain ⟨au, cu, rfl⟩ := hKP.own.form
  obtain ⟨⟨y0, y1, y2⟩, z0, z1, z2⟩ := hKP.box.tri
  obtain ⟨w4, hw4⟩ : ∃ w4, w3.setCell ⟨g, 2, none⟩ (.int .i64 n) = w4 := ⟨_, rfl⟩
  have HKP4 := hide (show KP w4 w1.heap.size g (.slice au ps.length cu) ps id n from by rw [← hw4]; exact hKP.setVer n)
  have HR4 := hide (show R2 w w4 id ver (.slice a1 bs.length c1) from by rw [← hw4]; exact HR3.out.set_off hgB _)
  have HW4 := hide hw4
  have HB1 := hide HR1.out.big
  clear hb3 hKP hps d0 d1 d2 HR1 HR3 HV1 hw4
  go_wp2_with fail
  rw [HW4.out]
  clear y0 y1 y2 z0 z1 z2 HW4
  refine (keeper_region id n g w1.heap.size _ ps _ HKP4.out).mono ?_
  rintro e w5 ⟨rfl, hb5⟩
  have HR5 := hide (HR4.out.down hb5)
  have HO5 := hide (HKP4.out.own.down hb5)
  obtain ⟨WZ, hWZ⟩ : ∃ WZ, ((w5.setCell ⟨w.heap.size + 1, 0, none⟩ (.int .i64 id)).setCell ⟨w.heap.size + 1, 1, none⟩ (.int .i64 n)).setCell ⟨w.heap.size + 1, 2, none⟩ (.slice au ps.length cu) = WZ := ⟨_, rfl⟩
  obtain ⟨hz, hzb, hzo⟩ := HR5.out.fin (.int .i64 id) (.int .i64 n) (.slice au ps.length cu) WZ hWZ
  have HZO := hide (hzo _ _ _ HO5.out HB1.out)
  obtain ⟨⟨e0, e1, e2⟩, f0, f1, f2⟩ := HR5.out.res.tri
  have HWZ := hide hWZ
  have HZ := hide hz
  clear hz hWZ hzo hb5 HKP HKP4 HR4 HR5 HO5
  go_wp2
  rw [HWZ.out]
  clear e0 e1 e2 f0 f1 f2
  obtain ⟨⟨e0, e1, e2⟩, -⟩ := HZ.out.tri
  exact bodyPost_ret (v := .tuple #[rv id n (.slice au ps.length cu), .bool true]) (by simp [results, Tryz.results21, go_sem, e0, e1, e2]) rfl ⟨⟨_, ps, rfl, HZO.out, HPS.out⟩, hzb⟩
end Go.Proofs.YtjgopjnkkhkcnaaGreatDoor

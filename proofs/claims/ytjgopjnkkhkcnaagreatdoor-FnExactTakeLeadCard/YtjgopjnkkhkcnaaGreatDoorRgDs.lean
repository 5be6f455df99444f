/-
  TakeLead in the specification's text.
-/
import Derived.Test.YtjgopjnkkhkcnaaGreatDoorRgS
namespace Go.Proofs.YtjgopjnkkhkcnaaGreatDoor
open Go.RowKit M
open Go.Sort (grow)
set_option maxRecDepth 20000 in
set_option maxHeartbeats 4000000 in
theorem spec_lead_no (id ver : Int) (v : Value) (bs : Brs) (b : Bool) (w : World) (hv : BrsOf w v bs) (hf : FineS bs) (hco : CapOk v) (hb : BP b (GdR ⟨id, ver, bs⟩)) (hno : (b && nxb ver id) = false) :
    Calls Tryz.prog 20 #[rv id ver v] w fun e w' => (∃ v ps, e = .returned (.tuple #[rv 0 0 v, .bool false]) ∧ OwnP w' w.heap.size v ps ∧ bsP ps = []) ∧ Below w.heap.size w w' := by
  have HF := hide hf
  have HB := hide hb
  have HCO := hide hco
  obtain ⟨a1, c1, rfl⟩ := hv.form
  obtain ⟨W, hW⟩ : ∃ W, (w.alloc (.cells #[.int .i64 id, .int .i64 ver, .slice a1 bs.length c1] 32)).alloc (.cells #[.int .i64 0, .int .i64 0, .slice none 0 0] 32) = W := ⟨_, rfl⟩
  have HR := hide (show R2 w W id ver (.slice a1 bs.length c1) from by rw [← hW]; exact R2.new w _ _ _)
  have HV := hide (hv.below HR.out.low)
  have HW := hide hW
  obtain ⟨⟨d0, d1, d2⟩, -⟩ := HR.out.arg.tri
  rw [← hW] at d0 d1 d2
  clear hv hf hb hco hW
  have HBX := hide HB.out
  cases b
  · go_enter Tryz.func20, Tryz.ntmps20
    go_wp2_with fail
    rw [HW.out]
    clear HW d0 d1 d2
    refine (spec_goodR id ver _ bs false _ HV.out HF.out HCO.out HBX.out).mono ?_
    rintro e w1 ⟨rfl, hb1⟩
    have HR1 := hide (HR.out.down hb1)
    obtain ⟨WZ, hWZ⟩ : ∃ WZ, ((w1.setCell ⟨w.heap.size + 1, 0, none⟩ (.int .i64 0)).setCell ⟨w.heap.size + 1, 1, none⟩ (.int .i64 0)).setCell ⟨w.heap.size + 1, 2, none⟩ (.slice none 0 0) = WZ := ⟨_, rfl⟩
    obtain ⟨hz, hzb, -⟩ := HR1.out.fin (.int .i64 0) (.int .i64 0) (.slice none 0 0) WZ hWZ
    obtain ⟨⟨e0, e1, e2⟩, f0, f1, f2⟩ := HR1.out.res.tri
    have HWZ := hide hWZ
    have HZ := hide hz
    clear hz hWZ
    go_wp2
    rw [HWZ.out]
    clear e0 e1 e2 f0 f1 f2
    obtain ⟨⟨e0, e1, e2⟩, -⟩ := HZ.out.tri
    exact bodyPost_ret (v := .tuple #[rv 0 0 (.slice none 0 0), .bool false]) (by simp [results, Tryz.results20, go_sem, e0, e1, e2]) rfl ⟨⟨_, [], rfl, OwnP.nil _ _, rfl⟩, hzb⟩
  · have HN := hide (show nxb ver id = false from by simpa using hno)
    go_enter Tryz.func20, Tryz.ntmps20
    go_wp2_with fail
    rw [HW.out]
    clear HW d0 d1 d2
    refine (spec_goodR id ver _ bs true _ HV.out HF.out HCO.out HBX.out).mono ?_
    rintro e w1 ⟨rfl, hb1⟩
    have HR1 := hide (HR.out.down hb1)
    obtain ⟨⟨d0, d1, d2⟩, -⟩ := HR1.out.arg.tri
    go_wp2_with fail
    refine (spec_next _ _ _).mono ?_
    rw [HN.out]
    rintro e w2 ⟨rfl, hw2⟩
    rw [hw2]
    clear hw2 w2
    obtain ⟨WZ, hWZ⟩ : ∃ WZ, ((w1.setCell ⟨w.heap.size + 1, 0, none⟩ (.int .i64 0)).setCell ⟨w.heap.size + 1, 1, none⟩ (.int .i64 0)).setCell ⟨w.heap.size + 1, 2, none⟩ (.slice none 0 0) = WZ := ⟨_, rfl⟩
    obtain ⟨hz, hzb, -⟩ := HR1.out.fin (.int .i64 0) (.int .i64 0) (.slice none 0 0) WZ hWZ
    obtain ⟨⟨e0, e1, e2⟩, f0, f1, f2⟩ := HR1.out.res.tri
    have HWZ := hide hWZ
    have HZ := hide hz
    clear hz hWZ
    go_wp2
    rw [HWZ.out]
    clear e0 e1 e2 f0 f1 f2
    obtain ⟨⟨e0, e1, e2⟩, -⟩ := HZ.out.tri
    exact bodyPost_ret (v := .tuple #[rv 0 0 (.slice none 0 0), .bool false]) (by simp [results, Tryz.results20, go_sem, e0, e1, e2]) rfl ⟨⟨_, [], rfl, OwnP.nil _ _, rfl⟩, hzb⟩
set_option maxRecDepth 20000 in
set_option maxHeartbeats 4000000 in
theorem spec_lead_ok (id ver : Int) (v : Value) (bs : Brs) (w : World) (hv : BrsOf w v bs) (hf : FineS bs) (hco : CapOk v) (hb : GdR ⟨id, ver, bs⟩) (hno : nxb ver id = true) :
    Calls Tryz.prog 20 #[rv id ver v] w fun e w' => (∃ v ps, e = .returned (.tuple #[rv id (nx ver id) v, .bool true]) ∧ OwnP w' w.heap.size v ps ∧ bsP ps = bs) ∧ Below w.heap.size w w' := by
  have HF := hide hf
  have HB := hide hb
  have HCO := hide hco
  obtain ⟨a1, c1, rfl⟩ := hv.form
  obtain ⟨W, hW⟩ : ∃ W, (w.alloc (.cells #[.int .i64 id, .int .i64 ver, .slice a1 bs.length c1] 32)).alloc (.cells #[.int .i64 0, .int .i64 0, .slice none 0 0] 32) = W := ⟨_, rfl⟩
  have HR := hide (show R2 w W id ver (.slice a1 bs.length c1) from by rw [← hW]; exact R2.new w _ _ _)
  have HV := hide (hv.below HR.out.low)
  have HW := hide hW
  obtain ⟨⟨d0, d1, d2⟩, -⟩ := HR.out.arg.tri
  rw [← hW] at d0 d1 d2
  clear hv hf hb hco hW
  have HBX := hide (show BP true (GdR ⟨id, ver, bs⟩) from ⟨fun _ => HB.out, fun _ => rfl⟩)
  have HN := hide hno
  have HNX := hide (nxa_yes hno)
  obtain ⟨n, hn⟩ : ∃ n, nx ver id = n := ⟨_, rfl⟩
  rw [hn] at HNX ⊢
  clear hno hn
  go_enter Tryz.func20, Tryz.ntmps20
  go_wp2_with fail
  rw [HW.out]
  clear HW d0 d1 d2
  refine (spec_goodR id ver _ bs true _ HV.out HF.out HCO.out HBX.out).mono ?_
  rintro e w1 ⟨rfl, hb1⟩
  have HR1 := hide (HR.out.down hb1)
  have HV1 := hide (HV.out.below hb1)
  obtain ⟨⟨d0, d1, d2⟩, -⟩ := HR1.out.arg.tri
  clear hb1 HR HV
  go_wp2_with fail
  refine (spec_next _ _ _).mono ?_
  rw [HN.out, HNX.out]
  rintro e w2 ⟨rfl, hw2⟩
  rw [hw2]
  clear hw2 w2
  go_wp2_with fail
  refine (spec_own16 id ver _ bs _ HV1.out HB.out.2.2.1).mono ?_
  rintro e w4 ⟨⟨r, ps, rfl, hO, hps⟩, hb4⟩
  have HR4 := hide (HR1.out.down hb4)
  have HPS := hide hps
  have HO4 := hide hO
  obtain ⟨ar, cr, rfl⟩ := hO.form
  have HB1 := hide HR1.out.big
  obtain ⟨W6, hW6⟩ : ∃ W6, (((w4.setCell ⟨w.heap.size, 0, none⟩ (.int .i64 id)).setCell ⟨w.heap.size, 1, none⟩ (.int .i64 ver)).setCell ⟨w.heap.size, 2, none⟩ (.slice ar ps.length cr)).setCell ⟨w.heap.size, 1, none⟩ (.int .i64 n) = W6 := ⟨_, rfl⟩
  have HR6 := hide (show R2 w W6 id n (.slice ar ps.length cr) from by
    rw [← hW6]
    exact ⟨(((HR4.out.low.setCell (p := ⟨w.heap.size, 0, none⟩) (Nat.le_refl _) _).setCell (p := ⟨w.heap.size, 1, none⟩) (Nat.le_refl _) _).setCell (p := ⟨w.heap.size, 2, none⟩) (Nat.le_refl _) _).setCell (p := ⟨w.heap.size, 1, none⟩) (Nat.le_refl _) _, (HR4.out.arg.put3 _ _ _).tri1 _, ((((HR4.out.res.off (by omega) _).off (by omega) _).off (by omega) _).off (by omega) _), by simp only [World.size_setCell]; exact HR4.out.big⟩)
  have HO6 := hide (show OwnP W6 w1.heap.size (.slice ar ps.length cr) ps from by
    have := HB1.out
    rw [← hW6]; exact (((HO4.out.set_low (by omega) _).set_low (by omega) _).set_low (by omega) _).set_low (by omega) _)
  obtain ⟨WZ, hWZ⟩ : ∃ WZ, ((W6.setCell ⟨w.heap.size + 1, 0, none⟩ (.int .i64 id)).setCell ⟨w.heap.size + 1, 1, none⟩ (.int .i64 n)).setCell ⟨w.heap.size + 1, 2, none⟩ (.slice ar ps.length cr) = WZ := ⟨_, rfl⟩
  obtain ⟨hz, hzb, hzo⟩ := HR6.out.fin (.int .i64 id) (.int .i64 n) (.slice ar ps.length cr) WZ hWZ
  have HZO := hide (hzo _ _ _ HO6.out HB1.out)
  obtain ⟨⟨d0, d1, d2⟩, d3, d4, d5⟩ := HR4.out.arg.tri
  obtain ⟨⟨e0, e1, e2⟩, f0, f1, f2⟩ := HR6.out.res.tri
  obtain ⟨⟨s0, s1, s2⟩, -⟩ := HR6.out.arg.tri
  rw [← hW6] at hWZ e0 e1 e2 f0 f1 f2 s0 s1 s2
  have HWZ := hide hWZ
  have HZ := hide hz
  clear hz hWZ hW6 hzo hb4 hO hps HR4 HR6 HO4 HO6 HR1
  go_wp2
  rw [HWZ.out]
  clear d0 d1 d2 d3 d4 d5 e0 e1 e2 f0 f1 f2 s0 s1 s2
  obtain ⟨⟨e0, e1, e2⟩, -⟩ := HZ.out.tri
  exact bodyPost_ret (v := .tuple #[rv id n (.slice ar ps.length cr), .bool true]) (by simp [results, Tryz.results20, go_sem, e0, e1, e2]) rfl ⟨⟨_, ps, rfl, HZO.out, HPS.out⟩, hzb⟩
end Go.Proofs.YtjgopjnkkhkcnaaGreatDoor

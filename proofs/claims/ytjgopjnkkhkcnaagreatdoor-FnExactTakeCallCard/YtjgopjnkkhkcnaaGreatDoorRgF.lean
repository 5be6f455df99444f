/-
  TakeCall in the program's text. Condition: the table knownKinds reads as its text lays it.
-/
import Derived.Test.YtjgopjnkkhkcnaaGreatDoorRgT
import Derived.Test.YtjgopjnkkhkcnaaGreatDoorRgD
namespace Go.Proofs.YtjgopjnkkhkcnaaGreatDoor
open Go.RowKit M
open Go.Sort (grow)
namespace M
theorem R2.chg {S : Nat → Prop} {w W W' : World} {id ver : Int} {v : Value} (h : R2 w W id ver v) (hc : Chg S W W') (hS : ∀ k, S k → w.heap.size + 2 ≤ k) : R2 w W' id ver v :=
  ⟨h.low.trans (hc.low (fun k hk => by have := hS k hk; omega) h.low.size), h.arg.chg hc (fun e => by have := hS _ e; omega), h.res.chg hc (fun e => by have := hS _ e; omega), Nat.le_trans h.big hc.size⟩
end M
set_option maxRecDepth 20000 in
set_option maxHeartbeats 4000000 in
theorem impl_call_no (id ver : Int) (v : Value) (bs : Brs) (k : Int) (x : ByteArray) (w : World) (hv : BrsOf w v bs) (hf : FineS bs) (hkk : KK w) (hb : BP false (GdR ⟨id, ver, bs⟩)) :
    Calls Tryz.prog 16 #[rv id ver v, .int .i64 k, .string x] w fun e w' => (∃ v ps, e = .returned (.tuple #[rv 0 0 v, .int .i64 1]) ∧ OwnP w' w.heap.size v ps ∧ bsP ps = []) ∧ Below w.heap.size w w' := by
  have HF := hide hf
  have HB := hide hb
  have HK := hide hkk
  obtain ⟨a1, c1, rfl⟩ := hv.form
  obtain ⟨W, hW⟩ : ∃ W, (w.alloc (.cells #[.int .i64 id, .int .i64 ver, .slice a1 bs.length c1] 32)).alloc (.cells #[.int .i64 0, .int .i64 0, .slice none 0 0] 32) = W := ⟨_, rfl⟩
  have HR := hide (show R2 w W id ver (.slice a1 bs.length c1) from by rw [← hW]; exact R2.new w _ _ _)
  have HV := hide (hv.below HR.out.low)
  have HW := hide hW
  obtain ⟨⟨d0, d1, d2⟩, -⟩ := HR.out.arg.tri
  rw [← hW] at d0 d1 d2
  clear hv hf hb hkk hW
  have HBX := hide HB.out
  go_enter Tryz.func16, Tryz.ntmps16
  go_wp2_with fail
  rw [HW.out]
  clear HW d0 d1 d2
  refine (impl_goodR id ver _ bs false _ HV.out HF.out (HK.out.below HR.out.low) HBX.out).mono ?_
  rintro e w1 ⟨rfl, hb1⟩
  have HR1 := hide (HR.out.down hb1)
  obtain ⟨WZ, hWZ⟩ : ∃ WZ, ((w1.setCell ⟨w.heap.size + 1, 0, none⟩ (.int .i64 0)).setCell ⟨w.heap.size + 1, 1, none⟩ (.int .i64 0)).setCell ⟨w.heap.size + 1, 2, none⟩ (.slice none 0 0) = WZ := ⟨_, rfl⟩
  obtain ⟨hz, hzb, -⟩ := HR1.out.fin (.int .i64 0) (.int .i64 0) (.slice none 0 0) WZ hWZ
  obtain ⟨⟨e0, e1, e2⟩, f0, f1, f2⟩ := HR1.out.res.tri
  have HWZ := hide hWZ
  have HZ := hide hz
  clear hz hWZ
  go_wp2
  rw [HWZ.out]
  clear e0 e1 e2 f0 f1 f2
  obtain ⟨⟨e0, e1, e2⟩, -⟩ := HZ.out.tri
  exact bodyPost_ret (v := .tuple #[rv 0 0 (.slice none 0 0), .int .i64 1]) (by simp [results, Tryz.results16, go_sem, e0, e1, e2]) rfl ⟨⟨_, [], rfl, OwnP.nil _ _, rfl⟩, hzb⟩
set_option maxRecDepth 20000 in
set_option maxHeartbeats 4000000 in
theorem impl_call_ok (my : St → Ev → Bool) (hmy : ∀ s e, BP (my s e) (May s e)) (id ver : Int) (v : Value) (bs : Brs) (k : Int) (x : ByteArray) (w : World) (hv : BrsOf w v bs) (hf : FineS bs) (hkk : KK w) (hb : GdR ⟨id, ver, bs⟩) (hx : x.size ≤ maxLen) :
    Calls Tryz.prog 16 #[rv id ver v, .int .i64 k, .string x] w fun e w' => (∃ v ps, e = .returned (.tuple #[rv id ver v, .int .i64 (tkc my ⟨id, ver, bs⟩ k x)]) ∧ OwnP w' w.heap.size v ps ∧ bsP ps = tkb my ⟨id, ver, bs⟩ k x) ∧ Below w.heap.size w w' := by
  have HF := hide hf
  have HB := hide hb
  have HK := hide hkk
  obtain ⟨a1, c1, rfl⟩ := hv.form
  obtain ⟨W, hW⟩ : ∃ W, (w.alloc (.cells #[.int .i64 id, .int .i64 ver, .slice a1 bs.length c1] 32)).alloc (.cells #[.int .i64 0, .int .i64 0, .slice none 0 0] 32) = W := ⟨_, rfl⟩
  have HR := hide (show R2 w W id ver (.slice a1 bs.length c1) from by rw [← hW]; exact R2.new w _ _ _)
  have HV := hide (hv.below HR.out.low)
  have HW := hide hW
  obtain ⟨⟨d0, d1, d2⟩, -⟩ := HR.out.arg.tri
  rw [← hW] at d0 d1 d2
  clear hv hf hb hkk hW
  have HBX := hide (show BP true (GdR ⟨id, ver, bs⟩) from ⟨fun _ => HB.out, fun _ => rfl⟩)
  have HMY := hide hmy
  clear hmy
  go_enter Tryz.func16, Tryz.ntmps16
  go_wp2_with fail
  rw [HW.out]
  clear HW d0 d1 d2
  refine (impl_goodR id ver _ bs true _ HV.out HF.out (HK.out.below HR.out.low) HBX.out).mono ?_
  rintro e w1 ⟨rfl, hb1⟩
  have HR1 := hide (HR.out.down hb1)
  have HV1 := hide (HV.out.below hb1)
  obtain ⟨⟨d0, d1, d2⟩, -⟩ := HR1.out.arg.tri
  clear hb1 HR HV
  go_wp2_with fail
  refine (keeper_of id ver _ bs _ HV1.out HF.out HB.out.2.2.1.2.1).mono ?_
  rintro e w3 ⟨⟨g, u, ps, rfl, hKP, hps⟩, hb3⟩
  subst hps
  have HR3 := hide (HR1.out.down hb3)
  have HKP := hide hKP
  have HB1 := hide HR1.out.big
  have hB13 := hb3.size
  clear hb3 hKP d0 d1 d2 HR1 HV1
  go_wp2_with fail
  refine (keeper_take my HMY.out id ver g w1.heap.size u ps k x _ HKP.out hB13 HB.out hx (HK.out.below HR3.out.low)).mono ?_
  rintro e w4 ⟨rfl, u4, ps4, hKP4, hps4, hch⟩
  have HR4 := hide (HR3.out.chg hch (fun q hq => Nat.le_trans HB1.out (HKP.out.ks q hq)))
  have HKP4 := hide hKP4
  have HPS4 := hide hps4
  clear hKP4 hps4 hch HR3 HKP
  go_wp2_with fail
  refine (keeper_region id ver g w1.heap.size u4 ps4 _ HKP4.out).mono ?_
  rintro e w5 ⟨rfl, hb5⟩
  obtain ⟨au, cu, rfl⟩ := HKP4.out.own.form
  have HR5 := hide (HR4.out.down hb5)
  have HO5 := hide (HKP4.out.own.down hb5)
  obtain ⟨WZ, hWZ⟩ : ∃ WZ, ((w5.setCell ⟨w.heap.size + 1, 0, none⟩ (.int .i64 id)).setCell ⟨w.heap.size + 1, 1, none⟩ (.int .i64 ver)).setCell ⟨w.heap.size + 1, 2, none⟩ (.slice au ps4.length cu) = WZ := ⟨_, rfl⟩
  obtain ⟨hz, hzb, hzo⟩ := HR5.out.fin (.int .i64 id) (.int .i64 ver) (.slice au ps4.length cu) WZ hWZ
  have HZO := hide (hzo _ _ _ HO5.out HB1.out)
  obtain ⟨⟨e0, e1, e2⟩, f0, f1, f2⟩ := HR5.out.res.tri
  have HWZ := hide hWZ
  have HZ := hide hz
  clear hz hWZ hzo hb5 HKP4 HR4 HR5 HO5
  go_wp2
  rw [HWZ.out]
  clear e0 e1 e2 f0 f1 f2
  obtain ⟨⟨e0, e1, e2⟩, -⟩ := HZ.out.tri
  exact bodyPost_ret (v := .tuple #[rv id ver (.slice au ps4.length cu), .int .i64 (tkc my ⟨id, ver, bsP ps⟩ k x)]) (by simp [results, Tryz.results16, go_sem, e0, e1, e2]) rfl ⟨⟨_, ps4, rfl, HZO.out, HPS4.out⟩, hzb⟩
end Go.Proofs.YtjgopjnkkhkcnaaGreatDoor

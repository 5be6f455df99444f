/-
  TakeCall in the specification's text.
-/
import Derived.Test.YtjgopjnkkhkcnaaGreatDoorRgG1
import Derived.Test.YtjgopjnkkhkcnaaGreatDoorRgG2
namespace Go.Proofs.YtjgopjnkkhkcnaaGreatDoor
open Go.RowKit M
open Go.Sort (grow)
theorem spec_l16 (my : St → Ev → Bool) (hmy : ∀ s e, BP (my s e) (May s e)) (id ver : Int) (v : Value) (ps : Prs) (k : Int) (x : ByteArray) (B : Nat) (w : World) (ho : OwnP w B v ps) (hB : B ≤ w.heap.size) (hg : GdR ⟨id, ver, bsP ps⟩) (hx : x.size ≤ maxLen) :
    Calls Tryz.prog 57 #[rv id ver v, .int .i64 k, .string x] w fun e w' => (∃ u ps', e = .returned (.tuple #[rv id ver u, .int .i64 (tkc my ⟨id, ver, bsP ps⟩ k x)]) ∧ OwnP w' B u ps' ∧ bsP ps' = tkb my ⟨id, ver, bsP ps⟩ k x) ∧ Below w.heap.size w w' := by
  have hk0 : tkc my ⟨id, ver, bsP ps⟩ k x ≠ 0 → tkb my ⟨id, ver, bsP ps⟩ k x = bsP ps := fun h => by unfold tkb; rw [if_neg h]
  cases hc : okC k x
  · have h := tkc_bad (my := my) (r := ⟨id, ver, bsP ps⟩) hc
    rw [hk0 (by rw [h]; decide), h]
    exact spec_call_bad my hmy id ver v ps k x B w ho hB hg hx hc
  by_cases ha : ver % 10 = id
  case neg =>
    have h := tkc_passive (my := my) (r := ⟨id, ver, bsP ps⟩) hc ha
    rw [hk0 (by rw [h]; decide), h]
    exact spec_call_passive my hmy id ver v ps k x B w ho hB hg hx hc ha
  by_cases hk : k = 2
  case neg => exact spec_call_last0 my hmy id ver v ps k x B w ho hB hg hx hc ha hk
  by_cases hin : x ∈ (stB (bsP ps)).sg
  · have h := tkc_again (my := my) (r := ⟨id, ver, bsP ps⟩) hc ha ⟨hk, has_iff.2 hin⟩
    rw [hk0 (by rw [h]; decide), h]
    exact spec_call_again my hmy id ver v ps k x B w ho hB hg hx hc ha hk hin
  · exact spec_call_last1 my hmy id ver v ps k x B w ho hB hg hx hc ha hk hin
set_option maxRecDepth 20000 in
set_option maxHeartbeats 4000000 in
theorem spec_take_no (id ver : Int) (v : Value) (bs : Brs) (k : Int) (x : ByteArray) (w : World) (hv : BrsOf w v bs) (hf : FineS bs) (hco : CapOk v) (hb : BP false (GdR ⟨id, ver, bs⟩)) :
    Calls Tryz.prog 14 #[rv id ver v, .int .i64 k, .string x] w fun e w' => (∃ v ps, e = .returned (.tuple #[rv 0 0 v, .int .i64 1]) ∧ OwnP w' w.heap.size v ps ∧ bsP ps = []) ∧ Below w.heap.size w w' := by
  have HF := hide hf
  have HB := hide hb
  have HCO := hide hco
  obtain ⟨a1, c1, rfl⟩ := hv.form
  obtain ⟨W, hW⟩ : ∃ W, (w.alloc (.cells #[.int .i64 id, .int .i64 ver, .slice a1 bs.length c1] 32)).alloc (.cells #[.int .i64 0, .int .i64 0, .slice none 0 0] 32) = W := ⟨_, rfl⟩
  have HR := hide (show R2 w W id ver (.slice a1 bs.length c1) from by rw [← hW]; exact R2.new w _ _ _)
  have HV := hide (hv.below HR.out.low)
  have HW := hide hW
  obtain ⟨⟨d0, d1, d2⟩, -⟩ := HR.out.arg.tri
  rw [← hW] at d0 d1 d2
  clear hv hf hb hco hW
  have HBX := hide HB.out
  go_enter Tryz.func14, Tryz.ntmps14
  go_wp2_with fail
  rw [HW.out]
  clear HW d0 d1 d2
  refine (spec_goodR id ver _ bs false _ HV.out HF.out HCO.out HBX.out).mono ?_
  rintro e w1 ⟨rfl, hb1⟩
  have HR1 := hide (HR.out.down hb1)
  obtain ⟨WZ, hWZ⟩ : ∃ WZ, ((w1.setCell ⟨w.heap.size + 1, 0, none⟩ (.int .i64 0)).setCell ⟨w.heap.size + 1, 1, none⟩ (.int .i64 0)).setCell ⟨w.heap.size + 1, 2, none⟩ (.slice none 0 0) = WZ := ⟨_, rfl⟩
  obtain ⟨hz, hzb, -⟩ := HR1.out.fin (.int .i64 0) (.int .i64 0) (.slice none 0 0) WZ hWZ
  obtain ⟨⟨e0, e1, e2⟩, f0, f1, f2⟩ := HR1.out.res.tri
  have HWZ := hide hWZ
  have HZ := hide hz
  clear hz hWZ
  go_wp2
  rw [HWZ.out]
  clear e0 e1 e2 f0 f1 f2
  obtain ⟨⟨e0, e1, e2⟩, -⟩ := HZ.out.tri
  exact bodyPost_ret (v := .tuple #[rv 0 0 (.slice none 0 0), .int .i64 1]) (by simp [results, Tryz.results14, go_sem, e0, e1, e2]) rfl ⟨⟨_, [], rfl, OwnP.nil _ _, rfl⟩, hzb⟩
set_option maxRecDepth 20000 in
set_option maxHeartbeats 4000000 in
theorem spec_take_ok (my : St → Ev → Bool) (hmy : ∀ s e, BP (my s e) (May s e)) (id ver : Int) (v : Value) (bs : Brs) (k : Int) (x : ByteArray) (w : World) (hv : BrsOf w v bs) (hf : FineS bs) (hco : CapOk v) (hb : GdR ⟨id, ver, bs⟩) (hx : x.size ≤ maxLen) :
    Calls Tryz.prog 14 #[rv id ver v, .int .i64 k, .string x] w fun e w' => (∃ v ps, e = .returned (.tuple #[rv id ver v, .int .i64 (tkc my ⟨id, ver, bs⟩ k x)]) ∧ OwnP w' w.heap.size v ps ∧ bsP ps = tkb my ⟨id, ver, bs⟩ k x) ∧ Below w.heap.size w w' := by
  have HF := hide hf
  have HB := hide hb
  have HCO := hide hco
  obtain ⟨a1, c1, rfl⟩ := hv.form
  obtain ⟨W, hW⟩ : ∃ W, (w.alloc (.cells #[.int .i64 id, .int .i64 ver, .slice a1 bs.length c1] 32)).alloc (.cells #[.int .i64 0, .int .i64 0, .slice none 0 0] 32) = W := ⟨_, rfl⟩
  have HR := hide (show R2 w W id ver (.slice a1 bs.length c1) from by rw [← hW]; exact R2.new w _ _ _)
  have HV := hide (hv.below HR.out.low)
  have HW := hide hW
  obtain ⟨⟨d0, d1, d2⟩, -⟩ := HR.out.arg.tri
  rw [← hW] at d0 d1 d2
  clear hv hf hb hco hW
  have HBX := hide (show BP true (GdR ⟨id, ver, bs⟩) from ⟨fun _ => HB.out, fun _ => rfl⟩)
  have HMY := hide hmy
  clear hmy
  go_enter Tryz.func14, Tryz.ntmps14
  go_wp2_with fail
  rw [HW.out]
  clear HW d0 d1 d2
  refine (spec_goodR id ver _ bs true _ HV.out HF.out HCO.out HBX.out).mono ?_
  rintro e w1 ⟨rfl, hb1⟩
  have HR1 := hide (HR.out.down hb1)
  have HV1 := hide (HV.out.below hb1)
  obtain ⟨⟨d0, d1, d2⟩, -⟩ := HR1.out.arg.tri
  clear hb1 HR HV
  go_wp2_with fail
  refine (spec_own16 id ver _ bs _ HV1.out HB.out.2.2.1).mono ?_
  rintro e w4 ⟨⟨r, ps, rfl, hO, hps⟩, hb4⟩
  subst hps
  have HR4 := hide (HR1.out.down hb4)
  have HO4 := hide hO
  have HB1 := hide HR1.out.big
  have hs4 := hb4.size
  clear hO hb4 HR1 d0 d1 d2
  go_wp2_with fail
  refine (spec_l16 my HMY.out id ver r ps k x w1.heap.size _ HO4.out hs4 HB.out hx).mono ?_
  rintro e w5 ⟨⟨u, ps5, rfl, hO5, hps5⟩, hb5⟩
  obtain ⟨au, cu, rfl⟩ := hO5.form
  have HR5 := hide (HR4.out.down hb5)
  have HPS := hide hps5
  obtain ⟨WZ, hWZ⟩ : ∃ WZ, ((w5.setCell ⟨w.heap.size + 1, 0, none⟩ (.int .i64 id)).setCell ⟨w.heap.size + 1, 1, none⟩ (.int .i64 ver)).setCell ⟨w.heap.size + 1, 2, none⟩ (.slice au ps5.length cu) = WZ := ⟨_, rfl⟩
  obtain ⟨hz, hzb, hzo⟩ := HR5.out.fin (.int .i64 id) (.int .i64 ver) (.slice au ps5.length cu) WZ hWZ
  have HZO := hide (hzo _ _ _ hO5 HB1.out)
  obtain ⟨⟨e0, e1, e2⟩, f0, f1, f2⟩ := HR5.out.res.tri
  have HWZ := hide hWZ
  have HZ := hide hz
  clear hz hWZ hzo hb5 hO5 hps5 HR4 HR5
  go_wp2
  rw [HWZ.out]
  clear e0 e1 e2 f0 f1 f2
  obtain ⟨⟨e0, e1, e2⟩, -⟩ := HZ.out.tri
  exact bodyPost_ret (v := .tuple #[rv id ver (.slice au ps5.length cu), .int .i64 (tkc my ⟨id, ver, bsP ps⟩ k x)]) (by simp [results, Tryz.results14, go_sem, e0, e1, e2]) rfl ⟨⟨_, ps5, rfl, HZO.out, HPS.out⟩, hzb⟩
end Go.Proofs.YtjgopjnkkhkcnaaGreatDoor

/-
  A call in the specification's text: where nothing is taken.
-/
import Derived.Test.YtjgopjnkkhkcnaaGreatDoorRgS
import Derived.Test.YtjgopjnkkhkcnaaGreatDoorRgT
import Derived.Test.YtjgopjnkkhkcnaaGreatDoorStXS
import Derived.Test.YtjgopjnkkhkcnaaGreatDoorStW
namespace Go.Proofs.YtjgopjnkkhkcnaaGreatDoor
open Go.RowKit M
open Clk (upd upd_same upd_other)
open Go.Sort (grow)
set_option maxRecDepth 20000 in
set_option maxHeartbeats 8000000 in
theorem spec_call_bad (my : St → Ev → Bool) (hmy : ∀ s e, BP (my s e) (May s e)) (id ver : Int) (v : Value) (ps : Prs) (k : Int) (x : ByteArray) (B : Nat) (w : World) (ho : OwnP w B v ps) (_hB : B ≤ w.heap.size) (hg : GdR ⟨id, ver, bsP ps⟩) (hx : x.size ≤ maxLen) (hc : okC k x = false) :
    Calls Tryz.prog 57 #[rv id ver v, .int .i64 k, .string x] w fun e w' => (∃ u ps', e = .returned (.tuple #[rv id ver u, .int .i64 1]) ∧ OwnP w' B u ps' ∧ bsP ps' = bsP ps) ∧ Below w.heap.size w w' := by
  have HG := hide hg
  have HX := hide hx
  have HMY := hide hmy
  obtain ⟨a1, c1, rfl⟩ := ho.form
  have HCO := hide (show ps.length ≤ c1 from ho.capOk)
  obtain ⟨W, hW⟩ : ∃ W, (w.alloc (.cells #[.int .i64 id, .int .i64 ver, .slice a1 ps.length c1] 32)).alloc (.cells #[.int .i64 0, .int .i64 0, .slice none 0 0] 32) = W := ⟨_, rfl⟩
  have HR := hide (show R2 w W id ver (.slice a1 ps.length c1) from by rw [← hW]; exact R2.new w _ _ _)
  have hdn : Below w.heap.size w W := HR.out.low
  have HO0 := hide ho
  have HO := hide (ho.down hdn)
  have HV := hide (show BrsOf W (.slice a1 ps.length c1) (bsP ps) from (ho.down hdn).brs)
  have HFN := hide (show FineS (bsP ps) from hg.2.2.1.2.fine (by exact Nat.le_trans (show (bsP ps).length ≤ 12 from hg.2.2.1.1) (by omega)))
  have HGT := hide (show GdT (bsP ps) from hg.2.2.1)
  have HVR := hide (show 0 ≤ ver ∧ ver ≤ 1000000 from hg.2.1)
  have HW := hide hW
  obtain ⟨⟨d0, d1, d2⟩, -⟩ := HR.out.arg.tri
  obtain ⟨⟨e0, e1, e2⟩, f0, f1, f2⟩ := HR.out.res.tri
  rw [← hW] at d0 d1 d2 e0 e1 e2 f0 f1 f2
  clear ho hg hx hmy hW
  cases h1 : inB k 1 6
  · go_enter Tryz.func57, Tryz.ntmps57
    go_wp2_with (go_at_call 78; refine (spec_in _ _ _ _).mono ?_; rintro e w' ⟨rfl, rfl⟩; rw [h1])
    obtain ⟨WZ, hWZ⟩ : ∃ WZ, (w.alloc (.cells #[.int .i64 id, .int .i64 ver, .slice a1 ps.length c1] 32)).alloc (.cells #[.int .i64 id, .int .i64 ver, .slice a1 ps.length c1] 32) = WZ := ⟨_, rfl⟩
    have hzb : Below w.heap.size w WZ := by rw [← hWZ]; exact ((Below.refl _ w).alloc (Nat.le_refl _) _).alloc (by simp) _
    have hz : Blk WZ (w.heap.size + 1) 3 (q3 (.int .i64 id) (.int .i64 ver) (.slice a1 ps.length c1)) 32 := by
      have := new3 (w.alloc (.cells #[.int .i64 id, .int .i64 ver, .slice a1 ps.length c1] 32)) (.int .i64 id) (.int .i64 ver) (.slice a1 ps.length c1) 32
      rw [World.size_alloc] at this; rw [← hWZ]; exact this
    have HZO := hide (HO0.out.down hzb)
    rw [hWZ]
    obtain ⟨⟨s0, s1, s2⟩, -⟩ := hz.tri
    exact bodyPost_ret (v := .tuple #[rv id ver (.slice a1 ps.length c1), .int .i64 1]) (by simp [results, Tryz.results57, go_sem, s0, s1, s2]) rfl ⟨⟨_, ps, rfl, HZO.out, rfl⟩, hzb⟩
  · have h2 : goodName x.data.toList = false := by unfold okC at hc; rw [h1] at hc; simpa [gN] using hc
    go_enter Tryz.func57, Tryz.ntmps57
    go_wp2_with (first | (go_at_call 78; refine (spec_in _ _ _ _).mono ?_; rintro e w' ⟨rfl, rfl⟩; rw [h1]) | (go_at_call 108; refine (spec_name x _ HX.out).mono ?_; rintro e w' ⟨rfl, rfl⟩; rw [h2]))
    obtain ⟨WZ, hWZ⟩ : ∃ WZ, (w.alloc (.cells #[.int .i64 id, .int .i64 ver, .slice a1 ps.length c1] 32)).alloc (.cells #[.int .i64 id, .int .i64 ver, .slice a1 ps.length c1] 32) = WZ := ⟨_, rfl⟩
    have hzb : Below w.heap.size w WZ := by rw [← hWZ]; exact ((Below.refl _ w).alloc (Nat.le_refl _) _).alloc (by simp) _
    have hz : Blk WZ (w.heap.size + 1) 3 (q3 (.int .i64 id) (.int .i64 ver) (.slice a1 ps.length c1)) 32 := by
      have := new3 (w.alloc (.cells #[.int .i64 id, .int .i64 ver, .slice a1 ps.length c1] 32)) (.int .i64 id) (.int .i64 ver) (.slice a1 ps.length c1) 32
      rw [World.size_alloc] at this; rw [← hWZ]; exact this
    have HZO := hide (HO0.out.down hzb)
    rw [hWZ]
    obtain ⟨⟨s0, s1, s2⟩, -⟩ := hz.tri
    exact bodyPost_ret (v := .tuple #[rv id ver (.slice a1 ps.length c1), .int .i64 1]) (by simp [results, Tryz.results57, go_sem, s0, s1, s2]) rfl ⟨⟨_, ps, rfl, HZO.out, rfl⟩, hzb⟩
set_option maxRecDepth 20000 in
set_option maxHeartbeats 8000000 in
theorem spec_call_passive (my : St → Ev → Bool) (hmy : ∀ s e, BP (my s e) (May s e)) (id ver : Int) (v : Value) (ps : Prs) (k : Int) (x : ByteArray) (B : Nat) (w : World) (ho : OwnP w B v ps) (_hB : B ≤ w.heap.size) (hg : GdR ⟨id, ver, bsP ps⟩) (hx : x.size ≤ maxLen) (hc : okC k x = true) (ha : ver % 10 ≠ id) :
    Calls Tryz.prog 57 #[rv id ver v, .int .i64 k, .string x] w fun e w' => (∃ u ps', e = .returned (.tuple #[rv id ver u, .int .i64 2]) ∧ OwnP w' B u ps' ∧ bsP ps' = bsP ps) ∧ Below w.heap.size w w' := by
  have HG := hide hg
  have HX := hide hx
  have HMY := hide hmy
  obtain ⟨a1, c1, rfl⟩ := ho.form
  have HCO := hide (show ps.length ≤ c1 from ho.capOk)
  obtain ⟨W, hW⟩ : ∃ W, (w.alloc (.cells #[.int .i64 id, .int .i64 ver, .slice a1 ps.length c1] 32)).alloc (.cells #[.int .i64 0, .int .i64 0, .slice none 0 0] 32) = W := ⟨_, rfl⟩
  have HR := hide (show R2 w W id ver (.slice a1 ps.length c1) from by rw [← hW]; exact R2.new w _ _ _)
  have hdn : Below w.heap.size w W := HR.out.low
  have HO0 := hide ho
  have HO := hide (ho.down hdn)
  have HV := hide (show BrsOf W (.slice a1 ps.length c1) (bsP ps) from (ho.down hdn).brs)
  have HFN := hide (show FineS (bsP ps) from hg.2.2.1.2.fine (by exact Nat.le_trans (show (bsP ps).length ≤ 12 from hg.2.2.1.1) (by omega)))
  have HGT := hide (show GdT (bsP ps) from hg.2.2.1)
  have HVR := hide (show 0 ≤ ver ∧ ver ≤ 1000000 from hg.2.1)
  have HW := hide hW
  obtain ⟨⟨d0, d1, d2⟩, -⟩ := HR.out.arg.tri
  obtain ⟨⟨e0, e1, e2⟩, f0, f1, f2⟩ := HR.out.res.tri
  rw [← hW] at d0 d1 d2 e0 e1 e2 f0 f1 f2
  have h1 : inB k 1 6 = true := by unfold okC at hc; rw [Bool.and_eq_true] at hc; exact hc.1
  have h2 : goodName x.data.toList = true := by unfold okC at hc; rw [Bool.and_eq_true] at hc; exact hc.2
  have HACT := hide (show (ver % 10 == id) = false by simp [ha])
  clear ho hg hx hmy hW hc ha
  go_enter Tryz.func57, Tryz.ntmps57
  go_wp2_with (first | (go_at_call 78; refine (spec_in _ _ _ _).mono ?_; rintro e w' ⟨rfl, rfl⟩; rw [h1]) | (go_at_call 108; refine (spec_name x _ HX.out).mono ?_; rintro e w' ⟨rfl, rfl⟩; rw [h2]))
  rw [HW.out]
  clear HW d0 d1 d2 e0 e1 e2 f0 f1 f2
  refine (spec_act id ver _ (bsP ps) _ HV.out HVR.out.1 HVR.out.2).mono ?_
  rw [HACT.out]
  rintro e w1 ⟨rfl, hb1⟩
  have HR1 := hide (HR.out.down hb1)
  have HO1 := hide (HO.out.down hb1)
  clear hb1 HR HO HV
  obtain ⟨⟨d0, d1, d2⟩, -⟩ := HR1.out.arg.tri
  obtain ⟨⟨e0, e1, e2⟩, f0, f1, f2⟩ := HR1.out.res.tri
  obtain ⟨WZ, hWZ⟩ : ∃ WZ, ((w1.setCell ⟨w.heap.size + 1, 0, none⟩ (.int .i64 id)).setCell ⟨w.heap.size + 1, 1, none⟩ (.int .i64 ver)).setCell ⟨w.heap.size + 1, 2, none⟩ (.slice a1 ps.length c1) = WZ := ⟨_, rfl⟩
  obtain ⟨hz, hzb, -⟩ := HR1.out.fin (.int .i64 id) (.int .i64 ver) (.slice a1 ps.length c1) WZ hWZ
  have HZO := hide (show OwnP WZ B (.slice a1 ps.length c1) ps from by
    rw [← hWZ]; exact ((HO1.out.set_off HR1.out.res (by decide) (by decide) _).set_off (HR1.out.res.tri0 _) (by decide) (by decide) _).set_off ((HR1.out.res.tri0 _).tri1 _) (by decide) (by decide) _)
  have HWZ := hide hWZ
  have HZ := hide hz
  clear hz hWZ
  go_wp2
  rw [HWZ.out]
  obtain ⟨⟨s0, s1, s2⟩, -⟩ := HZ.out.tri
  exact bodyPost_ret (v := .tuple #[rv id ver (.slice a1 ps.length c1), .int .i64 2]) (by simp [results, Tryz.results57, go_sem, s0, s1, s2]) rfl ⟨⟨_, ps, rfl, HZO.out, rfl⟩, hzb⟩
set_option maxRecDepth 20000 in
set_option maxHeartbeats 8000000 in
theorem spec_call_again (my : St → Ev → Bool) (hmy : ∀ s e, BP (my s e) (May s e)) (id ver : Int) (v : Value) (ps : Prs) (k : Int) (x : ByteArray) (B : Nat) (w : World) (ho : OwnP w B v ps) (_hB : B ≤ w.heap.size) (hg : GdR ⟨id, ver, bsP ps⟩) (hx : x.size ≤ maxLen) (hc : okC k x = true) (ha : ver % 10 = id) (hk : k = 2) (hin : x ∈ (stB (bsP ps)).sg) :
    Calls Tryz.prog 57 #[rv id ver v, .int .i64 k, .string x] w fun e w' => (∃ u ps', e = .returned (.tuple #[rv id ver u, .int .i64 5]) ∧ OwnP w' B u ps' ∧ bsP ps' = bsP ps) ∧ Below w.heap.size w w' := by
  have HG := hide hg
  have HX := hide hx
  have HMY := hide hmy
  obtain ⟨a1, c1, rfl⟩ := ho.form
  have HCO := hide (show ps.length ≤ c1 from ho.capOk)
  obtain ⟨W, hW⟩ : ∃ W, (w.alloc (.cells #[.int .i64 id, .int .i64 ver, .slice a1 ps.length c1] 32)).alloc (.cells #[.int .i64 0, .int .i64 0, .slice none 0 0] 32) = W := ⟨_, rfl⟩
  have HR := hide (show R2 w W id ver (.slice a1 ps.length c1) from by rw [← hW]; exact R2.new w _ _ _)
  have hdn : Below w.heap.size w W := HR.out.low
  have HO0 := hide ho
  have HO := hide (ho.down hdn)
  have HV := hide (show BrsOf W (.slice a1 ps.length c1) (bsP ps) from (ho.down hdn).brs)
  have HFN := hide (show FineS (bsP ps) from hg.2.2.1.2.fine (by exact Nat.le_trans (show (bsP ps).length ≤ 12 from hg.2.2.1.1) (by omega)))
  have HGT := hide (show GdT (bsP ps) from hg.2.2.1)
  have HVR := hide (show 0 ≤ ver ∧ ver ≤ 1000000 from hg.2.1)
  have HW := hide hW
  obtain ⟨⟨d0, d1, d2⟩, -⟩ := HR.out.arg.tri
  obtain ⟨⟨e0, e1, e2⟩, f0, f1, f2⟩ := HR.out.res.tri
  rw [← hW] at d0 d1 d2 e0 e1 e2 f0 f1 f2
  have h1 : inB k 1 6 = true := by unfold okC at hc; rw [Bool.and_eq_true] at hc; exact hc.1
  have h2 : goodName x.data.toList = true := by unfold okC at hc; rw [Bool.and_eq_true] at hc; exact hc.2
  obtain ⟨es, hes⟩ : ∃ es, cB (bsP ps) = es := ⟨_, rfl⟩
  obtain ⟨n, hn⟩ : ∃ n, es.length = n := ⟨_, rfl⟩
  obtain ⟨s, hs⟩ : ∃ s, stB (bsP ps) = s := ⟨_, rfl⟩
  have HES := hide hes
  have HNN := hide hn
  have HSS := hide hs
  have hh := cB_hist HGT.out
  rw [hes] at hh
  have hn60 : n ≤ 60 := by rw [← hn]; exact hh.1
  have hgs := stB_good HGT.out
  rw [hs] at hgs
  have HHI := hide hh
  have HGS := hide hgs
  have HE0 := hide (show evR ⟨id, ver, bsP ps⟩ k x = ⟨s.nx, ver, k, x⟩ from by unfold evR; rw [← hs])
  have HACT := hide (show (ver % 10 == id) = true by simp [ha])
  clear hes hn hs hh hgs
  have HIN := hide (show x ∈ s.sg from by rw [← HSS.out]; exact hin)
  have hkb : (k == 2) = true := by simp [hk]
  clear ho hg hx hmy hW hc ha hk hin
  go_enter Tryz.func57, Tryz.ntmps57
  go_wp2_with (first | (go_at_call 78; refine (spec_in _ _ _ _).mono ?_; rintro e w' ⟨rfl, rfl⟩; rw [h1]) | (go_at_call 108; refine (spec_name x _ HX.out).mono ?_; rintro e w' ⟨rfl, rfl⟩; rw [h2]))
  rw [HW.out]
  clear HW d0 d1 d2 e0 e1 e2 f0 f1 f2
  refine (spec_act id ver _ (bsP ps) _ HV.out HVR.out.1 HVR.out.2).mono ?_
  rw [HACT.out]
  rintro e w1 ⟨rfl, hb1⟩
  have HR1 := hide (HR.out.down hb1)
  have HO1 := hide (HO.out.down hb1)
  have HV1 := hide (HV.out.below hb1)
  obtain ⟨⟨d0, d1, d2⟩, -⟩ := HR1.out.arg.tri
  clear hb1 HR HO HV
  go_wp2_with fail
  refine (spec_hist16 id ver _ (bsP ps) _ HV1.out HFN.out HGT.out).mono ?_
  rw [HES.out, HNN.out]
  rintro e w2 ⟨⟨a2, c2, rfl, hsl⟩, hb2⟩
  have HR2 := hide (HR1.out.down hb2)
  have HO2 := hide (HO1.out.down hb2)
  have HS2 := hide hsl
  clear hsl hb2 HR1 HO1 HV1 d0 d1 d2
  go_wp2_with fail
  refine (spec_fold _ es n _ HS2.out (by have := HNN.out; omega) (fun e he => by have := hist_names HHI.out e he; unfold maxLen; omega) (by rw [← HNN.out]; exact HHI.out.2.1)).mono ?_
  rintro e w3 ⟨⟨u0, u1, rfl, hA⟩, hb3⟩
  have hsk : sk es n = s := by rw [← HSS.out]; unfold stB; rw [HES.out, HNN.out]
  rw [hsk] at hA ⊢
  obtain ⟨x0, m0, rfl⟩ := hA.q.1.form
  obtain ⟨x1, m1, rfl⟩ := hA.q.2.form
  have hal4 := low1 w3 (.cells (sarr (.slice x0 s.sg.length m0) (.slice x1 s.tm.length m1) s) 154)
  have HBX := hide (show Blk (w3.alloc (.cells (sarr (.slice x0 s.sg.length m0) (.slice x1 s.tm.length m1) s) 154)) w3.heap.size 6 (sq (.slice x0 s.sg.length m0) (.slice x1 s.tm.length m1) s) 154 from new6 w3 _ _ _ _ _ _ 154)
  obtain ⟨w4, hw4⟩ : ∃ w4, w3.alloc (.cells (sarr (.slice x0 s.sg.length m0) (.slice x1 s.tm.length m1) s) 154) = w4 := ⟨_, rfl⟩
  obtain ⟨sb, hsb⟩ : ∃ sb, w3.heap.size = sb := ⟨_, rfl⟩
  have HA4 := hide (hA.down hal4)
  have HS4 := hide ((HS2.out.below hb3).below hal4)
  have HR4 := hide ((HR2.out.down hb3).down hal4)
  have HO4 := hide ((HO2.out.down hb3).down hal4)
  rw [hw4] at HBX HA4 HS4 HR4 HO4
  rw [hsb] at HBX
  have HW4 := hide hw4
  have HSB := hide hsb
  obtain ⟨⟨b0, b1, b2, b3, b4, b5⟩, -⟩ := HBX.out.hex
  rw [← hw4, ← hsb] at b0 b1 b2 b3 b4 b5
  clear hA hal4 hb3 HR2 HO2 HS2 hsk hw4 hsb
  go_wp2_with fail
  rw [HW4.out]
  try rw [HSB.out]
  clear HW4 HSB b0 b1 b2 b3 b4 b5
  refine (at_txs _ s.sg x _ HA4.out.q.1 (by have := HGS.out.2.2.1.1; omega)).mono ?_
  rintro e wv ⟨⟨r, rfl, hr⟩, hwv⟩
  rw [hwv]
  have hr0 : r ≥ 0 := hr.2 HIN.out
  clear hwv wv hr
  obtain ⟨⟨b0, b1, b2, b3, b4, b5⟩, -⟩ := HBX.out.hex
  obtain ⟨⟨d0, d1, d2⟩, -⟩ := HR4.out.arg.tri
  obtain ⟨⟨e0, e1, e2⟩, f0, f1, f2⟩ := HR4.out.res.tri
  obtain ⟨WZ, hWZ⟩ : ∃ WZ, ((w4.setCell ⟨w.heap.size + 1, 0, none⟩ (.int .i64 id)).setCell ⟨w.heap.size + 1, 1, none⟩ (.int .i64 ver)).setCell ⟨w.heap.size + 1, 2, none⟩ (.slice a1 ps.length c1) = WZ := ⟨_, rfl⟩
  obtain ⟨hz, hzb, -⟩ := HR4.out.fin (.int .i64 id) (.int .i64 ver) (.slice a1 ps.length c1) WZ hWZ
  have HZO := hide (show OwnP WZ B (.slice a1 ps.length c1) ps from by
    rw [← hWZ]; exact ((HO4.out.set_off HR4.out.res (by decide) (by decide) _).set_off (HR4.out.res.tri0 _) (by decide) (by decide) _).set_off ((HR4.out.res.tri0 _).tri1 _) (by decide) (by decide) _)
  have HWZ := hide hWZ
  have HZ := hide hz
  clear hz hWZ
  go_wp2
  rw [HWZ.out]
  obtain ⟨⟨s0, s1, s2⟩, -⟩ := HZ.out.tri
  exact bodyPost_ret (v := .tuple #[rv id ver (.slice a1 ps.length c1), .int .i64 5]) (by simp [results, Tryz.results57, go_sem, s0, s1, s2]) rfl ⟨⟨_, ps, rfl, HZO.out, rfl⟩, hzb⟩
end Go.Proofs.YtjgopjnkkhkcnaaGreatDoor

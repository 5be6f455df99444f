/-
  Texts that follow one another, joined: RgH, RgL7, RgC7.
-/
import Derived.Test.YtfkeokglifpkoaaGreatDoorJoin34
import Derived.Test.YtfkeokglifpkoaaGreatDoorJoin31
import Derived.Test.YtfkeokglifpkoaaGreatDoorJoin19
import Derived.Test.YtfkeokglifpkoaaGreatDoorJoin13
import Derived.Test.YtfkeokglifpkoaaGreatDoorJoin10
import Derived.Test.YtfkeokglifpkoaaGreatDoorJoin21
import Derived.Deep.RegionWith
/-
  StateOf in both texts. Condition: the table knownKinds reads as the program's text lays it.
-/
namespace Go.Proofs.YtfkeokglifpkoaaGreatDoor
open Go.RowKit M
open Clk (upd upd_same upd_other)
open Go.Sort (grow)
namespace M
theorem ansZ (w : World) (lo hi : Nat) : AnsL w lo hi (.slice none 0 0) (.slice none 0 0) [] [] := ⟨OwnT.nil _ _, OwnT.nil _ _, fun g h => (by cases h), fun g h => (by cases h), fun g h => (by cases h)⟩
def StR (w w' : World) (e : Ending) (s : St) (b : Bool) : Prop := ∃ u0 u1, e = .returned (.tuple #[stv u0 u1 s, .bool b]) ∧ AnsL w' w.heap.size w'.heap.size u0 u1 s.sg s.tm
/-- A function's boxes: the region that came in, the state that is answered. -/
structure R2S (w W : World) (id ver : Int) (v : Value) : Prop where
  low : Below w.heap.size w W
  arg : Blk W w.heap.size 3 (q3 (.int .i64 id) (.int .i64 ver) v) 34
  res : Blk W (w.heap.size + 1) 6 (q6 (.int .i64 0) (.int .i64 0) (.bool false) (.int .i64 0) (.slice none 0 0) (.slice none 0 0)) 60
  big : w.heap.size + 2 ≤ W.heap.size
theorem R2S.down {w W W' : World} {id ver : Int} {v : Value} (h : R2S w W id ver v) (hb : Below W.heap.size W W') : R2S w W' id ver v :=
  ⟨h.low.trans (hb.mono h.low.size), h.arg.down hb, h.res.down hb, Nat.le_trans h.big hb.size⟩
theorem R2S.new (w : World) (id ver : Int) (v : Value) : R2S w ((w.alloc (.cells #[.int .i64 id, .int .i64 ver, v] 34)).alloc (.cells #[.int .i64 0, .int .i64 0, .bool false, .int .i64 0, .slice none 0 0, .slice none 0 0] 60)) id ver v := by
  refine ⟨((Below.refl _ w).alloc (Nat.le_refl _) _).alloc (by simp) _, (new3 w _ _ _ 34).alloc _, ?_, by simp⟩
  have := new6 (w.alloc (.cells #[.int .i64 id, .int .i64 ver, v] 34)) (.int .i64 0) (.int .i64 0) (.bool false) (.int .i64 0) (.slice none 0 0) (.slice none 0 0) 60
  rw [World.size_alloc] at this; exact this
end M
set_option maxRecDepth 20000 in
set_option maxHeartbeats 8000000 in
theorem spec_state_no (id ver : Int) (v : Value) (bs : Brs) (w : World) (hv : BrsOf w v bs) (hf : FineS bs) (hco : CapOk v) (hb : BP false (GdR ⟨id, ver, bs⟩)) :
    Calls Tryz.prog 34 #[rv id ver v] w fun e w' => StR w w' e zst false ∧ Below w.heap.size w w' := by
  have HF := hide hf
  have HB := hide hb
  have HCO := hide hco
  obtain ⟨a1, c1, rfl⟩ := hv.form
  obtain ⟨W, hW⟩ : ∃ W, (w.alloc (.cells #[.int .i64 id, .int .i64 ver, .slice a1 bs.length c1] 34)).alloc (.cells #[.int .i64 0, .int .i64 0, .bool false, .int .i64 0, .slice none 0 0, .slice none 0 0] 60) = W := ⟨_, rfl⟩
  have HR := hide (show R2S w W id ver (.slice a1 bs.length c1) from by rw [← hW]; exact R2S.new w _ _ _)
  have HV := hide (hv.below HR.out.low)
  have HW := hide hW
  obtain ⟨⟨d0, d1, d2⟩, -⟩ := HR.out.arg.tri
  rw [← hW] at d0 d1 d2
  clear hv hf hb hco hW
  have HBX := hide HB.out
  go_enter Tryz.func34, Tryz.ntmps34
  go_wp2_with fail
  rw [HW.out]
  clear HW d0 d1 d2
  refine (spec_goodR id ver _ bs false _ HV.out HF.out HCO.out HBX.out).mono ?_
  rintro e w1 ⟨rfl, hb1⟩
  have HR1 := hide (HR.out.down hb1)
  obtain ⟨⟨r0, r1, r2, r3, r4, r5⟩, t0, t1, t2, t3, t4, t5⟩ := HR1.out.res.hex
  obtain ⟨WZ, hWZ⟩ : ∃ WZ, (((((w1.setCell ⟨w.heap.size + 1, 0, none⟩ (.int .i64 0)).setCell ⟨w.heap.size + 1, 1, none⟩ (.int .i64 0)).setCell ⟨w.heap.size + 1, 2, none⟩ (.bool false)).setCell ⟨w.heap.size + 1, 3, none⟩ (.int .i64 0)).setCell ⟨w.heap.size + 1, 4, none⟩ (.slice none 0 0)).setCell ⟨w.heap.size + 1, 5, none⟩ (.slice none 0 0) = WZ := ⟨_, rfl⟩
  obtain ⟨k1, k2, -⟩ := put6 HR1.out.res HR1.out.low (Nat.le_succ _) _ _ _ _ _ _ WZ hWZ
  have HWZ := hide hWZ
  have HZ := hide k1
  clear hWZ k1
  go_wp2
  rw [HWZ.out]
  clear r0 r1 r2 r3 r4 r5 t0 t1 t2 t3 t4 t5
  obtain ⟨⟨r0, r1, r2, r3, r4, r5⟩, -⟩ := HZ.out.hex
  exact bodyPost_ret (v := .tuple #[stv (.slice none 0 0) (.slice none 0 0) zst, .bool false]) (by simp only [results, Tryz.results34, go_sem]; simp [go_sem, r0, r1, r2, r3, r4, r5, zst]) rfl ⟨⟨_, _, rfl, ansZ _ _ _⟩, k2⟩
set_option maxRecDepth 20000 in
set_option maxHeartbeats 8000000 in
theorem spec_state_ok (id ver : Int) (v : Value) (bs : Brs) (w : World) (hv : BrsOf w v bs) (hf : FineS bs) (hco : CapOk v) (hb : GdR ⟨id, ver, bs⟩) :
    Calls Tryz.prog 34 #[rv id ver v] w fun e w' => StR w w' e (stB bs) true ∧ Below w.heap.size w w' := by
  obtain ⟨es, hes⟩ : ∃ es, cB bs = es := ⟨_, rfl⟩
  obtain ⟨n, hn⟩ : ∃ n, es.length = n := ⟨_, rfl⟩
  obtain ⟨s, hs⟩ : ∃ s, stB bs = s := ⟨_, rfl⟩
  have hh := cB_hist hb.2.2.1
  rw [hes] at hh
  have hn60 : n ≤ 60 := by rw [← hn]; exact hh.1
  have hgs := stB_good hb.2.2.1
  rw [hs] at hgs
  have HSH := hide (good_short hgs).1
  have HES := hide hes
  have HNN := hide hn
  have HSS := hide hs
  have HHI := hide hh
  rw [hs]
  clear hes hn hs hh hgs
  have HF := hide hf
  have HB := hide hb
  have HCO := hide hco
  obtain ⟨a1, c1, rfl⟩ := hv.form
  obtain ⟨W, hW⟩ : ∃ W, (w.alloc (.cells #[.int .i64 id, .int .i64 ver, .slice a1 bs.length c1] 34)).alloc (.cells #[.int .i64 0, .int .i64 0, .bool false, .int .i64 0, .slice none 0 0, .slice none 0 0] 60) = W := ⟨_, rfl⟩
  have HR := hide (show R2S w W id ver (.slice a1 bs.length c1) from by rw [← hW]; exact R2S.new w _ _ _)
  have HV := hide (hv.below HR.out.low)
  have HW := hide hW
  obtain ⟨⟨d0, d1, d2⟩, -⟩ := HR.out.arg.tri
  rw [← hW] at d0 d1 d2
  clear hv hf hb hco hW
  have HBX := hide (show BP true (GdR ⟨id, ver, bs⟩) from ⟨fun _ => HB.out, fun _ => rfl⟩)
  go_enter Tryz.func34, Tryz.ntmps34
  go_wp2_with fail
  rw [HW.out]
  clear HW d0 d1 d2
  refine (spec_goodR id ver _ bs true _ HV.out HF.out HCO.out HBX.out).mono ?_
  rintro e w1 ⟨rfl, hb1⟩
  have HR1 := hide (HR.out.down hb1)
  have HV1 := hide (HV.out.below hb1)
  obtain ⟨⟨d0, d1, d2⟩, -⟩ := HR1.out.arg.tri
  clear hb1 HR HV
  go_wp2_with fail
  refine (spec_hist16 id ver _ bs _ HV1.out HF.out HB.out.2.2.1).mono ?_
  rw [HES.out, HNN.out]
  rintro e w2 ⟨⟨a2, c2, rfl, hsl⟩, hb2⟩
  have HR2 := hide (HR1.out.down hb2)
  have HS2 := hide hsl
  clear hsl hb2 HR1 HV1 d0 d1 d2
  go_wp2_with fail
  refine (spec_fold _ es n _ HS2.out (by have := HNN.out; omega) (fun e he => by have := hist_names HHI.out e he; unfold maxLen; omega) (by rw [← HNN.out]; exact HHI.out.2.1)).mono ?_
  rintro e w3 ⟨⟨u0, u1, rfl, hA⟩, hb3⟩
  have hsk : sk es n = s := by rw [← HSS.out]; unfold stB; rw [HES.out, HNN.out]
  rw [hsk] at hA ⊢
  obtain ⟨x0, m0, rfl⟩ := hA.q.1.form
  obtain ⟨x1, m1, rfl⟩ := hA.q.2.form
  have hal4 := low1 w3 (.cells (sarr (.slice x0 s.sg.length m0) (.slice x1 s.tm.length m1) s) 60)
  have HBX4 := hide (show Blk (w3.alloc (.cells (sarr (.slice x0 s.sg.length m0) (.slice x1 s.tm.length m1) s) 60)) w3.heap.size 6 (sq (.slice x0 s.sg.length m0) (.slice x1 s.tm.length m1) s) 60 from new6 w3 _ _ _ _ _ _ 60)
  have HR4 := hide ((HR2.out.down hb3).down hal4)
  have HA4 := hide (hA.down hal4)
  have hs2 : w.heap.size ≤ w2.heap.size := HR2.out.low.size
  obtain ⟨w4, hw4⟩ : ∃ w4, w3.alloc (.cells (sarr (.slice x0 s.sg.length m0) (.slice x1 s.tm.length m1) s) 60) = w4 := ⟨_, rfl⟩
  rw [hw4] at HBX4 HA4 HR4
  obtain ⟨⟨b0, b1, b2, b3, b4, b5⟩, -⟩ := HBX4.out.hex
  have HW4 := hide hw4
  clear hA hal4 hb3 HR2 HS2 hsk hw4
  go_upto_region 4 with fail
  rw [HW4.out]
  clear HW4
  go_wp2_with fail
  refine (own_state _ _ s _ HA4.out.c HSH.out).mono ?_
  rintro e w5 ⟨⟨y0, y1, rfl, hY⟩, hb5⟩
  have HR5 := hide (HR4.out.down hb5)
  have hs5 : w.heap.size ≤ w4.heap.size := HR4.out.low.size
  have HY := hide (show AnsL w5 w.heap.size w5.heap.size y0 y1 s.sg s.tm from hY.mono hs5 (Nat.le_refl _))
  obtain ⟨z0, n0, rfl⟩ := hY.q.1.form
  obtain ⟨z1, n1, rfl⟩ := hY.q.2.form
  clear hY hb5 HR4 HA4 HBX4 b0 b1 b2 b3 b4 b5
  obtain ⟨⟨r0, r1, r2, r3, r4, r5⟩, t0, t1, t2, t3, t4, t5⟩ := HR5.out.res.hex
  obtain ⟨WZ, hWZ⟩ : ∃ WZ, (((((w5.setCell ⟨w.heap.size + 1, 0, none⟩ (.int .i64 s.st)).setCell ⟨w.heap.size + 1, 1, none⟩ (.int .i64 s.nx)).setCell ⟨w.heap.size + 1, 2, none⟩ (.bool s.ca)).setCell ⟨w.heap.size + 1, 3, none⟩ (.int .i64 s.dn)).setCell ⟨w.heap.size + 1, 4, none⟩ (.slice z0 s.sg.length n0)).setCell ⟨w.heap.size + 1, 5, none⟩ (.slice z1 s.tm.length n1) = WZ := ⟨_, rfl⟩
  have HZZ := hide (show Blk WZ (w.heap.size + 1) 6 (sq (.slice z0 s.sg.length n0) (.slice z1 s.tm.length n1) s) 60 ∧ StR w WZ (.returned (.tuple #[stv (.slice z0 s.sg.length n0) (.slice z1 s.tm.length n1) s, .bool true])) s true ∧ Below w.heap.size w WZ from by
    obtain ⟨k1, k2, k3⟩ := put6 HR5.out.res HR5.out.low (Nat.le_succ _) _ _ _ _ _ _ WZ hWZ
    have n0 := HY.out.o0.ne_blk HR5.out.res (by decide)
    have n1 := HY.out.o1.ne_blk HR5.out.res (by decide)
    exact ⟨k1, ⟨_, _, rfl, AnsL.of (HY.out.o0.other k3 (fun q hq e => n0 (by rw [hq, e]))) (HY.out.o1.other k3 (fun q hq e => n1 (by rw [hq, e]))) HY.out.ap⟩, k2⟩)
  have HWZ := hide hWZ
  clear hWZ HR5 HY
  go_wp2
  rw [HWZ.out]
  clear r0 r1 r2 r3 r4 r5 t0 t1 t2 t3 t4 t5
  obtain ⟨⟨r0, r1, r2, r3, r4, r5⟩, -⟩ := HZZ.out.1.hex
  exact bodyPost_ret (v := .tuple #[stv (.slice z0 s.sg.length n0) (.slice z1 s.tm.length n1) s, .bool true]) (by simp only [results, Tryz.results34, go_sem]; simp [go_sem, r0, r1, r2, r3, r4, r5]) rfl HZZ.out.2
set_option maxRecDepth 20000 in
set_option maxHeartbeats 8000000 in
theorem impl_state_no (id ver : Int) (v : Value) (bs : Brs) (w : World) (hv : BrsOf w v bs) (hf : FineS bs) (hkk : KK w) (hb : BP false (GdR ⟨id, ver, bs⟩)) :
    Calls Tryz.prog 35 #[rv id ver v] w fun e w' => StR w w' e zst false ∧ Below w.heap.size w w' := by
  have HF := hide hf
  have HB := hide hb
  have HK := hide hkk
  obtain ⟨a1, c1, rfl⟩ := hv.form
  obtain ⟨W, hW⟩ : ∃ W, (w.alloc (.cells #[.int .i64 id, .int .i64 ver, .slice a1 bs.length c1] 34)).alloc (.cells #[.int .i64 0, .int .i64 0, .bool false, .int .i64 0, .slice none 0 0, .slice none 0 0] 60) = W := ⟨_, rfl⟩
  have HR := hide (show R2S w W id ver (.slice a1 bs.length c1) from by rw [← hW]; exact R2S.new w _ _ _)
  have HV := hide (hv.below HR.out.low)
  have HW := hide hW
  obtain ⟨⟨d0, d1, d2⟩, -⟩ := HR.out.arg.tri
  rw [← hW] at d0 d1 d2
  clear hv hf hb hkk hW
  have HBX := hide HB.out
  go_enter Tryz.func35, Tryz.ntmps35
  go_wp2_with fail
  rw [HW.out]
  clear HW d0 d1 d2
  refine (impl_goodR id ver _ bs false _ HV.out HF.out (HK.out.below HR.out.low) HBX.out).mono ?_
  rintro e w1 ⟨rfl, hb1⟩
  have HR1 := hide (HR.out.down hb1)
  obtain ⟨⟨r0, r1, r2, r3, r4, r5⟩, t0, t1, t2, t3, t4, t5⟩ := HR1.out.res.hex
  obtain ⟨WZ, hWZ⟩ : ∃ WZ, (((((w1.setCell ⟨w.heap.size + 1, 0, none⟩ (.int .i64 0)).setCell ⟨w.heap.size + 1, 1, none⟩ (.int .i64 0)).setCell ⟨w.heap.size + 1, 2, none⟩ (.bool false)).setCell ⟨w.heap.size + 1, 3, none⟩ (.int .i64 0)).setCell ⟨w.heap.size + 1, 4, none⟩ (.slice none 0 0)).setCell ⟨w.heap.size + 1, 5, none⟩ (.slice none 0 0) = WZ := ⟨_, rfl⟩
  obtain ⟨k1, k2, -⟩ := put6 HR1.out.res HR1.out.low (Nat.le_succ _) _ _ _ _ _ _ WZ hWZ
  have HWZ := hide hWZ
  have HZ := hide k1
  clear hWZ k1
  go_wp2
  rw [HWZ.out]
  clear r0 r1 r2 r3 r4 r5 t0 t1 t2 t3 t4 t5
  obtain ⟨⟨r0, r1, r2, r3, r4, r5⟩, -⟩ := HZ.out.hex
  exact bodyPost_ret (v := .tuple #[stv (.slice none 0 0) (.slice none 0 0) zst, .bool false]) (by simp only [results, Tryz.results35, go_sem]; simp [go_sem, r0, r1, r2, r3, r4, r5, zst]) rfl ⟨⟨_, _, rfl, ansZ _ _ _⟩, k2⟩
set_option maxRecDepth 20000 in
set_option maxHeartbeats 8000000 in
theorem impl_state_ok (id ver : Int) (v : Value) (bs : Brs) (w : World) (hv : BrsOf w v bs) (hf : FineS bs) (hkk : KK w) (hb : GdR ⟨id, ver, bs⟩) :
    Calls Tryz.prog 35 #[rv id ver v] w fun e w' => StR w w' e (stB bs) true ∧ Below w.heap.size w w' := by
  obtain ⟨es, hes⟩ : ∃ es, cB bs = es := ⟨_, rfl⟩
  obtain ⟨n, hn⟩ : ∃ n, es.length = n := ⟨_, rfl⟩
  obtain ⟨s, hs⟩ : ∃ s, stB bs = s := ⟨_, rfl⟩
  have hh := cB_hist hb.2.2.1
  rw [hes] at hh
  have hn60 : n ≤ 60 := by rw [← hn]; exact hh.1
  have hgs := stB_good hb.2.2.1
  rw [hs] at hgs
  have HSH := hide (good_short hgs).1
  have HES := hide hes
  have HNN := hide hn
  have HSS := hide hs
  have HHI := hide hh
  rw [hs]
  clear hes hn hs hh hgs
  have HF := hide hf
  have HB := hide hb
  have HK := hide hkk
  obtain ⟨a1, c1, rfl⟩ := hv.form
  obtain ⟨W, hW⟩ : ∃ W, (w.alloc (.cells #[.int .i64 id, .int .i64 ver, .slice a1 bs.length c1] 34)).alloc (.cells #[.int .i64 0, .int .i64 0, .bool false, .int .i64 0, .slice none 0 0, .slice none 0 0] 60) = W := ⟨_, rfl⟩
  have HR := hide (show R2S w W id ver (.slice a1 bs.length c1) from by rw [← hW]; exact R2S.new w _ _ _)
  have HV := hide (hv.below HR.out.low)
  have HW := hide hW
  obtain ⟨⟨d0, d1, d2⟩, -⟩ := HR.out.arg.tri
  rw [← hW] at d0 d1 d2
  clear hv hf hb hkk hW
  have HBX := hide (show BP true (GdR ⟨id, ver, bs⟩) from ⟨fun _ => HB.out, fun _ => rfl⟩)
  go_enter Tryz.func35, Tryz.ntmps35
  go_wp2_with fail
  rw [HW.out]
  clear HW d0 d1 d2
  refine (impl_goodR id ver _ bs true _ HV.out HF.out (HK.out.below HR.out.low) HBX.out).mono ?_
  rintro e w1 ⟨rfl, hb1⟩
  have HR1 := hide (HR.out.down hb1)
  have HV1 := hide (HV.out.below hb1)
  obtain ⟨⟨d0, d1, d2⟩, -⟩ := HR1.out.arg.tri
  clear hb1 HR HV
  go_wp2_with fail
  refine (impl_current _ bs _ HV1.out HF.out HB.out.2.2.1).mono ?_
  rw [HES.out, HNN.out]
  rintro e w2 ⟨⟨a2, c2, rfl, hsl⟩, hb2⟩
  have HR2 := hide (HR1.out.down hb2)
  have HS2 := hide hsl
  clear hsl hb2 HR1 HV1 d0 d1 d2
  go_wp2_with fail
  refine (impl_fold _ es n _ HS2.out (by have := HNN.out; omega) (fun e he => by have := hist_names HHI.out e he; unfold maxLen; omega) (HK.out.below HR2.out.low) (by rw [← HNN.out]; exact HHI.out.2.1)).mono ?_
  rintro e w3 ⟨⟨u0, u1, rfl, hA⟩, hb3⟩
  have hsk : sk es n = s := by rw [← HSS.out]; unfold stB; rw [HES.out, HNN.out]
  rw [hsk] at hA ⊢
  obtain ⟨x0, m0, rfl⟩ := hA.q.1.form
  obtain ⟨x1, m1, rfl⟩ := hA.q.2.form
  have hal4 := low1 w3 (.cells (sarr (.slice x0 s.sg.length m0) (.slice x1 s.tm.length m1) s) 60)
  have HBX4 := hide (show Blk (w3.alloc (.cells (sarr (.slice x0 s.sg.length m0) (.slice x1 s.tm.length m1) s) 60)) w3.heap.size 6 (sq (.slice x0 s.sg.length m0) (.slice x1 s.tm.length m1) s) 60 from new6 w3 _ _ _ _ _ _ 60)
  have HR4 := hide ((HR2.out.down hb3).down hal4)
  have HA4 := hide (hA.down hal4)
  have hs2 : w.heap.size ≤ w2.heap.size := HR2.out.low.size
  obtain ⟨w4, hw4⟩ : ∃ w4, w3.alloc (.cells (sarr (.slice x0 s.sg.length m0) (.slice x1 s.tm.length m1) s) 60) = w4 := ⟨_, rfl⟩
  rw [hw4] at HBX4 HA4 HR4
  obtain ⟨⟨b0, b1, b2, b3, b4, b5⟩, -⟩ := HBX4.out.hex
  have HW4 := hide hw4
  clear hA hal4 hb3 HR2 HS2 hsk hw4
  go_upto_region 4 with fail
  rw [HW4.out]
  clear HW4
  have HR5 := HR4
  have HY := hide (show AnsL w4 w.heap.size w4.heap.size (.slice x0 s.sg.length m0) (.slice x1 s.tm.length m1) s.sg s.tm from AnsL.of (HA4.out.o0.mono hs2) (HA4.out.o1.mono hs2) HA4.out.ap)
  clear HR4 HA4
  obtain ⟨⟨r0, r1, r2, r3, r4, r5⟩, t0, t1, t2, t3, t4, t5⟩ := HR5.out.res.hex
  obtain ⟨WZ, hWZ⟩ : ∃ WZ, (((((w4.setCell ⟨w.heap.size + 1, 0, none⟩ (.int .i64 s.st)).setCell ⟨w.heap.size + 1, 1, none⟩ (.int .i64 s.nx)).setCell ⟨w.heap.size + 1, 2, none⟩ (.bool s.ca)).setCell ⟨w.heap.size + 1, 3, none⟩ (.int .i64 s.dn)).setCell ⟨w.heap.size + 1, 4, none⟩ (.slice x0 s.sg.length m0)).setCell ⟨w.heap.size + 1, 5, none⟩ (.slice x1 s.tm.length m1) = WZ := ⟨_, rfl⟩
  have HZZ := hide (show Blk WZ (w.heap.size + 1) 6 (sq (.slice x0 s.sg.length m0) (.slice x1 s.tm.length m1) s) 60 ∧ StR w WZ (.returned (.tuple #[stv (.slice x0 s.sg.length m0) (.slice x1 s.tm.length m1) s, .bool true])) s true ∧ Below w.heap.size w WZ from by
    obtain ⟨k1, k2, k3⟩ := put6 HR5.out.res HR5.out.low (Nat.le_succ _) _ _ _ _ _ _ WZ hWZ
    have n0 := HY.out.o0.ne_blk HR5.out.res (by decide)
    have n1 := HY.out.o1.ne_blk HR5.out.res (by decide)
    exact ⟨k1, ⟨_, _, rfl, AnsL.of (HY.out.o0.other k3 (fun q hq e => n0 (by rw [hq, e]))) (HY.out.o1.other k3 (fun q hq e => n1 (by rw [hq, e]))) HY.out.ap⟩, k2⟩)
  have HWZ := hide hWZ
  clear hWZ HR5 HY
  go_wp2
  rw [HWZ.out]
  clear r0 r1 r2 r3 r4 r5 t0 t1 t2 t3 t4 t5
  obtain ⟨⟨r0, r1, r2, r3, r4, r5⟩, -⟩ := HZZ.out.1.hex
  exact bodyPost_ret (v := .tuple #[stv (.slice x0 s.sg.length m0) (.slice x1 s.tm.length m1) s, .bool true]) (by simp only [results, Tryz.results35, go_sem]; simp [go_sem, r0, r1, r2, r3, r4, r5]) rfl HZZ.out.2
end Go.Proofs.YtfkeokglifpkoaaGreatDoor

/-
  The law of StateOf, walked, wherever both texts tell the same. Condition: the table knownKinds reads as the program's text lays it.
-/
namespace Go.Proofs.YtfkeokglifpkoaaGreatDoor
open Go.RowKit M
open Go.Sort (grow)
set_option maxRecDepth 20000 in
set_option maxHeartbeats 16000000 in
theorem law_StateOf_run (id ver : Int) (v : Value) (bs : Brs) (w : World) (hv : BrsOf w v bs) (hf : Fine bs) (hkk : KK w)
    (hC : FineS bs → ∃ (s : St) (r0 : Bool), ShortT s ∧ (∀ (v : Value) (w : World), BrsOf w v bs → CapOk v → Calls Tryz.prog 34 #[rv id ver v] w fun e w' => StR w w' e s r0 ∧ Below w.heap.size w w') ∧
      (∀ (v : Value) (w : World), BrsOf w v bs → KK w → Calls Tryz.prog 35 #[rv id ver v] w fun e w' => StR w w' e s r0 ∧ Below w.heap.size w w')) :
    Calls Tryz.prog 9 #[rv id ver v] w fun e w' => e = .returned (.bool true) ∧ Below w.heap.size w w' := by
  obtain ⟨a, c, rfl⟩ := hv.form
  have hb0 := low1 w (.cells #[.int .i64 id, .int .i64 ver, .slice a bs.length c] 26)
  have HN0 := hide (new3 w (.int .i64 id) (.int .i64 ver) (.slice a bs.length c) 26)
  have HV := hide hv
  have HF := hide hf
  have HK := hide hkk
  have HC := hide hC
  clear hv hf hkk hC
  by_cases hfit : bs.length + wb bs ≤ 1048576
  case neg =>
    have hz := szr_no (left := 1048576) (n := bs.length + wb bs) (by omega)
    have hge : szr 1048576 (bs.length + wb bs) < 0 := by rw [hz]; omega
    clear hz HC HN0
    go_enter Tryz.func9, Tryz.ntmps9
    go_wp2_with fail
    refine (sz_region id ver _ bs 1048576 _ (HV.out.below hb0) HF.out (by decide) (by decide)).mono ?_
    rintro e w1 ⟨rfl, hb⟩
    have hb1 := hb0.trans (hb.mono hb0.size)
    clear hb
    go_wp2
    go_ret
    exact ⟨rfl, hb1⟩
  have hz := szr_yes (left := 1048576) (n := bs.length + wb bs) (by omega)
  have hge : ¬ (szr 1048576 (bs.length + wb bs) < 0) := by rw [hz]; omega
  have HS := hide (fine_small HF.out hfit)
  obtain ⟨s, r0, hsh, hS, hI⟩ := HC.out HS.out
  obtain ⟨mm, hmm⟩ : ∃ mm, 1 + s.sg.length + s.tm.length = mm := ⟨_, rfl⟩
  have HM := hide hmm
  have hm0 : ¬ ((mm : Int) < 0) := by omega
  have hm1 : ((mm : Int) != (mm : Int)) = false := by simp
  have HSH := hide hsh
  have CS := hide hS
  have CI := hide hI
  have HWL := hide (show wb bs ≤ 1048576 by omega)
  have er0 : (r0 != r0) = false := by simp
  clear hz HC hS hI hfit hsh hmm
  go_enter Tryz.func9, Tryz.ntmps9
  go_wp2_with fail
  refine (sz_region id ver _ bs 1048576 _ (HV.out.below hb0) HF.out (by decide) (by decide)).mono ?_
  rintro e w1 ⟨rfl, hb⟩
  have hb1 := hb0.trans (hb.mono hb0.size)
  have HN1 := hide (HN0.out.down hb)
  clear hb hb0 HN0
  obtain ⟨⟨d0, d1, d2⟩, -⟩ := HN1.out.tri
  go_wp2_with fail
  refine (to_region id ver _ bs _ (HV.out.below hb1) HS.out).mono ?_
  rintro e w3 ⟨⟨g3, ps3, rfl, hO, hps⟩, hb⟩
  have hx := hO.brs
  rw [hps] at hx
  have HX3 := hide hx
  have hb3 := hb1.trans (hb.mono hb1.size)
  have HN3 := hide (HN1.out.down hb)
  clear hb hb1 hO hps hx HN1 d0 d1 d2
  go_wp2_with fail
  refine (CS.out _ _ HX3.out (Nat.le_refl _)).mono ?_
  rintro e w5 ⟨⟨y3, y4, rfl, hO5⟩, hb⟩
  obtain ⟨a3, c3, rfl⟩ := hO5.o0.form
  obtain ⟨a4, c4, rfl⟩ := hO5.o1.form
  obtain ⟨gW, hgW⟩ : ∃ gW, w5.heap.size = gW := ⟨_, rfl⟩
  obtain ⟨A, hA⟩ : ∃ A, w5.alloc (.cells (sarr (.slice a3 s.sg.length c3) (.slice a4 s.tm.length c4) s) 60) = A := ⟨_, rfl⟩
  have h5A : Below w5.heap.size w5 A := by rw [← hA]; exact low1 _ _
  have hWA : Blk A gW 6 (sq (.slice a3 s.sg.length c3) (.slice a4 s.tm.length c4) s) 60 := by rw [← hA, ← hgW]; exact new6 _ _ _ _ _ _ _ _
  have h4A := hb.trans (h5A.mono hb.size)
  have hbA := hb3.trans (h4A.mono hb3.size)
  have hxA : StQ A (.slice a3 s.sg.length c3) (.slice a4 s.tm.length c4) s := hO5.q.below h5A
  have HXA := hide hxA
  have HWA := hide hWA
  have HNA := hide (HN3.out.down h4A)
  have HVA := hide (HV.out.below hbA)
  have HA := hide hA
  have HgW := hide hgW
  have hdA : Blk (w5.alloc (.cells (sarr (.slice a3 s.sg.length c3) (.slice a4 s.tm.length c4) s) 60)) w.heap.size 3 (q3 (.int .i64 id) (.int .i64 ver) (.slice a bs.length c)) 26 := by rw [hA]; exact HNA.out
  obtain ⟨⟨d0, d1, d2⟩, -⟩ := hdA.tri
  clear hb hb3 HX3 hO5 hxA hWA h5A h4A hA hgW HN3 hdA
  go_wp2_with fail
  rw [HA.out, HgW.out]
  clear HA HgW d0 d1 d2
  refine (to_region id ver _ bs _ HVA.out HS.out).mono ?_
  rintro e w6 ⟨⟨g6, ps6, rfl, hO6, hps6⟩, hb6⟩
  obtain ⟨gY, hgY⟩ : ∃ gY, w6.heap.size = gY := ⟨_, rfl⟩
  obtain ⟨w7, hw7⟩ : ∃ w7, w6.alloc (.cells #[.int .i64 id, .int .i64 ver, .slice (some ⟨g6, 0, none⟩) bs.length bs.length] 34) = w7 := ⟨_, rfl⟩
  have h67 : Below w6.heap.size w6 w7 := by rw [← hw7]; exact low1 _ _
  have hY7 : Blk w7 gY 3 (q3 (.int .i64 id) (.int .i64 ver) (.slice (some ⟨g6, 0, none⟩) bs.length bs.length)) 34 := by rw [← hw7, ← hgY]; exact new3 _ _ _ _ _
  have HIN := hide (show Within A.heap.size gY (.slice (some ⟨g6, 0, none⟩) bs.length bs.length) ps6 by rw [← hgY]; exact hO6.within)
  have HPS := hide hps6
  have hAY : A.heap.size ≤ gY := by rw [← hgY]; exact hb6.size
  have hY7s : gY < w7.heap.size := hY7.lt
  have hs7 := hb6.trans (h67.mono hb6.size)
  have HP7 := hide (hO6.down h67)
  have HY7 := hide hY7
  have Hw7 := hide hw7
  have HgY := hide hgY
  obtain ⟨⟨e0, e1, e2⟩, -⟩ := hY7.tri
  rw [← hw7, ← hgY] at e0 e1 e2
  clear hb6 hO6 hps6 h67 hY7 hgY hw7
  go_wp2_with fail
  rw [Hw7.out, HgY.out]
  clear Hw7 HgY e0 e1 e2
  have HXP := hide (show BrsOf w7 (.slice (some ⟨g6, 0, none⟩) bs.length bs.length) bs by have := HP7.out.brs; rwa [HPS.out] at this)
  have hb7 := hbA.trans (hs7.mono hbA.size)
  refine (CI.out _ _ HXP.out (HK.out.below hb7)).mono ?_
  rintro e w10 ⟨⟨y6, y7, rfl, hO10⟩, hb⟩
  obtain ⟨a6, c6, rfl⟩ := hO10.o0.form
  obtain ⟨a7, c7, rfl⟩ := hO10.o1.form
  obtain ⟨gG, hgG⟩ : ∃ gG, w10.heap.size = gG := ⟨_, rfl⟩
  obtain ⟨w11, hw11⟩ : ∃ w11, w10.alloc (.cells (sarr (.slice a6 s.sg.length c6) (.slice a7 s.tm.length c7) s) 60) = w11 := ⟨_, rfl⟩
  have h1011 : Below w10.heap.size w10 w11 := by rw [← hw11]; exact low1 _ _
  have hG11 : Blk w11 gG 6 (sq (.slice a6 s.sg.length c6) (.slice a7 s.tm.length c7) s) 60 := by rw [← hw11, ← hgG]; exact new6 _ _ _ _ _ _ _ _
  have h711 := hb.trans (h1011.mono hb.size)
  have hs11 := hs7.trans (h711.mono hs7.size)
  have HO11 := hide (show AnsL w11 w7.heap.size gG (.slice a6 s.sg.length c6) (.slice a7 s.tm.length c7) s.sg s.tm by rw [← hgG]; exact hO10.down h1011)
  have h7G : w7.heap.size ≤ gG := by rw [← hgG]; exact hb.size
  have HG11 := hide hG11
  have HP11 := hide (HP7.out.down h711)
  have HY11 := hide (HY7.out.down h711)
  obtain ⟨⟨p0, p1, p2, p3, p4, p5⟩, -⟩ := (HWA.out.down hs11).hex
  obtain ⟨⟨q0, q1, q2, q3, q4, q5⟩, -⟩ := HG11.out.hex
  rw [← hw11] at p0 p1 p2 p3 p4 p5 q0 q1 q2 q3 q4 q5
  have Hw11 := hide hw11
  have HgG := hide hgG
  clear hb hO10 hgG hw11 h1011 hG11 h711 hs7 hb7 HXP HP7 HY7
  go_wp2_with fail
  rw [HgG.out]
  go_wp2_with fail
  rw [Hw11.out]
  clear Hw11 HgG p0 p1 p2 p3 p4 p5 q0 q1 q2 q3 q4 q5
  refine (eq_state _ _ _ _ s _ HO11.out.q (HXA.out.below hs11) HSH.out).mono ?_
  rintro e w12 ⟨rfl, hb⟩
  have hs12 := hs11.trans (hb.mono hs11.size)
  have HO12 := hide (HO11.out.down hb)
  have HG12 := hide (HG11.out.down hb)
  have HP12 := hide (HP11.out.down hb)
  have HY12 := hide (HY11.out.down hb)
  clear hb hs11 HO11 HG11 HP11 HY11
  obtain ⟨⟨d0, d1, d2⟩, -⟩ := (HNA.out.down hs12).tri
  obtain ⟨⟨e0, e1, e2⟩, -⟩ := HY12.out.tri
  have HMX := hide (show ∀ wx wy : World, wx.heap = w12.heap → Below wx.heap.size wx wy → wy.cell? ⟨gY, 0, none⟩ = some (.int .i64 id) ∧ wy.cell? ⟨gY, 1, none⟩ = some (.int .i64 ver) ∧ wy.cell? ⟨gY, 2, none⟩ = some (.slice (some ⟨g6, 0, none⟩) bs.length bs.length) from fun wx wy hh hb => by
    have h : Blk wx gY 3 (q3 (.int .i64 id) (.int .i64 ver) (.slice (some ⟨g6, 0, none⟩) bs.length bs.length)) 34 := by unfold Blk; rw [hh]; exact HY12.out
    exact (h.down hb).tri.1)
  have HXX := hide (show BrsOf w12 (.slice (some ⟨g6, 0, none⟩) bs.length bs.length) bs by have := HP12.out.brs; rwa [HPS.out] at this)
  go_wp2_with fail
  go_cut [45] from 41 (fun bb wx => bb = .bool false ∧ Hid (Below w12.heap.size w12 wx))
  case first =>
    go_region_with (first | (go_at_call 14; refine (to_region id ver _ bs _ (HVA.out.below hs12.drew) HS.out).mono ?_; rintro e wx ⟨⟨gx, psx, rfl, hOx, hpsx⟩, hbx⟩; have hxx := hOx.brs; rw [hpsx] at hxx; have HXN := hide hxx; clear hxx hOx hpsx; obtain ⟨m0, m1, m2⟩ := HMX.out w12.drew wx rfl hbx) | (go_at_call 16; refine (eq_region id ver _ _ bs _ ((HXX.out.below ((Below.refl w12.heap.size w12).drew)).below hbx) HXN.out HS.out).mono ?_; rintro e wy ⟨rfl, hby⟩))
    all_goals
      go_wp2_with fail
      go_meet
      exact ⟨rfl, hide (((Below.refl w12.heap.size w12).drew.trans hbx).trans (hby.mono hbx.size))⟩
  case rest =>
  rename World => w14
  obtain ⟨rfl, HCC⟩ := hcut
  have hs14 := hs12.trans (HCC.out.mono hs12.size)
  have HO14 := hide (HO12.out.down HCC.out)
  have HG14 := hide (HG12.out.down HCC.out)
  have HP14 := hide (HP12.out.down HCC.out)
  have HY14 := hide (HY12.out.down HCC.out)
  clear hs12 HO12 HG12 HP12 HY12 HCC HMX HXX d0 d1 d2 e0 e1 e2
  have HEV := hide (show evn ps6 ≤ 1048576 from by
    have := evn_wb ps6
    rw [HPS.out] at this
    have := HWL.out
    omega)
  obtain ⟨⟨e0, e1, e2⟩, -⟩ := HY14.out.tri
  go_wp2_with fail
  refine (mark_region id ver A.heap.size 1 A.heap.size gY _ ps6 _ HP14.out HIN.out (by have := congrArg List.length HPS.out; rw [bsP_len] at this; rw [this]; exact HS.out.1) (fun q hq => (HS.out.2 q.2 (by rw [← HPS.out]; exact List.mem_map_of_mem hq)).1) (Nat.le_refl _) (by have := HEV.out; omega)).mono ?_
  rintro e w16 ⟨rfl, -, hk⟩
  have hs16 := hs14.trans (hk.below (Nat.le_refl _) hs14.size)
  have HO16 := hide (HO14.out.kept hk (by omega))
  have HG16 := hide (hk.blk HG14.out (.inr (by omega)))
  obtain ⟨k1, hk1⟩ : ∃ k1, 1 + 4 * evn ps6 = k1 := ⟨_, rfl⟩
  rw [hk1]
  have hk20 : ¬ ((k1 : Int) < 0) := by omega
  clear hs14 HO14 HG14 HP14 HY14 hk e0 e1 e2 HIN HEV hk1
  obtain ⟨⟨p0, p1, p2, p3, p4, p5⟩, -⟩ := HG16.out.hex
  obtain ⟨⟨q0, q1, q2, q3, q4, q5⟩, -⟩ := (HWA.out.down hs16).hex
  go_wp2_with fail
  refine (eq_state _ _ _ _ s _ HO16.out.q (HXA.out.below hs16) HSH.out).mono ?_
  rintro e w17 ⟨rfl, hb⟩
  have hs17 := hs16.trans (hb.mono hs16.size)
  have HO17 := hide (HO16.out.down hb)
  have HG17 := hide (HG16.out.down hb)
  clear hb hs16 HO16 HG16 p0 p1 p2 p3 p4 p5 q0 q1 q2 q3 q4 q5
  obtain ⟨⟨p0, p1, p2, p3, p4, p5⟩, -⟩ := HG17.out.hex
  go_wp2_with fail
  refine (mark_state w7.heap.size gG _ _ s _ HO17.out HSH.out (Nat.le_of_lt HG17.out.lt)).mono ?_
  rw [HM.out]
  rintro e w18 ⟨rfl, hOm, hk⟩
  have hs18 := hs17.trans (hk.below (by have := hs17.size; omega) hs17.size)
  have HO18 := hide hOm
  have HG18 := hide (hk.blk HG17.out (.inr (Nat.le_refl _)))
  clear hs17 HO17 HG17 hOm hk p0 p1 p2 p3 p4 p5
  obtain ⟨⟨p0, p1, p2, p3, p4, p5⟩, -⟩ := HG18.out.hex
  go_wp2_with fail
  refine (held_state w7.heap.size gG _ _ s _ HO18.out HSH.out).mono ?_
  rw [HM.out]
  rintro e w19 ⟨rfl, hb⟩
  have hs19 := hs18.trans (hb.mono hs18.size)
  have HO19 := hide (HO18.out.down hb)
  have HG19 := hide (HG18.out.down hb)
  clear hb hs18 HO18 HG18 p0 p1 p2 p3 p4 p5
  obtain ⟨⟨d0, d1, d2⟩, -⟩ := (HNA.out.down hs19).tri
  go_wp2_with fail
  refine (to_region id ver _ bs _ (HVA.out.below hs19) HS.out).mono ?_
  rintro e w20 ⟨⟨g20, ps20, rfl, hO, hps⟩, hb⟩
  have hx := hO.brs
  rw [hps] at hx
  have HX20 := hide hx
  have hs20 := hs19.trans (hb.mono hs19.size)
  have HO20 := hide (HO19.out.down hb)
  have HG20 := hide (HG19.out.down hb)
  have hb20 := hbA.trans (hs20.mono hbA.size)
  clear hb hs19 HO19 HG19 hO hps hx d0 d1 d2
  go_wp2_with fail
  refine (CI.out _ _ HX20.out (HK.out.below hb20)).mono ?_
  rintro e w22 ⟨⟨y8, y9, rfl, hO22⟩, hb⟩
  obtain ⟨a8, c8, rfl⟩ := hO22.o0.form
  obtain ⟨a9, c9, rfl⟩ := hO22.o1.form
  obtain ⟨gH, hgH⟩ : ∃ gH, w22.heap.size = gH := ⟨_, rfl⟩
  obtain ⟨w23, hw23⟩ : ∃ w23, w22.alloc (.cells (sarr (.slice a8 s.sg.length c8) (.slice a9 s.tm.length c9) s) 60) = w23 := ⟨_, rfl⟩
  have h2223 : Below w22.heap.size w22 w23 := by rw [← hw23]; exact low1 _ _
  have hH23 : Blk w23 gH 6 (sq (.slice a8 s.sg.length c8) (.slice a9 s.tm.length c9) s) 60 := by rw [← hw23, ← hgH]; exact new6 _ _ _ _ _ _ _ _
  have h2023 := hb.trans (h2223.mono hb.size)
  have hs23 := hs20.trans (h2023.mono hs20.size)
  have HO23 := hide (HO20.out.down h2023)
  have HG23 := hide (HG20.out.down h2023)
  have HXH := hide (hO22.q.below h2223)
  obtain ⟨⟨p0, p1, p2, p3, p4, p5⟩, -⟩ := (HWA.out.down hs23).hex
  obtain ⟨⟨q0, q1, q2, q3, q4, q5⟩, -⟩ := hH23.hex
  rw [← hw23] at p0 p1 p2 p3 p4 p5 q0 q1 q2 q3 q4 q5
  have Hw23 := hide hw23
  have HgH := hide hgH
  clear hb hO22 hw23 hgH h2223 hH23 h2023 hs20 hb20 HO20 HG20 HX20
  go_wp2_with fail
  rw [HgH.out]
  go_wp2_with fail
  rw [Hw23.out]
  clear Hw23 HgH p0 p1 p2 p3 p4 p5 q0 q1 q2 q3 q4 q5
  refine (eq_state _ _ _ _ s _ HXH.out (HXA.out.below hs23) HSH.out).mono ?_
  rintro e w24 ⟨rfl, hb⟩
  have hs24 := hs23.trans (hb.mono hs23.size)
  have HO24 := hide (HO23.out.down hb)
  have HG24 := hide (HG23.out.down hb)
  clear hb hs23 HO23 HG23 HXH
  obtain ⟨⟨p0, p1, p2, p3, p4, p5⟩, -⟩ := HG24.out.hex
  go_wp2_with fail
  refine (held_state w7.heap.size gG _ _ s _ HO24.out HSH.out).mono ?_
  rw [HM.out]
  rintro e w25 ⟨rfl, hb⟩
  have hs25 := hs24.trans (hb.mono hs24.size)
  have hbz := hbA.trans (hs25.mono hbA.size)
  clear hb hs24 HO24 HG24 HV HF HK HS CS CI HSH HXA HWA HNA HVA HPS HM HWL p0 p1 p2 p3 p4 p5
  go_wp2
  go_ret
  exact ⟨rfl, hbz⟩
end Go.Proofs.YtfkeokglifpkoaaGreatDoor

/-
  The law of StateOf: both texts tell the same. Condition: the table knownKinds reads as the program's text lays it.
-/
namespace Go.Proofs.YtfkeokglifpkoaaGreatDoor
open Go.RowKit M
theorem law_stateOf (id ver : Int) (v : Value) (bs : Brs) (w : World) (hv : BrsOf w v bs) (hf : Fine bs) (hkk : KK w) :
    Calls Tryz.prog 9 #[rv id ver v] w fun e w' => e = .returned (.bool true) ∧ Below w.heap.size w w' :=
  law_StateOf_run id ver v bs w hv hf hkk (fun hs => by
    obtain ⟨b, hb⟩ := bp_ex (GdR ⟨id, ver, bs⟩)
    cases b
    · exact ⟨zst, false, ⟨Nat.zero_le _, Nat.zero_le _⟩, fun v w h hco => spec_state_no id ver v bs w h hs hco hb, fun v w h hk => impl_state_no id ver v bs w h hs hk hb⟩
    · have hg : GdR ⟨id, ver, bs⟩ := hb.1 rfl
      exact ⟨stB bs, true, (good_short (stB_good hg.2.2.1)).1, fun v w h hco => spec_state_ok id ver v bs w h hs hco hg, fun v w h hk => impl_state_ok id ver v bs w h hs hk hg⟩)
end Go.Proofs.YtfkeokglifpkoaaGreatDoor

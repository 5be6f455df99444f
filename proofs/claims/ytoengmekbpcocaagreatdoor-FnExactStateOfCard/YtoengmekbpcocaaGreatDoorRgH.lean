/-
  StateOf in both texts. Condition: the table knownKinds reads as the program's text lays it.
-/
import Derived.Test.YtoengmekbpcocaaGreatDoorRgS
import Derived.Test.YtoengmekbpcocaaGreatDoorRgT
import Derived.Test.YtoengmekbpcocaaGreatDoorStXS
import Derived.Test.YtoengmekbpcocaaGreatDoorStF
namespace Go.Proofs.YtoengmekbpcocaaGreatDoor
open Go.RowKit M
open Clk (upd upd_same upd_other)
open Go.Sort (grow)
namespace M
theorem ansZ (w : World) (lo hi : Nat) : AnsL w lo hi (.slice none 0 0) (.slice none 0 0) [] [] := ⟨OwnT.nil _ _, OwnT.nil _ _, fun g h => (by cases h), fun g h => (by cases h), fun g h => (by cases h)⟩
def StR (w w' : World) (e : Ending) (s : St) (b : Bool) : Prop := ∃ u0 u1, e = .returned (.tuple #[stv u0 u1 s, .bool b]) ∧ AnsL w' w.heap.size w'.heap.size u0 u1 s.sg s.tm
/-- A function's boxes: the region that came in, the state that is answered. -/
structure R2S (w W : World) (id ver : Int) (v : Value) : Prop where
  low : Below w.heap.size w W
  arg : Blk W w.heap.size 3 (q3 (.int .i64 id) (.int .i64 ver) v) 44
  res : Blk W (w.heap.size + 1) 6 (q6 (.int .i64 0) (.int .i64 0) (.bool false) (.int .i64 0) (.slice none 0 0) (.slice none 0 0)) 69
  big : w.heap.size + 2 ≤ W.heap.size
theorem R2S.down {w W W' : World} {id ver : Int} {v : Value} (h : R2S w W id ver v) (hb : Below W.heap.size W W') : R2S w W' id ver v :=
  ⟨h.low.trans (hb.mono h.low.size), h.arg.down hb, h.res.down hb, Nat.le_trans h.big hb.size⟩
theorem R2S.new (w : World) (id ver : Int) (v : Value) : R2S w ((w.alloc (.cells #[.int .i64 id, .int .i64 ver, v] 44)).alloc (.cells #[.int .i64 0, .int .i64 0, .bool false, .int .i64 0, .slice none 0 0, .slice none 0 0] 69)) id ver v := by
  refine ⟨((Below.refl _ w).alloc (Nat.le_refl _) _).alloc (by simp) _, (new3 w _ _ _ 44).alloc _, ?_, by simp⟩
  have := new6 (w.alloc (.cells #[.int .i64 id, .int .i64 ver, v] 44)) (.int .i64 0) (.int .i64 0) (.bool false) (.int .i64 0) (.slice none 0 0) (.slice none 0 0) 69
  rw [World.size_alloc] at this; exact this
end M
set_option maxRecDepth 20000 in
set_option maxHeartbeats 8000000 in
theorem spec_state_no (id ver : Int) (v : Value) (bs : Brs) (w : World) (hv : BrsOf w v bs) (hf : FineS bs) (hco : CapOk v) (hb : BP false (GdR ⟨id, ver, bs⟩)) :
    Calls Tryz.prog 46 #[rv id ver v] w fun e w' => StR w w' e zst false ∧ Below w.heap.size w w' := by
  have HF := hide hf
  have HB := hide hb
  have HCO := hide hco
  obtain ⟨a1, c1, rfl⟩ := hv.form
  obtain ⟨W, hW⟩ : ∃ W, (w.alloc (.cells #[.int .i64 id, .int .i64 ver, .slice a1 bs.length c1] 44)).alloc (.cells #[.int .i64 0, .int .i64 0, .bool false, .int .i64 0, .slice none 0 0, .slice none 0 0] 69) = W := ⟨_, rfl⟩
  have HR := hide (show R2S w W id ver (.slice a1 bs.length c1) from by rw [← hW]; exact R2S.new w _ _ _)
  have HV := hide (hv.below HR.out.low)
  have HW := hide hW
  obtain ⟨⟨d0, d1, d2⟩, -⟩ := HR.out.arg.tri
  rw [← hW] at d0 d1 d2
  clear hv hf hb hco hW
  have HBX := hide HB.out
  go_enter Tryz.func46, Tryz.ntmps46
  go_wp2_with fail
  rw [HW.out]
  clear HW d0 d1 d2
  refine (spec_goodR id ver _ bs false _ HV.out HF.out HCO.out HBX.out).mono ?_
  rintro e w1 ⟨rfl, hb1⟩
  have HR1 := hide (HR.out.down hb1)
  obtain ⟨⟨r0, r1, r2, r3, r4, r5⟩, t0, t1, t2, t3, t4, t5⟩ := HR1.out.res.hex
  obtain ⟨WZ, hWZ⟩ : ∃ WZ, (((((w1.setCell ⟨w.heap.size + 1, 0, none⟩ (.int .i64 0)).setCell ⟨w.heap.size + 1, 1, none⟩ (.int .i64 0)).setCell ⟨w.heap.size + 1, 2, none⟩ (.bool false)).setCell ⟨w.heap.size + 1, 3, none⟩ (.int .i64 0)).setCell ⟨w.heap.size + 1, 4, none⟩ (.slice none 0 0)).setCell ⟨w.heap.size + 1, 5, none⟩ (.slice none 0 0) = WZ := ⟨_, rfl⟩
  obtain ⟨k1, k2, -⟩ := put6 HR1.out.res HR1.out.low (Nat.le_succ _) _ _ _ _ _ _ WZ hWZ
  have HWZ := hide hWZ
  have HZ := hide k1
  clear hWZ k1
  go_wp2
  rw [HWZ.out]
  clear r0 r1 r2 r3 r4 r5 t0 t1 t2 t3 t4 t5
  obtain ⟨⟨r0, r1, r2, r3, r4, r5⟩, -⟩ := HZ.out.hex
  exact bodyPost_ret (v := .tuple #[stv (.slice none 0 0) (.slice none 0 0) zst, .bool false]) (by simp only [results, Tryz.results46, go_sem]; simp [go_sem, r0, r1, r2, r3, r4, r5, zst]) rfl ⟨⟨_, _, rfl, ansZ _ _ _⟩, k2⟩
set_option maxRecDepth 20000 in
set_option maxHeartbeats 8000000 in
theorem spec_state_ok (id ver : Int) (v : Value) (bs : Brs) (w : World) (hv : BrsOf w v bs) (hf : FineS bs) (hco : CapOk v) (hb : GdR ⟨id, ver, bs⟩) :
    Calls Tryz.prog 46 #[rv id ver v] w fun e w' => StR w w' e (stB bs) true ∧ Below w.heap.size w w' := by
  obtain ⟨es, hes⟩ : ∃ es, cB bs = es := ⟨_, rfl⟩
  obtain ⟨n, hn⟩ : ∃ n, es.length = n := ⟨_, rfl⟩
  obtain ⟨s, hs⟩ : ∃ s, stB bs = s := ⟨_, rfl⟩
  have hh := cB_hist hb.2.2.1
  rw [hes] at hh
  have hn60 : n ≤ 60 := by rw [← hn]; exact hh.1
  have hgs := stB_good hb.2.2.1
  rw [hs] at hgs
  have HSH := hide (good_short hgs).1
  have HES := hide hes
  have HNN := hide hn
  have HSS := hide hs
  have HHI := hide hh
  rw [hs]
  clear hes hn hs hh hgs
  have HF := hide hf
  have HB := hide hb
  have HCO := hide hco
  obtain ⟨a1, c1, rfl⟩ := hv.form
  obtain ⟨W, hW⟩ : ∃ W, (w.alloc (.cells #[.int .i64 id, .int .i64 ver, .slice a1 bs.length c1] 44)).alloc (.cells #[.int .i64 0, .int .i64 0, .bool false, .int .i64 0, .slice none 0 0, .slice none 0 0] 69) = W := ⟨_, rfl⟩
  have HR := hide (show R2S w W id ver (.slice a1 bs.length c1) from by rw [← hW]; exact R2S.new w _ _ _)
  have HV := hide (hv.below HR.out.low)
  have HW := hide hW
  obtain ⟨⟨d0, d1, d2⟩, -⟩ := HR.out.arg.tri
  rw [← hW] at d0 d1 d2
  clear hv hf hb hco hW
  have HBX := hide (show BP true (GdR ⟨id, ver, bs⟩) from ⟨fun _ => HB.out, fun _ => rfl⟩)
  go_enter Tryz.func46, Tryz.ntmps46
  go_wp2_with fail
  rw [HW.out]
  clear HW d0 d1 d2
  refine (spec_goodR id ver _ bs true _ HV.out HF.out HCO.out HBX.out).mono ?_
  rintro e w1 ⟨rfl, hb1⟩
  have HR1 := hide (HR.out.down hb1)
  have HV1 := hide (HV.out.below hb1)
  obtain ⟨⟨d0, d1, d2⟩, -⟩ := HR1.out.arg.tri
  clear hb1 HR HV
  go_wp2_with fail
  refine (spec_hist16 id ver _ bs _ HV1.out HF.out HB.out.2.2.1).mono ?_
  rw [HES.out, HNN.out]
  rintro e w2 ⟨⟨a2, c2, rfl, hsl⟩, hb2⟩
  have HR2 := hide (HR1.out.down hb2)
  have HS2 := hide hsl
  clear hsl hb2 HR1 HV1 d0 d1 d2
  go_wp2_with fail
  refine (spec_fold _ es n _ HS2.out (by have := HNN.out; omega) (fun e he => by have := hist_names HHI.out e he; unfold maxLen; omega) (by rw [← HNN.out]; exact HHI.out.2.1)).mono ?_
  rintro e w3 ⟨⟨u0, u1, rfl, hA⟩, hb3⟩
  have hsk : sk es n = s := by rw [← HSS.out]; unfold stB; rw [HES.out, HNN.out]
  rw [hsk] at hA ⊢
  obtain ⟨x0, m0, rfl⟩ := hA.q.1.form
  obtain ⟨x1, m1, rfl⟩ := hA.q.2.form
  have hal4 := low1 w3 (.cells (sarr (.slice x0 s.sg.length m0) (.slice x1 s.tm.length m1) s) 69)
  have HBX4 := hide (show Blk (w3.alloc (.cells (sarr (.slice x0 s.sg.length m0) (.slice x1 s.tm.length m1) s) 69)) w3.heap.size 6 (sq (.slice x0 s.sg.length m0) (.slice x1 s.tm.length m1) s) 69 from new6 w3 _ _ _ _ _ _ 69)
  have HR4 := hide ((HR2.out.down hb3).down hal4)
  have HA4 := hide (hA.down hal4)
  have hs2 : w.heap.size ≤ w2.heap.size := HR2.out.low.size
  obtain ⟨w4, hw4⟩ : ∃ w4, w3.alloc (.cells (sarr (.slice x0 s.sg.length m0) (.slice x1 s.tm.length m1) s) 69) = w4 := ⟨_, rfl⟩
  rw [hw4] at HBX4 HA4 HR4
  obtain ⟨⟨b0, b1, b2, b3, b4, b5⟩, -⟩ := HBX4.out.hex
  have HW4 := hide hw4
  clear hA hal4 hb3 HR2 HS2 hsk hw4
  go_upto_region 4 with fail
  rw [HW4.out]
  clear HW4
  go_wp2_with fail
  refine (own_state _ _ s _ HA4.out.c HSH.out).mono ?_
  rintro e w5 ⟨⟨y0, y1, rfl, hY⟩, hb5⟩
  have HR5 := hide (HR4.out.down hb5)
  have hs5 : w.heap.size ≤ w4.heap.size := HR4.out.low.size
  have HY := hide (show AnsL w5 w.heap.size w5.heap.size y0 y1 s.sg s.tm from hY.mono hs5 (Nat.le_refl _))
  obtain ⟨z0, n0, rfl⟩ := hY.q.1.form
  obtain ⟨z1, n1, rfl⟩ := hY.q.2.form
  clear hY hb5 HR4 HA4 HBX4 b0 b1 b2 b3 b4 b5
  obtain ⟨⟨r0, r1, r2, r3, r4, r5⟩, t0, t1, t2, t3, t4, t5⟩ := HR5.out.res.hex
  obtain ⟨WZ, hWZ⟩ : ∃ WZ, (((((w5.setCell ⟨w.heap.size + 1, 0, none⟩ (.int .i64 s.st)).setCell ⟨w.heap.size + 1, 1, none⟩ (.int .i64 s.nx)).setCell ⟨w.heap.size + 1, 2, none⟩ (.bool s.ca)).setCell ⟨w.heap.size + 1, 3, none⟩ (.int .i64 s.dn)).setCell ⟨w.heap.size + 1, 4, none⟩ (.slice z0 s.sg.length n0)).setCell ⟨w.heap.size + 1, 5, none⟩ (.slice z1 s.tm.length n1) = WZ := ⟨_, rfl⟩
  have HZZ := hide (show Blk WZ (w.heap.size + 1) 6 (sq (.slice z0 s.sg.length n0) (.slice z1 s.tm.length n1) s) 69 ∧ StR w WZ (.returned (.tuple #[stv (.slice z0 s.sg.length n0) (.slice z1 s.tm.length n1) s, .bool true])) s true ∧ Below w.heap.size w WZ from by
    obtain ⟨k1, k2, k3⟩ := put6 HR5.out.res HR5.out.low (Nat.le_succ _) _ _ _ _ _ _ WZ hWZ
    have n0 := HY.out.o0.ne_blk HR5.out.res (by decide)
    have n1 := HY.out.o1.ne_blk HR5.out.res (by decide)
    exact ⟨k1, ⟨_, _, rfl, AnsL.of (HY.out.o0.other k3 (fun q hq e => n0 (by rw [hq, e]))) (HY.out.o1.other k3 (fun q hq e => n1 (by rw [hq, e]))) HY.out.ap⟩, k2⟩)
  have HWZ := hide hWZ
  clear hWZ HR5 HY
  go_wp2
  rw [HWZ.out]
  clear r0 r1 r2 r3 r4 r5 t0 t1 t2 t3 t4 t5
  obtain ⟨⟨r0, r1, r2, r3, r4, r5⟩, -⟩ := HZZ.out.1.hex
  exact bodyPost_ret (v := .tuple #[stv (.slice z0 s.sg.length n0) (.slice z1 s.tm.length n1) s, .bool true]) (by simp only [results, Tryz.results46, go_sem]; simp [go_sem, r0, r1, r2, r3, r4, r5]) rfl HZZ.out.2
set_option maxRecDepth 20000 in
set_option maxHeartbeats 8000000 in
theorem impl_state_no (id ver : Int) (v : Value) (bs : Brs) (w : World) (hv : BrsOf w v bs) (hf : FineS bs) (hkk : KK w) (hb : BP false (GdR ⟨id, ver, bs⟩)) :
    Calls Tryz.prog 47 #[rv id ver v] w fun e w' => StR w w' e zst false ∧ Below w.heap.size w w' := by
  have HF := hide hf
  have HB := hide hb
  have HK := hide hkk
  obtain ⟨a1, c1, rfl⟩ := hv.form
  obtain ⟨W, hW⟩ : ∃ W, (w.alloc (.cells #[.int .i64 id, .int .i64 ver, .slice a1 bs.length c1] 44)).alloc (.cells #[.int .i64 0, .int .i64 0, .bool false, .int .i64 0, .slice none 0 0, .slice none 0 0] 69) = W := ⟨_, rfl⟩
  have HR := hide (show R2S w W id ver (.slice a1 bs.length c1) from by rw [← hW]; exact R2S.new w _ _ _)
  have HV := hide (hv.below HR.out.low)
  have HW := hide hW
  obtain ⟨⟨d0, d1, d2⟩, -⟩ := HR.out.arg.tri
  rw [← hW] at d0 d1 d2
  clear hv hf hb hkk hW
  have HBX := hide HB.out
  go_enter Tryz.func47, Tryz.ntmps47
  go_wp2_with fail
  rw [HW.out]
  clear HW d0 d1 d2
  refine (impl_goodR id ver _ bs false _ HV.out HF.out (HK.out.below HR.out.low) HBX.out).mono ?_
  rintro e w1 ⟨rfl, hb1⟩
  have HR1 := hide (HR.out.down hb1)
  obtain ⟨⟨r0, r1, r2, r3, r4, r5⟩, t0, t1, t2, t3, t4, t5⟩ := HR1.out.res.hex
  obtain ⟨WZ, hWZ⟩ : ∃ WZ, (((((w1.setCell ⟨w.heap.size + 1, 0, none⟩ (.int .i64 0)).setCell ⟨w.heap.size + 1, 1, none⟩ (.int .i64 0)).setCell ⟨w.heap.size + 1, 2, none⟩ (.bool false)).setCell ⟨w.heap.size + 1, 3, none⟩ (.int .i64 0)).setCell ⟨w.heap.size + 1, 4, none⟩ (.slice none 0 0)).setCell ⟨w.heap.size + 1, 5, none⟩ (.slice none 0 0) = WZ := ⟨_, rfl⟩
  obtain ⟨k1, k2, -⟩ := put6 HR1.out.res HR1.out.low (Nat.le_succ _) _ _ _ _ _ _ WZ hWZ
  have HWZ := hide hWZ
  have HZ := hide k1
  clear hWZ k1
  go_wp2
  rw [HWZ.out]
  clear r0 r1 r2 r3 r4 r5 t0 t1 t2 t3 t4 t5
  obtain ⟨⟨r0, r1, r2, r3, r4, r5⟩, -⟩ := HZ.out.hex
  exact bodyPost_ret (v := .tuple #[stv (.slice none 0 0) (.slice none 0 0) zst, .bool false]) (by simp only [results, Tryz.results47, go_sem]; simp [go_sem, r0, r1, r2, r3, r4, r5, zst]) rfl ⟨⟨_, _, rfl, ansZ _ _ _⟩, k2⟩
set_option maxRecDepth 20000 in
set_option maxHeartbeats 8000000 in
theorem impl_state_ok (id ver : Int) (v : Value) (bs : Brs) (w : World) (hv : BrsOf w v bs) (hf : FineS bs) (hkk : KK w) (hb : GdR ⟨id, ver, bs⟩) :
    Calls Tryz.prog 47 #[rv id ver v] w fun e w' => StR w w' e (stB bs) true ∧ Below w.heap.size w w' := by
  obtain ⟨es, hes⟩ : ∃ es, cB bs = es := ⟨_, rfl⟩
  obtain ⟨n, hn⟩ : ∃ n, es.length = n := ⟨_, rfl⟩
  obtain ⟨s, hs⟩ : ∃ s, stB bs = s := ⟨_, rfl⟩
  have hh := cB_hist hb.2.2.1
  rw [hes] at hh
  have hn60 : n ≤ 60 := by rw [← hn]; exact hh.1
  have hgs := stB_good hb.2.2.1
  rw [hs] at hgs
  have HSH := hide (good_short hgs).1
  have HES := hide hes
  have HNN := hide hn
  have HSS := hide hs
  have HHI := hide hh
  rw [hs]
  clear hes hn hs hh hgs
  have HF := hide hf
  have HB := hide hb
  have HK := hide hkk
  obtain ⟨a1, c1, rfl⟩ := hv.form
  obtain ⟨W, hW⟩ : ∃ W, (w.alloc (.cells #[.int .i64 id, .int .i64 ver, .slice a1 bs.length c1] 44)).alloc (.cells #[.int .i64 0, .int .i64 0, .bool false, .int .i64 0, .slice none 0 0, .slice none 0 0] 69) = W := ⟨_, rfl⟩
  have HR := hide (show R2S w W id ver (.slice a1 bs.length c1) from by rw [← hW]; exact R2S.new w _ _ _)
  have HV := hide (hv.below HR.out.low)
  have HW := hide hW
  obtain ⟨⟨d0, d1, d2⟩, -⟩ := HR.out.arg.tri
  rw [← hW] at d0 d1 d2
  clear hv hf hb hkk hW
  have HBX := hide (show BP true (GdR ⟨id, ver, bs⟩) from ⟨fun _ => HB.out, fun _ => rfl⟩)
  go_enter Tryz.func47, Tryz.ntmps47
  go_wp2_with fail
  rw [HW.out]
  clear HW d0 d1 d2
  refine (impl_goodR id ver _ bs true _ HV.out HF.out (HK.out.below HR.out.low) HBX.out).mono ?_
  rintro e w1 ⟨rfl, hb1⟩
  have HR1 := hide (HR.out.down hb1)
  have HV1 := hide (HV.out.below hb1)
  obtain ⟨⟨d0, d1, d2⟩, -⟩ := HR1.out.arg.tri
  clear hb1 HR HV
  go_wp2_with fail
  refine (impl_current _ bs _ HV1.out HF.out HB.out.2.2.1).mono ?_
  rw [HES.out, HNN.out]
  rintro e w2 ⟨⟨a2, c2, rfl, hsl⟩, hb2⟩
  have HR2 := hide (HR1.out.down hb2)
  have HS2 := hide hsl
  clear hsl hb2 HR1 HV1 d0 d1 d2
  go_wp2_with fail
  refine (impl_fold _ es n _ HS2.out (by have := HNN.out; omega) (fun e he => by have := hist_names HHI.out e he; unfold maxLen; omega) (HK.out.below HR2.out.low) (by rw [← HNN.out]; exact HHI.out.2.1)).mono ?_
  rintro e w3 ⟨⟨u0, u1, rfl, hA⟩, hb3⟩
  have hsk : sk es n = s := by rw [← HSS.out]; unfold stB; rw [HES.out, HNN.out]
  rw [hsk] at hA ⊢
  obtain ⟨x0, m0, rfl⟩ := hA.q.1.form
  obtain ⟨x1, m1, rfl⟩ := hA.q.2.form
  have hal4 := low1 w3 (.cells (sarr (.slice x0 s.sg.length m0) (.slice x1 s.tm.length m1) s) 69)
  have HBX4 := hide (show Blk (w3.alloc (.cells (sarr (.slice x0 s.sg.length m0) (.slice x1 s.tm.length m1) s) 69)) w3.heap.size 6 (sq (.slice x0 s.sg.length m0) (.slice x1 s.tm.length m1) s) 69 from new6 w3 _ _ _ _ _ _ 69)
  have HR4 := hide ((HR2.out.down hb3).down hal4)
  have HA4 := hide (hA.down hal4)
  have hs2 : w.heap.size ≤ w2.heap.size := HR2.out.low.size
  obtain ⟨w4, hw4⟩ : ∃ w4, w3.alloc (.cells (sarr (.slice x0 s.sg.length m0) (.slice x1 s.tm.length m1) s) 69) = w4 := ⟨_, rfl⟩
  rw [hw4] at HBX4 HA4 HR4
  obtain ⟨⟨b0, b1, b2, b3, b4, b5⟩, -⟩ := HBX4.out.hex
  have HW4 := hide hw4
  clear hA hal4 hb3 HR2 HS2 hsk hw4
  go_upto_region 4 with fail
  rw [HW4.out]
  clear HW4
  have HR5 := HR4
  have HY := hide (show AnsL w4 w.heap.size w4.heap.size (.slice x0 s.sg.length m0) (.slice x1 s.tm.length m1) s.sg s.tm from AnsL.of (HA4.out.o0.mono hs2) (HA4.out.o1.mono hs2) HA4.out.ap)
  clear HR4 HA4
  obtain ⟨⟨r0, r1, r2, r3, r4, r5⟩, t0, t1, t2, t3, t4, t5⟩ := HR5.out.res.hex
  obtain ⟨WZ, hWZ⟩ : ∃ WZ, (((((w4.setCell ⟨w.heap.size + 1, 0, none⟩ (.int .i64 s.st)).setCell ⟨w.heap.size + 1, 1, none⟩ (.int .i64 s.nx)).setCell ⟨w.heap.size + 1, 2, none⟩ (.bool s.ca)).setCell ⟨w.heap.size + 1, 3, none⟩ (.int .i64 s.dn)).setCell ⟨w.heap.size + 1, 4, none⟩ (.slice x0 s.sg.length m0)).setCell ⟨w.heap.size + 1, 5, none⟩ (.slice x1 s.tm.length m1) = WZ := ⟨_, rfl⟩
  have HZZ := hide (show Blk WZ (w.heap.size + 1) 6 (sq (.slice x0 s.sg.length m0) (.slice x1 s.tm.length m1) s) 69 ∧ StR w WZ (.returned (.tuple #[stv (.slice x0 s.sg.length m0) (.slice x1 s.tm.length m1) s, .bool true])) s true ∧ Below w.heap.size w WZ from by
    obtain ⟨k1, k2, k3⟩ := put6 HR5.out.res HR5.out.low (Nat.le_succ _) _ _ _ _ _ _ WZ hWZ
    have n0 := HY.out.o0.ne_blk HR5.out.res (by decide)
    have n1 := HY.out.o1.ne_blk HR5.out.res (by decide)
    exact ⟨k1, ⟨_, _, rfl, AnsL.of (HY.out.o0.other k3 (fun q hq e => n0 (by rw [hq, e]))) (HY.out.o1.other k3 (fun q hq e => n1 (by rw [hq, e]))) HY.out.ap⟩, k2⟩)
  have HWZ := hide hWZ
  clear hWZ HR5 HY
  go_wp2
  rw [HWZ.out]
  clear r0 r1 r2 r3 r4 r5 t0 t1 t2 t3 t4 t5
  obtain ⟨⟨r0, r1, r2, r3, r4, r5⟩, -⟩ := HZZ.out.1.hex
  exact bodyPost_ret (v := .tuple #[stv (.slice x0 s.sg.length m0) (.slice x1 s.tm.length m1) s, .bool true]) (by simp only [results, Tryz.results47, go_sem]; simp [go_sem, r0, r1, r2, r3, r4, r5]) rfl HZZ.out.2
end Go.Proofs.YtoengmekbpcocaaGreatDoor

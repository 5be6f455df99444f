/-
  Texts that follow one another, joined: StXI, StXS, StY.
-/
import Derived.Test.YtfkeokglifpkoaaGreatDoorJoin18
/-
  FoldEvents of the program: the state that events make, as many as may come, in memory of its own.
-/
namespace Go.Proofs.YtfkeokglifpkoaaGreatDoor
open Go.RowKit M
open Clk (upd upd_same upd_other)
open Go.Sort (grow)
set_option maxRecDepth 20000 in
set_option maxHeartbeats 8000000 in
theorem impl_fold (v : Value) (es : List Ev) (kf : Nat) (w : World) (hv : SliceOf w v es) (hlen : es.length ≤ 1048576) (hnm : ∀ e ∈ es, e.name.size ≤ maxLen) (hkk : KK w) (hend : M.End es kf) :
    Calls Tryz.prog 76 #[v] w fun e' w' => FoA w w' e' es kf ∧ Below w.heap.size w w' := by
  obtain ⟨a, cap, rfl, hr⟩ := hv
  have HR := hide hr
  have HNM := hide hnm
  have HEND := hide hend
  have HK := hide hkk
  clear hkk
  clear hr hnm hend
  have hbA := (Below.refl w.heap.size w).alloc (Nat.le_refl _) (.cells zarr 60)
  have HRB := hide (show Blk (w.alloc (.cells zarr 60)) w.heap.size 6 (q6 (.int .i64 0) (.int .i64 0) (.bool false) (.int .i64 0) (.slice none 0 0) (.slice none 0 0)) 60 from new6 w _ _ _ _ _ _ 60)
  go_enter Tryz.func76, Tryz.ntmps76
  go_wp2_with fail
  refine (impl_new _).mono ?_
  rintro e' w1 ⟨rfl, hb⟩
  have HF0 := hide (show FB w (w1.alloc (.cells (sarr nil2 nil2 st0) 60)) w1.heap.size (sk es 0) nil2 nil2 from by
    have h1 := hbA.trans (hb.mono hbA.size)
    have hd := (Below.refl w1.heap.size w1).alloc (Nat.le_refl _) (.cells (sarr nil2 nil2 st0) 60)
    exact ⟨h1.trans (hd.mono h1.size), ⟨new6 w1 _ _ _ _ _ _ 60, OwnT.nil _ _, OwnT.nil _ _, fun g _ e => (by cases e), h1.size⟩, (HRB.out.down hb).down hd, by have := hb.size; simp at this; omega⟩)
  clear hb hbA HRB
  go_wp2_with fail
  go_loopw [12] (fun i wr => ∃ (k : Nat) (u0 u1 : Value), k ≤ es.length ∧ i = .int .i64 k ∧ Hid (FB w wr w1.heap.size (sk es k) u0 u1) ∧ Hid (AllM es k)) (fun i _ => es.length - (intOf i).toNat)
  case atStart => exact ⟨0, _, _, Nat.zero_le _, rfl, HF0, hide (fun i e h => absurd h (by omega))⟩
  case round =>
    obtain ⟨k, u0, u1, hk, rfl, HF, HM⟩ := hrel
    clear HF0
    have HGS := hide (HM.out.good hk)
    obtain ⟨s, hs⟩ : ∃ s, sk es k = s := ⟨_, rfl⟩
    have HSK := hide hs
    rw [hs] at HF HGS
    clear hs
    obtain ⟨b0, e0, rfl⟩ := HF.out.m.o0.form
    obtain ⟨b1, e1, rfl⟩ := HF.out.m.o1.form
    obtain ⟨⟨d0, d1, d2, d3, d4, d5⟩, f0, f1, f2, f3, f4, f5⟩ := HF.out.m.box.hex
    obtain ⟨⟨r0, r1, r2, r3, r4, r5⟩, t0, t1, t2, t3, t4, t5⟩ := HF.out.rb.hex
    have hg1 : w1.heap.size < wr.heap.size := HF.out.m.box.lt
    have hg0 : w.heap.size < wr.heap.size := HF.out.rb.lt
    have hne : w.heap.size < w1.heap.size := HF.out.ne
    have hne2 : ¬ w.heap.size = w1.heap.size := by omega
    have hne3 : ¬ w1.heap.size = w.heap.size := by omega
    by_cases hlt : k < es.length
    · obtain ⟨bb, off, rfl, hbb, hrow⟩ := HR.out (by intro h; subst h; simp at hlt)
      obtain ⟨x, hx⟩ : ∃ x, es[k]? = some x := ⟨es[k], List.getElem?_eq_getElem hlt⟩
      obtain ⟨c0, c1, c2, c3⟩ := (hrow k x hx).below HF.out.low hbb
      have hbb2 : bb < wr.heap.size := Nat.lt_of_lt_of_le hbb HF.out.low.size
      have HX := hide hx
      have HXN := hide (HNM.out x (List.mem_of_getElem? hx))
      have hdx := (Below.refl wr.heap.size wr).alloc (Nat.le_refl _) (.cells (evarr x) 74)
      have HF2 := hide (HF.out.down hdx)
      clear hrow hx HR HNM hdx
      obtain ⟨b, hb⟩ := bp_ex (May s x)
      have HB := hide hb
      clear hb
      go_wp2_with fail
      obtain ⟨r, hr⟩ : ∃ r, (b = true → r = raw s x) ∧ (b = false → r = zst) := by
        cases b with
        | true => exact ⟨raw s x, fun _ => rfl, fun h => (by cases h)⟩
        | false => exact ⟨zst, fun h => (by cases h), fun _ => rfl⟩
      have HRR := hide hr
      clear hr
      have HGS2 := hide (good_short HGS.out)
      refine (impl_apply _ _ s x b r _ HF2.out.m.c HGS2.out.1 HGS2.out.2 HXN.out (HK.out.below HF2.out.low) ⟨fun h => ⟨HGS.out, HB.out.1 h⟩, fun h => HB.out.2 h.2⟩ HRR.out).mono ?_
      rintro e' w2 ⟨⟨y0, y1, rfl, hAL⟩, hb2⟩
      obtain ⟨b3, e3, rfl⟩ := hAL.o0.form
      obtain ⟨b4, e4, rfl⟩ := hAL.o1.form
      have HYES := hide (show b = true → r = raw s x ∧ AnsL w2 w.heap.size w2.heap.size (.slice b3 r.sg.length e3) (.slice b4 r.tm.length e4) r.sg r.tm from fun h => ⟨HRR.out.1 h, hAL.mono (by have := HF2.out.low.size; omega) (Nat.le_refl _)⟩)
      clear hAL HRR HGS2
      have HF3 := hide (HF2.out.down hb2)
      clear d0 d1 d2 d3 d4 d5 f0 f1 f2 f3 f4 f5 r0 r1 r2 r3 r4 r5 t0 t1 t2 t3 t4 t5 HF HF2 hb2 hg1 hg0 c0 c1 c2 c3 hbb2
      obtain ⟨⟨d0, d1, d2, d3, d4, d5⟩, f0, f1, f2, f3, f4, f5⟩ := HF3.out.m.box.hex
      obtain ⟨⟨r0, r1, r2, r3, r4, r5⟩, t0, t1, t2, t3, t4, t5⟩ := HF3.out.rb.hex
      have hg1 : w1.heap.size < w2.heap.size := HF3.out.m.box.lt
      have hg0 : w.heap.size < w2.heap.size := HF3.out.rb.lt
      cases b with
      | false =>
        have HKE := hide (show k = kf from M.End.uniq ⟨by omega, HM.out, fun e he => by
          rw [HX.out] at he
          simp only [Option.some.injEq] at he
          subst he
          rw [HSK.out]
          exact fun h => (by have := HB.out.2 h; cases this)⟩ HEND.out)
        obtain ⟨WZ, hWZ⟩ : ∃ WZ, (((((w2.setCell ⟨w.heap.size, 0, none⟩ (.int .i64 s.st)).setCell ⟨w.heap.size, 1, none⟩ (.int .i64 s.nx)).setCell ⟨w.heap.size, 2, none⟩ (.bool s.ca)).setCell ⟨w.heap.size, 3, none⟩ (.int .i64 s.dn)).setCell ⟨w.heap.size, 4, none⟩ (.slice b0 s.sg.length e0)).setCell ⟨w.heap.size, 5, none⟩ (.slice b1 s.tm.length e1) = WZ := ⟨_, rfl⟩
        have hZ := HF3.out.fin WZ hWZ
        have hdn := (Below.refl WZ.heap.size WZ).alloc (Nat.le_refl _) (.cells (sarr (.slice b3 r.sg.length e3) (.slice b4 r.tm.length e4) r) 60)
        have HZZ := hide (show Blk (WZ.alloc (.cells (sarr (.slice b3 r.sg.length e3) (.slice b4 r.tm.length e4) r) 60)) w.heap.size 6 (sq (.slice b0 s.sg.length e0) (.slice b1 s.tm.length e1) s) 60 ∧ FoA w (WZ.alloc (.cells (sarr (.slice b3 r.sg.length e3) (.slice b4 r.tm.length e4) r) 60)) (.returned (.tuple #[stv (.slice b0 s.sg.length e0) (.slice b1 s.tm.length e1) s, .int .i64 (k : Int)])) es kf ∧ Below w.heap.size w (WZ.alloc (.cells (sarr (.slice b3 r.sg.length e3) (.slice b4 r.tm.length e4) r) 60)) from by
          refine ⟨hZ.1.down hdn, ?_, hZ.2.2.trans (hdn.mono hZ.2.2.size)⟩
          rw [← HKE.out]
          unfold FoA
          rw [HSK.out]
          exact ⟨_, _, rfl, (hZ.2.1.down hdn).mono (Nat.le_refl _) hdn.size⟩)
        have HWZ := hide hWZ
        clear hWZ hZ hdn HF3 HYES HB HGS HKE HM
        go_wp2
        rw [HWZ.out]
        clear r0 r1 r2 r3 r4 r5 t0 t1 t2 t3 t4 t5 d0 d1 d2 d3 d4 d5
        obtain ⟨⟨r0, r1, r2, r3, r4, r5⟩, -⟩ := HZZ.out.1.hex
        exact bodyPost_ret (v := .tuple #[stv (.slice b0 s.sg.length e0) (.slice b1 s.tm.length e1) s, .int .i64 (k : Int)]) (by simp only [results, Tryz.results76, go_sem]; simp [go_sem, r0, r1, r2, r3, r4, r5]) rfl HZZ.out.2
      | true =>
        obtain ⟨hr, hAL⟩ := HYES.out rfl
        obtain ⟨WZ, hWZ⟩ : ∃ WZ, (((((w2.setCell ⟨w1.heap.size, 0, none⟩ (.int .i64 r.st)).setCell ⟨w1.heap.size, 1, none⟩ (.int .i64 r.nx)).setCell ⟨w1.heap.size, 2, none⟩ (.bool r.ca)).setCell ⟨w1.heap.size, 3, none⟩ (.int .i64 r.dn)).setCell ⟨w1.heap.size, 4, none⟩ (.slice b3 r.sg.length e3)).setCell ⟨w1.heap.size, 5, none⟩ (.slice b4 r.tm.length e4) = WZ := ⟨_, rfl⟩
        have hZ := HF3.out.put hAL WZ hWZ
        have HM2 := hide (HM.out.succ HX.out (by rw [HSK.out]; exact HB.out.1 rfl))
        have HZZ := hide (show FB w (WZ.alloc (.cells (sarr (.slice b3 r.sg.length e3) (.slice b4 r.tm.length e4) r) 60)) w1.heap.size (sk es (k + 1)) (.slice b3 r.sg.length e3) (.slice b4 r.tm.length e4) from by
          rw [sk_succ HX.out, HSK.out, ← hr]
          exact hZ.down ((Below.refl _ _).alloc (Nat.le_refl _) _))
        have HWZ := hide hWZ
        clear hWZ hZ HF3 HYES HB HGS HM hAL hr
        go_wp2
        rw [HWZ.out]
        exact ⟨⟨k + 1, _, _, by omega, by go_num, HZZ, HM2⟩, by simp [intOf]; omega⟩
    · obtain rfl : k = es.length := by omega
      have HKE := hide (show es.length = kf from M.End.uniq ⟨Nat.le_refl _, HM.out, fun e he => by rw [List.getElem?_eq_none (Nat.le_refl _)] at he; cases he⟩ HEND.out)
      obtain ⟨WZ, hWZ⟩ : ∃ WZ, (((((wr.setCell ⟨w.heap.size, 0, none⟩ (.int .i64 s.st)).setCell ⟨w.heap.size, 1, none⟩ (.int .i64 s.nx)).setCell ⟨w.heap.size, 2, none⟩ (.bool s.ca)).setCell ⟨w.heap.size, 3, none⟩ (.int .i64 s.dn)).setCell ⟨w.heap.size, 4, none⟩ (.slice b0 s.sg.length e0)).setCell ⟨w.heap.size, 5, none⟩ (.slice b1 s.tm.length e1) = WZ := ⟨_, rfl⟩
      have hZ := HF.out.fin WZ hWZ
      have HZZ := hide (show Blk WZ w.heap.size 6 (sq (.slice b0 s.sg.length e0) (.slice b1 s.tm.length e1) s) 60 ∧ FoA w WZ (.returned (.tuple #[stv (.slice b0 s.sg.length e0) (.slice b1 s.tm.length e1) s, .int .i64 (es.length : Int)])) es kf ∧ Below w.heap.size w WZ from by
        refine ⟨hZ.1, ?_, hZ.2.2⟩
        rw [← HKE.out]
        unfold FoA
        rw [HSK.out]
        exact ⟨_, _, rfl, hZ.2.1⟩)
      have HWZ := hide hWZ
      clear hWZ hZ HF HM HKE HR HNM HGS
      go_wp2
      rw [HWZ.out]
      clear r0 r1 r2 r3 r4 r5 t0 t1 t2 t3 t4 t5 d0 d1 d2 d3 d4 d5
      obtain ⟨⟨r0, r1, r2, r3, r4, r5⟩, -⟩ := HZZ.out.1.hex
      exact bodyPost_ret (v := .tuple #[stv (.slice b0 s.sg.length e0) (.slice b1 s.tm.length e1) s, .int .i64 (es.length : Int)]) (by simp only [results, Tryz.results76, go_sem]; simp [go_sem, r0, r1, r2, r3, r4, r5]) rfl HZZ.out.2
end Go.Proofs.YtfkeokglifpkoaaGreatDoor

/-
  l12Fold and FoldEvents of the specification: the state that events make, as many as may come, in memory of its own.
-/
namespace Go.Proofs.YtfkeokglifpkoaaGreatDoor
open Go.RowKit M
open Clk (upd upd_same upd_other)
open Go.Sort (grow)
set_option maxRecDepth 20000 in
set_option maxHeartbeats 8000000 in
theorem spec_fold (v : Value) (es : List Ev) (kf : Nat) (w : World) (hv : SliceOf w v es) (hlen : es.length ≤ 1048576) (hnm : ∀ e ∈ es, e.name.size ≤ maxLen) (hend : M.End es kf) :
    Calls Tryz.prog 73 #[v] w fun e' w' => FoA w w' e' es kf ∧ Below w.heap.size w w' := by
  obtain ⟨a, cap, rfl, hr⟩ := hv
  have HR := hide hr
  have HNM := hide hnm
  have HEND := hide hend
  clear hr hnm hend
  have hbA := (Below.refl w.heap.size w).alloc (Nat.le_refl _) (.cells zarr 60)
  have HRB := hide (show Blk (w.alloc (.cells zarr 60)) w.heap.size 6 (q6 (.int .i64 0) (.int .i64 0) (.bool false) (.int .i64 0) (.slice none 0 0) (.slice none 0 0)) 60 from new6 w _ _ _ _ _ _ 60)
  go_enter Tryz.func73, Tryz.ntmps73
  go_wp2_with fail
  refine (spec_new _).mono ?_
  rintro e' w1 ⟨rfl, hb⟩
  have HF0 := hide (show FB w (w1.alloc (.cells (sarr nil2 nil2 st0) 60)) w1.heap.size (sk es 0) nil2 nil2 from by
    have h1 := hbA.trans (hb.mono hbA.size)
    have hd := (Below.refl w1.heap.size w1).alloc (Nat.le_refl _) (.cells (sarr nil2 nil2 st0) 60)
    exact ⟨h1.trans (hd.mono h1.size), ⟨new6 w1 _ _ _ _ _ _ 60, OwnT.nil _ _, OwnT.nil _ _, fun g _ e => (by cases e), h1.size⟩, (HRB.out.down hb).down hd, by have := hb.size; simp at this; omega⟩)
  clear hb hbA HRB
  go_wp2_with fail
  go_loopw [12] (fun i wr => ∃ (k : Nat) (u0 u1 : Value), k ≤ es.length ∧ i = .int .i64 k ∧ Hid (FB w wr w1.heap.size (sk es k) u0 u1) ∧ Hid (AllM es k)) (fun i _ => es.length - (intOf i).toNat)
  case atStart => exact ⟨0, _, _, Nat.zero_le _, rfl, HF0, hide (fun i e h => absurd h (by omega))⟩
  case round =>
    obtain ⟨k, u0, u1, hk, rfl, HF, HM⟩ := hrel
    clear HF0
    have HGS := hide (HM.out.good hk)
    obtain ⟨s, hs⟩ : ∃ s, sk es k = s := ⟨_, rfl⟩
    have HSK := hide hs
    rw [hs] at HF HGS
    clear hs
    obtain ⟨b0, e0, rfl⟩ := HF.out.m.o0.form
    obtain ⟨b1, e1, rfl⟩ := HF.out.m.o1.form
    obtain ⟨⟨d0, d1, d2, d3, d4, d5⟩, f0, f1, f2, f3, f4, f5⟩ := HF.out.m.box.hex
    obtain ⟨⟨r0, r1, r2, r3, r4, r5⟩, t0, t1, t2, t3, t4, t5⟩ := HF.out.rb.hex
    have hg1 : w1.heap.size < wr.heap.size := HF.out.m.box.lt
    have hg0 : w.heap.size < wr.heap.size := HF.out.rb.lt
    have hne : w.heap.size < w1.heap.size := HF.out.ne
    have hne2 : ¬ w.heap.size = w1.heap.size := by omega
    have hne3 : ¬ w1.heap.size = w.heap.size := by omega
    by_cases hlt : k < es.length
    · obtain ⟨bb, off, rfl, hbb, hrow⟩ := HR.out (by intro h; subst h; simp at hlt)
      obtain ⟨x, hx⟩ : ∃ x, es[k]? = some x := ⟨es[k], List.getElem?_eq_getElem hlt⟩
      obtain ⟨c0, c1, c2, c3⟩ := (hrow k x hx).below HF.out.low hbb
      have hbb2 : bb < wr.heap.size := Nat.lt_of_lt_of_le hbb HF.out.low.size
      have HX := hide hx
      have HXN := hide (HNM.out x (List.mem_of_getElem? hx))
      have hdx := (Below.refl wr.heap.size wr).alloc (Nat.le_refl _) (.cells (evarr x) 74)
      have HF2 := hide (HF.out.down hdx)
      clear hrow hx HR HNM hdx
      obtain ⟨b, hb⟩ := bp_ex (May s x)
      have HB := hide hb
      clear hb
      go_wp2_with fail
      refine (spec_l12 _ _ s x b _ HF2.out.m.c HGS.out HXN.out HB.out).mono ?_
      rintro e' w2 ⟨⟨y0, y1, r, rfl, hC, hyes, -⟩, hb2⟩
      obtain ⟨b3, e3, rfl⟩ := hC.1.1.form
      obtain ⟨b4, e4, rfl⟩ := hC.2.1.form
      have HYES := hide (show b = true → r = raw s x ∧ AnsL w2 w.heap.size w2.heap.size (.slice b3 r.sg.length e3) (.slice b4 r.tm.length e4) r.sg r.tm from fun h => ⟨(hyes h).1, (hyes h).2.mono (by have := HF2.out.low.size; omega) (Nat.le_refl _)⟩)
      clear hC hyes
      have HF3 := hide (HF2.out.down hb2)
      clear d0 d1 d2 d3 d4 d5 f0 f1 f2 f3 f4 f5 r0 r1 r2 r3 r4 r5 t0 t1 t2 t3 t4 t5 HF HF2 hb2 hg1 hg0 c0 c1 c2 c3 hbb2
      obtain ⟨⟨d0, d1, d2, d3, d4, d5⟩, f0, f1, f2, f3, f4, f5⟩ := HF3.out.m.box.hex
      obtain ⟨⟨r0, r1, r2, r3, r4, r5⟩, t0, t1, t2, t3, t4, t5⟩ := HF3.out.rb.hex
      have hg1 : w1.heap.size < w2.heap.size := HF3.out.m.box.lt
      have hg0 : w.heap.size < w2.heap.size := HF3.out.rb.lt
      cases b with
      | false =>
        have HKE := hide (show k = kf from M.End.uniq ⟨by omega, HM.out, fun e he => by
          rw [HX.out] at he
          simp only [Option.some.injEq] at he
          subst he
          rw [HSK.out]
          exact fun h => (by have := HB.out.2 h; cases this)⟩ HEND.out)
        obtain ⟨WZ, hWZ⟩ : ∃ WZ, (((((w2.setCell ⟨w.heap.size, 0, none⟩ (.int .i64 s.st)).setCell ⟨w.heap.size, 1, none⟩ (.int .i64 s.nx)).setCell ⟨w.heap.size, 2, none⟩ (.bool s.ca)).setCell ⟨w.heap.size, 3, none⟩ (.int .i64 s.dn)).setCell ⟨w.heap.size, 4, none⟩ (.slice b0 s.sg.length e0)).setCell ⟨w.heap.size, 5, none⟩ (.slice b1 s.tm.length e1) = WZ := ⟨_, rfl⟩
        have hZ := HF3.out.fin WZ hWZ
        have hdn := (Below.refl WZ.heap.size WZ).alloc (Nat.le_refl _) (.cells (sarr (.slice b3 r.sg.length e3) (.slice b4 r.tm.length e4) r) 60)
        have HZZ := hide (show Blk (WZ.alloc (.cells (sarr (.slice b3 r.sg.length e3) (.slice b4 r.tm.length e4) r) 60)) w.heap.size 6 (sq (.slice b0 s.sg.length e0) (.slice b1 s.tm.length e1) s) 60 ∧ FoA w (WZ.alloc (.cells (sarr (.slice b3 r.sg.length e3) (.slice b4 r.tm.length e4) r) 60)) (.returned (.tuple #[stv (.slice b0 s.sg.length e0) (.slice b1 s.tm.length e1) s, .int .i64 (k : Int)])) es kf ∧ Below w.heap.size w (WZ.alloc (.cells (sarr (.slice b3 r.sg.length e3) (.slice b4 r.tm.length e4) r) 60)) from by
          refine ⟨hZ.1.down hdn, ?_, hZ.2.2.trans (hdn.mono hZ.2.2.size)⟩
          rw [← HKE.out]
          unfold FoA
          rw [HSK.out]
          exact ⟨_, _, rfl, (hZ.2.1.down hdn).mono (Nat.le_refl _) hdn.size⟩)
        have HWZ := hide hWZ
        clear hWZ hZ hdn HF3 HYES HB HGS HKE HM
        go_wp2
        rw [HWZ.out]
        clear r0 r1 r2 r3 r4 r5 t0 t1 t2 t3 t4 t5 d0 d1 d2 d3 d4 d5
        obtain ⟨⟨r0, r1, r2, r3, r4, r5⟩, -⟩ := HZZ.out.1.hex
        exact bodyPost_ret (v := .tuple #[stv (.slice b0 s.sg.length e0) (.slice b1 s.tm.length e1) s, .int .i64 (k : Int)]) (by simp only [results, Tryz.results73, go_sem]; simp [go_sem, r0, r1, r2, r3, r4, r5]) rfl HZZ.out.2
      | true =>
        obtain ⟨hr, hAL⟩ := HYES.out rfl
        obtain ⟨WZ, hWZ⟩ : ∃ WZ, (((((w2.setCell ⟨w1.heap.size, 0, none⟩ (.int .i64 r.st)).setCell ⟨w1.heap.size, 1, none⟩ (.int .i64 r.nx)).setCell ⟨w1.heap.size, 2, none⟩ (.bool r.ca)).setCell ⟨w1.heap.size, 3, none⟩ (.int .i64 r.dn)).setCell ⟨w1.heap.size, 4, none⟩ (.slice b3 r.sg.length e3)).setCell ⟨w1.heap.size, 5, none⟩ (.slice b4 r.tm.length e4) = WZ := ⟨_, rfl⟩
        have hZ := HF3.out.put hAL WZ hWZ
        have HM2 := hide (HM.out.succ HX.out (by rw [HSK.out]; exact HB.out.1 rfl))
        have HZZ := hide (show FB w (WZ.alloc (.cells (sarr (.slice b3 r.sg.length e3) (.slice b4 r.tm.length e4) r) 60)) w1.heap.size (sk es (k + 1)) (.slice b3 r.sg.length e3) (.slice b4 r.tm.length e4) from by
          rw [sk_succ HX.out, HSK.out, ← hr]
          exact hZ.down ((Below.refl _ _).alloc (Nat.le_refl _) _))
        have HWZ := hide hWZ
        clear hWZ hZ HF3 HYES HB HGS HM hAL hr
        go_wp2
        rw [HWZ.out]
        exact ⟨⟨k + 1, _, _, by omega, by go_num, HZZ, HM2⟩, by simp [intOf]; omega⟩
    · obtain rfl : k = es.length := by omega
      have HKE := hide (show es.length = kf from M.End.uniq ⟨Nat.le_refl _, HM.out, fun e he => by rw [List.getElem?_eq_none (Nat.le_refl _)] at he; cases he⟩ HEND.out)
      obtain ⟨WZ, hWZ⟩ : ∃ WZ, (((((wr.setCell ⟨w.heap.size, 0, none⟩ (.int .i64 s.st)).setCell ⟨w.heap.size, 1, none⟩ (.int .i64 s.nx)).setCell ⟨w.heap.size, 2, none⟩ (.bool s.ca)).setCell ⟨w.heap.size, 3, none⟩ (.int .i64 s.dn)).setCell ⟨w.heap.size, 4, none⟩ (.slice b0 s.sg.length e0)).setCell ⟨w.heap.size, 5, none⟩ (.slice b1 s.tm.length e1) = WZ := ⟨_, rfl⟩
      have hZ := HF.out.fin WZ hWZ
      have HZZ := hide (show Blk WZ w.heap.size 6 (sq (.slice b0 s.sg.length e0) (.slice b1 s.tm.length e1) s) 60 ∧ FoA w WZ (.returned (.tuple #[stv (.slice b0 s.sg.length e0) (.slice b1 s.tm.length e1) s, .int .i64 (es.length : Int)])) es kf ∧ Below w.heap.size w WZ from by
        refine ⟨hZ.1, ?_, hZ.2.2⟩
        rw [← HKE.out]
        unfold FoA
        rw [HSK.out]
        exact ⟨_, _, rfl, hZ.2.1⟩)
      have HWZ := hide hWZ
      clear hWZ hZ HF HM HKE HR HNM HGS
      go_wp2
      rw [HWZ.out]
      clear r0 r1 r2 r3 r4 r5 t0 t1 t2 t3 t4 t5 d0 d1 d2 d3 d4 d5
      obtain ⟨⟨r0, r1, r2, r3, r4, r5⟩, -⟩ := HZZ.out.1.hex
      exact bodyPost_ret (v := .tuple #[stv (.slice b0 s.sg.length e0) (.slice b1 s.tm.length e1) s, .int .i64 (es.length : Int)]) (by simp only [results, Tryz.results73, go_sem]; simp [go_sem, r0, r1, r2, r3, r4, r5]) rfl HZZ.out.2
end Go.Proofs.YtfkeokglifpkoaaGreatDoor

/-
  IsHistory and SignalsIn in both texts. Condition of the program's: the table knownKinds reads as its text lays it.
-/
namespace Go.Proofs.YtfkeokglifpkoaaGreatDoor
open Go.RowKit M
open Clk (upd upd_same upd_other)
open Go.Sort (grow)
namespace M
def cmpI (a b : Int) : Int := if a < b then -1 else if b < a then 1 else 0
theorem Vup.succ {es : List Ev} {k : Nat} (h : Vup es k) (h2 : ∀ j d e, j + 1 = k → es[j]? = some d → es[k]? = some e → d.ver ≤ e.ver) : Vup es (k + 1) := fun i d e hi hd he => by
  by_cases c : i + 1 = k
  · subst c; exact h2 i d e rfl hd he
  · exact h i d e (by omega) hd he
theorem Vup.bad {es : List Ev} {j : Nat} {d e : Ev} (hd : es[j]? = some d) (he : es[j + 1]? = some e) (hv : e.ver < d.ver) : ¬ Vup es es.length := fun h => by
  have hl : j + 1 < es.length := by
    rcases Nat.lt_or_ge (j + 1) es.length with h' | h'
    · exact h'
    · rw [List.getElem?_eq_none h'] at he; cases he
  have := h j d e hl hd he
  omega
/-- Versions that do not fall from place i on. -/
def Vdn (es : List Ev) (i : Nat) : Prop := ∀ j d e, i ≤ j → es[j]? = some d → es[j + 1]? = some e → d.ver ≤ e.ver
theorem Vdn.step {es : List Ev} {i : Nat} {d e : Ev} (h : Vdn es (i + 1)) (hd : es[i]? = some d) (he : es[i + 1]? = some e) (hv : d.ver ≤ e.ver) : Vdn es i := fun j d' e' hj hd' he' => by
  by_cases c : j = i
  · subst c
    rw [hd] at hd'; rw [he] at he'
    simp only [Option.some.injEq] at hd' he'
    subst hd'; subst he'; exact hv
  · exact h j d' e' (by omega) hd' he'
theorem Vdn.up {es : List Ev} (h : Vdn es 0) : Vup es es.length := fun i d e _ hd he => h i d e (Nat.zero_le _) hd he
theorem Vdn.top {es : List Ev} {i : Nat} (h : es.length ≤ i + 1) : Vdn es i := fun j d e hj hd he => by
  rw [List.getElem?_eq_none (by omega)] at he; cases he
end M
theorem nan_int (a : Int) (w : World) : Calls Tryz.prog 211 #[.int .i64 a] w fun e w' => e = .returned (.bool false) ∧ w' = w := by
  have h : (a != a) = false := by simp
  go_enter Tryz.func211, Tryz.ntmps211
  go_wp2
  go_ret
  exact ⟨by simp, rfl⟩
theorem cmp_int (a b : Int) (w : World) : Calls Tryz.prog 197 #[.int .i64 a, .int .i64 b] w fun e w' => e = .returned (.int .i64 (cmpI a b)) ∧ w' = w := by
  rcases (show a < b ∨ a = b ∨ b < a by omega) with h | h | h
  · go_enter Tryz.func197, Tryz.ntmps197
    go_wp2_with (go_at_call 211; refine (nan_int _ _).mono ?_; rintro e w' ⟨rfl, rfl⟩)
    go_ret
    exact ⟨ret_int (by unfold cmpI; rw [if_pos h]), rfl⟩
  · subst h
    have h1 : ¬ a < a := by omega
    go_enter Tryz.func197, Tryz.ntmps197
    go_wp2_with (go_at_call 211; refine (nan_int _ _).mono ?_; rintro e w' ⟨rfl, rfl⟩)
    go_ret
    exact ⟨ret_int (by unfold cmpI; rw [if_neg (by omega), if_neg (by omega)]), rfl⟩
  · have h1 : ¬ a < b := by omega
    have h2 : a > b := h
    go_enter Tryz.func197, Tryz.ntmps197
    go_wp2_with (go_at_call 211; refine (nan_int _ _).mono ?_; rintro e w' ⟨rfl, rfl⟩)
    go_ret
    exact ⟨ret_int (by unfold cmpI; rw [if_neg (by omega), if_pos h]), rfl⟩
theorem by_ver (a b : Ev) (w : World) : Calls Tryz.prog 171 #[a.v, b.v] w fun e w' => e = .returned (.int .i64 (cmpI a.ver b.ver)) ∧ Below w.heap.size w w' := by
  have hb := ((Below.refl w.heap.size w).alloc (Nat.le_refl _) (.cells (evarr a) 74)).alloc (by simp) (.cells (evarr b) 74)
  show Calls Tryz.prog 171 #[ev a.id a.ver a.kind a.name, ev b.id b.ver b.kind b.name] w _
  go_enter Tryz.func171, Tryz.ntmps171
  go_wp2_with (go_at_call 197; refine (cmp_int _ _ _).mono ?_; rintro e w' ⟨rfl, rfl⟩)
  go_ret
  exact ⟨rfl, hb⟩
set_option maxRecDepth 20000 in
set_option maxHeartbeats 4000000 in
theorem is_sorted (v : Value) (es : List Ev) (b : Bool) (w : World) (hv : SliceOf w v es) (hlen : es.length ≤ 1048576) (hb : BP b (Vup es es.length)) :
    Calls Tryz.prog 170 #[v, .func (.func 171) #[] #[]] w fun e w' => e = .returned (.bool b) ∧ Below w.heap.size w w' := by
  obtain ⟨a, cap, rfl, hr⟩ := hv
  have HR := hide hr
  have HB := hide hb
  clear hr hb
  go_enter Tryz.func170, Tryz.ntmps170
  go_wp2
  go_loopw [5] (fun i wr => ∃ z : Int, i = .int .i64 z ∧ -1 ≤ z ∧ z < (es.length : Int) ∧ Hid (Vdn es z.toNat) ∧ Below w.heap.size w wr) (fun i _ => (intOf i).toNat)
  case atStart => exact ⟨_, rfl, by omega, by omega, hide (Vdn.top (by omega)), Below.refl _ _⟩
  case round =>
    obtain ⟨z, rfl, hz0, hz1, HD, hbw⟩ := hrel
    by_cases hpos : 0 < z
    · obtain ⟨i, hi⟩ : ∃ i : Nat, z = (i : Int) + 1 := ⟨(z - 1).toNat, by omega⟩
      subst hi
      have hil : i + 1 < es.length := by omega
      obtain ⟨bb, off, rfl, hbb, hrow⟩ := HR.out (by intro h; subst h; simp at hil)
      obtain ⟨d, hd⟩ : ∃ d, es[i]? = some d := ⟨es[i], List.getElem?_eq_getElem (by omega)⟩
      obtain ⟨e, he⟩ : ∃ e, es[i + 1]? = some e := ⟨es[i + 1], List.getElem?_eq_getElem hil⟩
      obtain ⟨c0, c1, c2, c3⟩ := (hrow i d hd).below hbw hbb
      obtain ⟨g0, g1, g2, g3⟩ := (hrow (i + 1) e he).below hbw hbb
      have hD := HD.out
      rw [show ((i : Int) + 1).toNat = i + 1 by omega] at hD
      have HD2 := hide hD
      have HDD := hide hd
      have HEE := hide he
      clear hrow hd he HR HD hD hpos hz0
      have hpd : (0 : Int) < (i : Int) + 1 := by omega
      have hpd2 : (i : Int) + 1 > 0 := by omega
      have k0 := cell_regrown c0
      have k1 := cell_regrown c1
      have k2 := cell_regrown c2
      have k3 := cell_regrown c3
      have m0 := cell_regrown g0
      have m1 := cell_regrown g1
      have m2 := cell_regrown g2
      have m3 := cell_regrown g3
      have hi0 : (0 : Int) ≤ (i : Int) := by omega
      have hi1 : (i : Int) < (es.length : Int) := by omega
      have hi2 : (0 : Int) ≤ (i : Int) + 1 := by omega
      have hi3 : (i : Int) + 1 < (es.length : Int) := by omega
      have hi4 : (i : Int) + 1 - 1 = (i : Int) := by omega
      have hi5 : ((i : Int) + 1).toNat = i + 1 := by omega
      have HE := hide (show ∀ dd os, Calls Tryz.prog 171 #[.agg #[.int .i64 e.id, .int .i64 e.ver, .int .i64 e.kind, .string e.name], .agg #[.int .i64 d.id, .int .i64 d.ver, .int .i64 d.kind, .string d.name]] (grow (redrawn wr dd) os) fun e' w'' => e' = .returned (.int .i64 (cmpI e.ver d.ver)) ∧ ∃ p : Regrown, w'' = grow (redrawn wr p.d) p.os from fun dd os => Calls.regrown_of (by_ver e d _))
      clear c0 c1 c2 c3 g0 g1 g2 g3
      go_wp2
      refine wp_region_quiet_below (by kernel_rfl) (by kernel_rfl) ?_
      repeat (go_big_quiet_step (exact HE.out _ _))
      refine wpQuiet_nil ?_
      intro _ hw'
      obtain ⟨⟨dq, osq⟩, hw''⟩ := hw'
      subst hw''
      have hbw2 := hbw.trans ((below_regrown wr dq osq).mono hbw.size)
      clear HE k0 k1 k2 k3 m0 m1 m2 m3
      by_cases hlt : e.ver < d.ver
      · have HF := hide (HB.out.no (Vup.bad HDD.out HEE.out hlt))
        have hneg : cmpI e.ver d.ver < 0 := by unfold cmpI; rw [if_pos hlt]; decide
        clear hlt
        go_wp2
        go_ret
        exact ⟨ret_bool HF.out.symm, hbw2⟩
      · have hneg : ¬ cmpI e.ver d.ver < 0 := by unfold cmpI; rw [if_neg hlt]; split <;> decide
        have HD3 := hide (HD2.out.step HDD.out HEE.out (by omega))
        clear hlt
        go_wp2
        go_roundw
        case rel => exact ⟨(i : Int), by go_num, by omega, by omega, hide (by rw [Int.toNat_natCast]; exact HD3.out), hbw2⟩
        case measure => first | (simp [intOf]; done) | (simp [intOf]; omega)
    · have HF := hide (HB.out.yes (Vdn.up (by
        have := HD.out
        rwa [show z.toNat = 0 by omega] at this)))
      clear HR HD
      go_wp2
      go_ret
      exact ⟨ret_bool HF.out.symm, hbw⟩
set_option maxRecDepth 20000 in
set_option maxHeartbeats 4000000 in
theorem spec_hist (v : Value) (es : List Ev) (b : Bool) (w : World) (hv : SliceOf w v es) (hlen : es.length ≤ 1048576) (hnm : ∀ e ∈ es, e.name.size ≤ maxLen) (hb : BP b (Hist es)) :
    Calls Tryz.prog 174 #[v] w fun e w' => e = .returned (.bool b) ∧ Below w.heap.size w w' := by
  have HV := hide hv
  obtain ⟨a, cap, rfl, hr⟩ := hv
  have HR := hide hr
  have HB := hide hb
  have HNM := hide hnm
  clear hr hb hnm
  go_enter Tryz.func174, Tryz.ntmps174
  go_wp2
  go_loopw [8] (fun i wr => ∃ k : Nat, k ≤ es.length ∧ i = .int .i64 k ∧ Hid (Vup es k) ∧ Below w.heap.size w wr) (fun i _ => es.length - (intOf i).toNat)
  case atStart => exact ⟨0, Nat.zero_le _, rfl, hide (fun i d e h => absurd h (by omega)), Below.refl _ _⟩
  case round =>
    obtain ⟨k, hk, rfl, HU, hbw⟩ := hrel
    by_cases hlt : k < es.length
    · obtain ⟨bb, off, rfl, hbb, hrow⟩ := HR.out (by intro h; subst h; simp at hlt)
      obtain ⟨x, hx⟩ : ∃ x, es[k]? = some x := ⟨es[k], List.getElem?_eq_getElem hlt⟩
      have HX := hide hx
      have HRow := hide hrow
      have k1 := cell_regrown ((hrow k x hx).below hbw hbb).2.1
      have hi0 : (0 : Int) ≤ (k : Int) := by omega
      have hi1 : (k : Int) < (es.length : Int) := by omega
      clear hrow hx HR HV HNM
      by_cases hk0 : k = 0
      · have hg0 : decide ((k : Int) > 0) = false := decide_eq_false (by omega)
        have hg1 : decide (0 < k) = false := decide_eq_false (by omega)
        have hg2 : decide ((0 : Int) < (k : Int)) = false := decide_eq_false (by omega)
        have HU2 := hide (HU.out.succ (fun j d e hj _ _ => by omega))
        clear hk0
        go_wp2
        refine wp_region_quiet_below (by kernel_rfl) (by kernel_rfl) ?_
        repeat (go_big_quiet_step (fail))
        refine wpQuiet_nil ?_
        intro _ hw'
        obtain ⟨⟨dq, osq⟩, hw''⟩ := hw'
        subst hw''
        have hbw2 := hbw.trans ((below_regrown wr dq osq).mono hbw.size)
        clear k1
        go_wp2
        go_roundw
        case rel => exact ⟨k + 1, by omega, by go_num, HU2, hbw2⟩
        case measure => simp [intOf]; omega
      · obtain ⟨j, hj⟩ : ∃ j, k = j + 1 := ⟨k - 1, by omega⟩
        obtain ⟨d, hd⟩ : ∃ d, es[j]? = some d := ⟨es[j], List.getElem?_eq_getElem (by omega)⟩
        have hg0 : decide ((k : Int) > 0) = true := decide_eq_true (by omega)
        have hg1 : decide (0 < k) = true := decide_eq_true (by omega)
        have hg2 : decide ((0 : Int) < (k : Int)) = true := decide_eq_true (by omega)
        have hkj : (k : Int) - 1 = (j : Int) := by omega
        have hj0 : (0 : Int) ≤ (j : Int) := by omega
        have hj1 : (j : Int) < (es.length : Int) := by omega
        have k5 := cell_regrown ((HRow.out j d hd).below hbw hbb).2.1
        have HJ := hide (And.intro hj hd)
        clear hj hd hk0 HRow
        by_cases hv : d.ver > x.ver
        · have hv2 : decide (d.ver > x.ver) = true := decide_eq_true hv
          have HF := hide (HB.out.no (fun h => Vup.bad HJ.out.2 (by rw [← HJ.out.1]; exact HX.out) hv h.2.2))
          clear hv
          go_wp2
          refine wp_region_quiet_below (by kernel_rfl) (by kernel_rfl) ?_
          repeat (go_big_quiet_step (fail))
          refine wpQuiet_nil ?_
          intro _ hw'
          obtain ⟨⟨dq, osq⟩, hw''⟩ := hw'
          subst hw''
          have hbw2 := hbw.trans ((below_regrown wr dq osq).mono hbw.size)
          clear k1 k5
          go_wp2
          go_ret
          exact ⟨ret_bool HF.out.symm, hbw2⟩
        · have hv2 : decide (d.ver > x.ver) = false := decide_eq_false hv
          have HU2 := hide (HU.out.succ (fun j2 d2 e2 hj2 hd2 he2 => by
            obtain rfl : j2 = j := by have := HJ.out.1; omega
            rw [HJ.out.2] at hd2
            rw [HX.out] at he2
            simp only [Option.some.injEq] at hd2 he2
            subst hd2; subst he2; omega))
          clear hv
          go_wp2
          refine wp_region_quiet_below (by kernel_rfl) (by kernel_rfl) ?_
          repeat (go_big_quiet_step (fail))
          refine wpQuiet_nil ?_
          intro _ hw'
          obtain ⟨⟨dq, osq⟩, hw''⟩ := hw'
          subst hw''
          have hbw2 := hbw.trans ((below_regrown wr dq osq).mono hbw.size)
          clear k1 k5
          go_wp2
          go_roundw
          case rel => exact ⟨k + 1, by omega, by go_num, HU2, hbw2⟩
          case measure => simp [intOf]; omega
    · obtain rfl : k = es.length := by omega
      obtain ⟨kf, hkf⟩ := M.End.ex es
      have HKF := hide hkf
      clear HR hkf
      go_wp2_with fail
      refine (spec_fold _ es kf _ (HV.out.below hbw) hlen HNM.out HKF.out).mono ?_
      rintro e' w2 ⟨⟨u0, u1, rfl, hAL⟩, hb2⟩
      obtain ⟨a2, c2, rfl⟩ := hAL.o0.form
      obtain ⟨a3, c3, rfl⟩ := hAL.o1.form
      have hdn := (Below.refl w2.heap.size w2).alloc (Nat.le_refl _) (.cells (sarr (.slice a2 (sk es kf).sg.length c2) (.slice a3 (sk es kf).tm.length c3) (sk es kf)) 60)
      have hb3 := hbw.trans (hb2.mono hbw.size)
      have hb4 := hb3.trans (hdn.mono hb3.size)
      clear hAL hb2 hdn hb3 HV HNM
      by_cases hkl : kf = es.length
      · have hkl2 : ((kf : Int) == (es.length : Int)) = true := by simp [hkl]
        have hkl3 : (kf == es.length) = true := by simp [hkl]
        have HBB := hide (show b = decide (es.length ≤ 60) from by
          rw [Bool.eq_iff_iff, decide_eq_true_eq]
          exact ⟨fun h => (HB.out.1 h).1, fun h => HB.out.2 ⟨h, by have := HKF.out; rwa [hkl] at this, HU.out⟩⟩)
        clear hkl HB HU
        by_cases h60 : es.length ≤ 60
        · have h60' : (es.length : Int) ≤ 60 := by omega
          go_wp2
          go_ret
          exact ⟨ret_bool (by rw [HBB.out, decide_eq_true h60]), hb4⟩
        · have h60' : ¬ (es.length : Int) ≤ 60 := by omega
          go_wp2
          go_ret
          exact ⟨ret_bool (by rw [HBB.out, decide_eq_false h60]; simp; omega), hb4⟩
      · have hkl2 : ((kf : Int) == (es.length : Int)) = false := by simp; omega
        have hkl3 : (kf == es.length) = false := by simp [hkl]
        have HF := hide (HB.out.no (fun h => hkl (HKF.out.uniq h.2.1)))
        clear hkl HB HU
        go_wp2
        go_ret
        exact ⟨ret_bool (by rw [HF.out]), hb4⟩
set_option maxRecDepth 20000 in
set_option maxHeartbeats 4000000 in
theorem impl_hist (v : Value) (es : List Ev) (b : Bool) (w : World) (hv : SliceOf w v es) (hlen : es.length ≤ 1048576) (hnm : ∀ e ∈ es, e.name.size ≤ maxLen) (hkk : KK w) (hb : BP b (Hist es)) :
    Calls Tryz.prog 138 #[v] w fun e w' => e = .returned (.bool b) ∧ Below w.heap.size w w' := by
  have HV := hide hv
  obtain ⟨a, cap, rfl, -⟩ := hv
  have HB := hide hb
  have HNM := hide hnm
  have HK := hide hkk
  clear hb hnm hkk
  by_cases h60 : es.length ≤ 60
  case neg =>
    have hgt : (60 : Int) < (es.length : Int) := by omega
    have HF := hide (HB.out.no (fun h => h60 h.1))
    go_enter Tryz.func138, Tryz.ntmps138
    go_wp2
    go_ret
    exact ⟨ret_bool HF.out.symm, Below.refl _ _⟩
  have hgt : ¬ (60 : Int) < (es.length : Int) := by omega
  obtain ⟨kf, hkf⟩ := M.End.ex es
  have HKF := hide hkf
  clear hkf
  go_enter Tryz.func138, Tryz.ntmps138
  go_wp2_with fail
  refine (impl_fold _ es kf _ HV.out hlen HNM.out HK.out HKF.out).mono ?_
  rintro e' w2 ⟨⟨u0, u1, rfl, hAL⟩, hb2⟩
  obtain ⟨a2, c2, rfl⟩ := hAL.o0.form
  obtain ⟨a3, c3, rfl⟩ := hAL.o1.form
  have hdn := (Below.refl w2.heap.size w2).alloc (Nat.le_refl _) (.cells (sarr (.slice a2 (sk es kf).sg.length c2) (.slice a3 (sk es kf).tm.length c3) (sk es kf)) 60)
  have hb4 := hb2.trans (hdn.mono hb2.size)
  clear hAL hb2 hdn HNM HK
  by_cases hkl : kf = es.length
  · have hkl2 : ((kf : Int) == (es.length : Int)) = true := by simp [hkl]
    have hkl3 : (kf == es.length) = true := by simp [hkl]
    have HBB := hide (show BP b (Vup es es.length) from ⟨fun h => (HB.out.1 h).2.2, fun h => HB.out.2 ⟨h60, by have := HKF.out; rwa [hkl] at this, h⟩⟩)
    clear hkl HB
    go_wp2_with fail
    refine (is_sorted _ es b _ (HV.out.below hb4) hlen HBB.out).mono ?_
    rintro e' w5 ⟨rfl, hb⟩
    have hb5 := hb4.trans (hb.mono hb4.size)
    clear hb hb4
    go_wp2
    go_ret
    exact ⟨rfl, hb5⟩
  · have hkl2 : ((kf : Int) == (es.length : Int)) = false := by simp; omega
    have hkl3 : (kf == es.length) = false := by simp [hkl]
    have HF := hide (HB.out.no (fun h => hkl (HKF.out.uniq h.2.1)))
    clear hkl HB
    go_wp2
    go_ret
    exact ⟨ret_bool HF.out.symm, hb4⟩
namespace M
/-- What SignalsIn answers: names and whether, in memory of its own. -/
def SgA (w w' : World) (e' : Ending) (l : Txs) (b : Bool) : Prop := ∃ a n c, e' = .returned (.tuple #[.slice a n c, .bool b]) ∧ OwnT w' w.heap.size (.slice a n c) l
end M
set_option maxRecDepth 20000 in
set_option maxHeartbeats 4000000 in
theorem impl_signalsIn (v : Value) (es : List Ev) (b : Bool) (l : Txs) (w : World) (hv : SliceOf w v es) (hlen : es.length ≤ 1048576) (hnm : ∀ e ∈ es, e.name.size ≤ maxLen) (hkk : KK w) (hb : BP b (Hist es)) (hl : (b = true → l = (sk es es.length).sg) ∧ (b = false → l = [])) :
    Calls Tryz.prog 118 #[v] w fun e w' => SgA w w' e l b ∧ Below w.heap.size w w' := by
  have HV := hide hv
  obtain ⟨a, cap, rfl, -⟩ := hv
  have HB := hide hb
  have HNM := hide hnm
  have HK := hide hkk
  have HL := hide hl
  clear hb hnm hkk hl
  go_enter Tryz.func118, Tryz.ntmps118
  go_wp2_with fail
  refine (impl_hist _ es b _ HV.out hlen HNM.out HK.out HB.out).mono ?_
  rintro e' w1 ⟨rfl, hb1⟩
  cases b with
  | false =>
    have HL0 := hide (HL.out.2 rfl)
    clear HL HB
    go_wp2
    go_ret2
    exact ⟨⟨_, _, _, rfl, by rw [HL0.out]; exact OwnT.nil _ _⟩, hb1⟩
  | true =>
    have HE := hide (HB.out.1 rfl).2.1
    have hle := HL.out.1 rfl
    go_wp2_with fail
    refine (impl_fold _ es es.length _ (HV.out.below hb1) hlen HNM.out (HK.out.below hb1) HE.out).mono ?_
    rintro e' w2 ⟨⟨u0, u1, rfl, hAL⟩, hb⟩
    rw [← hle] at hAL
    obtain ⟨a2, c2, rfl⟩ := hAL.o0.form
    obtain ⟨a3, c3, rfl⟩ := hAL.o1.form
    have hb2 := hb1.trans (hb.mono hb1.size)
    have hdn := (Below.refl w2.heap.size w2).alloc (Nat.le_refl _) (.cells (sarr (.slice a2 l.length c2) (.slice a3 (sk es es.length).tm.length c3) (sk es es.length)) 60)
    have hb3 := hb2.trans (hdn.mono hb2.size)
    have HO := hide (show OwnT (w2.alloc (.cells (sarr (.slice a2 l.length c2) (.slice a3 (sk es es.length).tm.length c3) (sk es es.length)) 60)) w.heap.size (.slice a2 l.length c2) l from (hAL.o0.down hdn).mono hb1.size)
    clear hAL hb hb2 hdn hle HL HB HK HNM HV hb1 HE
    go_wp2
    go_ret2
    exact ⟨⟨_, _, _, rfl, HO.out⟩, hb3⟩
end Go.Proofs.YtfkeokglifpkoaaGreatDoor

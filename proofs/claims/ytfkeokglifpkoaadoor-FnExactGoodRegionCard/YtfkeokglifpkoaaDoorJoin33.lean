/-
  l12Fold and FoldEvents of the specification: the state that events make, as many as may come, in memory of its own.
-/
import Derived.Test.YtfkeokglifpkoaaDoorJoin32
namespace Go.Proofs.YtfkeokglifpkoaaDoor
open Go.RowKit M
open Clk (upd upd_same upd_other)
open Go.Sort (grow)
set_option maxRecDepth 20000 in
set_option maxHeartbeats 8000000 in
theorem spec_fold (v : Value) (es : List Ev) (kf : Nat) (w : World) (hv : SliceOf w v es) (hlen : es.length ≤ 1048576) (hnm : ∀ e ∈ es, e.name.size ≤ maxLen) (hend : M.End es kf) :
    Calls Tryd.prog 38 #[v] w fun e' w' => FoA w w' e' es kf ∧ Below w.heap.size w w' := by
  obtain ⟨a, cap, rfl, hr⟩ := hv
  have HR := hide hr
  have HNM := hide hnm
  have HEND := hide hend
  clear hr hnm hend
  have hbA := (Below.refl w.heap.size w).alloc (Nat.le_refl _) (.cells zarr 73)
  have HRB := hide (show Blk (w.alloc (.cells zarr 73)) w.heap.size 6 (q6 (.int .i64 0) (.int .i64 0) (.bool false) (.int .i64 0) (.slice none 0 0) (.slice none 0 0)) 73 from new6 w _ _ _ _ _ _ 73)
  go_enter Tryd.func38, Tryd.ntmps38
  go_wp2_with fail
  refine (spec_new _).mono ?_
  rintro e' w1 ⟨rfl, hb⟩
  have HF0 := hide (show FB w (w1.alloc (.cells (sarr nil2 nil2 st0) 73)) w1.heap.size (sk es 0) nil2 nil2 from by
    have h1 := hbA.trans (hb.mono hbA.size)
    have hd := (Below.refl w1.heap.size w1).alloc (Nat.le_refl _) (.cells (sarr nil2 nil2 st0) 73)
    exact ⟨h1.trans (hd.mono h1.size), ⟨new6 w1 _ _ _ _ _ _ 73, OwnT.nil _ _, OwnT.nil _ _, fun g _ e => (by cases e), h1.size⟩, (HRB.out.down hb).down hd, by have := hb.size; simp at this; omega⟩)
  clear hb hbA HRB
  go_wp2_with fail
  go_loopw [12] (fun i wr => ∃ (k : Nat) (u0 u1 : Value), k ≤ es.length ∧ i = .int .i64 k ∧ Hid (FB w wr w1.heap.size (sk es k) u0 u1) ∧ Hid (AllM es k)) (fun i _ => es.length - (intOf i).toNat)
  case atStart => exact ⟨0, _, _, Nat.zero_le _, rfl, HF0, hide (fun i e h => absurd h (by omega))⟩
  case round =>
    obtain ⟨k, u0, u1, hk, rfl, HF, HM⟩ := hrel
    clear HF0
    have HGS := hide (HM.out.good hk)
    obtain ⟨s, hs⟩ : ∃ s, sk es k = s := ⟨_, rfl⟩
    have HSK := hide hs
    rw [hs] at HF HGS
    clear hs
    obtain ⟨b0, e0, rfl⟩ := HF.out.m.o0.form
    obtain ⟨b1, e1, rfl⟩ := HF.out.m.o1.form
    obtain ⟨⟨d0, d1, d2, d3, d4, d5⟩, f0, f1, f2, f3, f4, f5⟩ := HF.out.m.box.hex
    obtain ⟨⟨r0, r1, r2, r3, r4, r5⟩, t0, t1, t2, t3, t4, t5⟩ := HF.out.rb.hex
    have hg1 : w1.heap.size < wr.heap.size := HF.out.m.box.lt
    have hg0 : w.heap.size < wr.heap.size := HF.out.rb.lt
    have hne : w.heap.size < w1.heap.size := HF.out.ne
    have hne2 : ¬ w.heap.size = w1.heap.size := by omega
    have hne3 : ¬ w1.heap.size = w.heap.size := by omega
    by_cases hlt : k < es.length
    · obtain ⟨bb, off, rfl, hbb, hrow⟩ := HR.out (by intro h; subst h; simp at hlt)
      obtain ⟨x, hx⟩ : ∃ x, es[k]? = some x := ⟨es[k], List.getElem?_eq_getElem hlt⟩
      obtain ⟨c0, c1, c2, c3⟩ := (hrow k x hx).below HF.out.low hbb
      have hbb2 : bb < wr.heap.size := Nat.lt_of_lt_of_le hbb HF.out.low.size
      have HX := hide hx
      have HXN := hide (HNM.out x (List.mem_of_getElem? hx))
      have hdx := (Below.refl wr.heap.size wr).alloc (Nat.le_refl _) (.cells (evarr x) 45)
      have HF2 := hide (HF.out.down hdx)
      clear hrow hx HR HNM hdx
      obtain ⟨b, hb⟩ := bp_ex (May s x)
      have HB := hide hb
      clear hb
      go_wp2_with fail
      refine (spec_l12 _ _ s x b _ HF2.out.m.c HGS.out HXN.out HB.out).mono ?_
      rintro e' w2 ⟨⟨y0, y1, r, rfl, hC, hyes, -⟩, hb2⟩
      obtain ⟨b3, e3, rfl⟩ := hC.1.1.form
      obtain ⟨b4, e4, rfl⟩ := hC.2.1.form
      have HYES := hide (show b = true → r = raw s x ∧ AnsL w2 w.heap.size w2.heap.size (.slice b3 r.sg.length e3) (.slice b4 r.tm.length e4) r.sg r.tm from fun h => ⟨(hyes h).1, (hyes h).2.mono (by have := HF2.out.low.size; omega) (Nat.le_refl _)⟩)
      clear hC hyes
      have HF3 := hide (HF2.out.down hb2)
      clear d0 d1 d2 d3 d4 d5 f0 f1 f2 f3 f4 f5 r0 r1 r2 r3 r4 r5 t0 t1 t2 t3 t4 t5 HF HF2 hb2 hg1 hg0 c0 c1 c2 c3 hbb2
      obtain ⟨⟨d0, d1, d2, d3, d4, d5⟩, f0, f1, f2, f3, f4, f5⟩ := HF3.out.m.box.hex
      obtain ⟨⟨r0, r1, r2, r3, r4, r5⟩, t0, t1, t2, t3, t4, t5⟩ := HF3.out.rb.hex
      have hg1 : w1.heap.size < w2.heap.size := HF3.out.m.box.lt
      have hg0 : w.heap.size < w2.heap.size := HF3.out.rb.lt
      cases b with
      | false =>
        have HKE := hide (show k = kf from M.End.uniq ⟨by omega, HM.out, fun e he => by
          rw [HX.out] at he
          simp only [Option.some.injEq] at he
          subst he
          rw [HSK.out]
          exact fun h => (by have := HB.out.2 h; cases this)⟩ HEND.out)
        obtain ⟨WZ, hWZ⟩ : ∃ WZ, (((((w2.setCell ⟨w.heap.size, 0, none⟩ (.int .i64 s.st)).setCell ⟨w.heap.size, 1, none⟩ (.int .i64 s.nx)).setCell ⟨w.heap.size, 2, none⟩ (.bool s.ca)).setCell ⟨w.heap.size, 3, none⟩ (.int .i64 s.dn)).setCell ⟨w.heap.size, 4, none⟩ (.slice b0 s.sg.length e0)).setCell ⟨w.heap.size, 5, none⟩ (.slice b1 s.tm.length e1) = WZ := ⟨_, rfl⟩
        have hZ := HF3.out.fin WZ hWZ
        have hdn := (Below.refl WZ.heap.size WZ).alloc (Nat.le_refl _) (.cells (sarr (.slice b3 r.sg.length e3) (.slice b4 r.tm.length e4) r) 73)
        have HZZ := hide (show Blk (WZ.alloc (.cells (sarr (.slice b3 r.sg.length e3) (.slice b4 r.tm.length e4) r) 73)) w.heap.size 6 (sq (.slice b0 s.sg.length e0) (.slice b1 s.tm.length e1) s) 73 ∧ FoA w (WZ.alloc (.cells (sarr (.slice b3 r.sg.length e3) (.slice b4 r.tm.length e4) r) 73)) (.returned (.tuple #[stv (.slice b0 s.sg.length e0) (.slice b1 s.tm.length e1) s, .int .i64 (k : Int)])) es kf ∧ Below w.heap.size w (WZ.alloc (.cells (sarr (.slice b3 r.sg.length e3) (.slice b4 r.tm.length e4) r) 73)) from by
          refine ⟨hZ.1.down hdn, ?_, hZ.2.2.trans (hdn.mono hZ.2.2.size)⟩
          rw [← HKE.out]
          unfold FoA
          rw [HSK.out]
          exact ⟨_, _, rfl, (hZ.2.1.down hdn).mono (Nat.le_refl _) hdn.size⟩)
        have HWZ := hide hWZ
        clear hWZ hZ hdn HF3 HYES HB HGS HKE HM
        go_wp2
        rw [HWZ.out]
        clear r0 r1 r2 r3 r4 r5 t0 t1 t2 t3 t4 t5 d0 d1 d2 d3 d4 d5
        obtain ⟨⟨r0, r1, r2, r3, r4, r5⟩, -⟩ := HZZ.out.1.hex
        exact bodyPost_ret (v := .tuple #[stv (.slice b0 s.sg.length e0) (.slice b1 s.tm.length e1) s, .int .i64 (k : Int)]) (by simp only [results, Tryd.results38, go_sem]; simp [go_sem, r0, r1, r2, r3, r4, r5]) rfl HZZ.out.2
      | true =>
        obtain ⟨hr, hAL⟩ := HYES.out rfl
        obtain ⟨WZ, hWZ⟩ : ∃ WZ, (((((w2.setCell ⟨w1.heap.size, 0, none⟩ (.int .i64 r.st)).setCell ⟨w1.heap.size, 1, none⟩ (.int .i64 r.nx)).setCell ⟨w1.heap.size, 2, none⟩ (.bool r.ca)).setCell ⟨w1.heap.size, 3, none⟩ (.int .i64 r.dn)).setCell ⟨w1.heap.size, 4, none⟩ (.slice b3 r.sg.length e3)).setCell ⟨w1.heap.size, 5, none⟩ (.slice b4 r.tm.length e4) = WZ := ⟨_, rfl⟩
        have hZ := HF3.out.put hAL WZ hWZ
        have HM2 := hide (HM.out.succ HX.out (by rw [HSK.out]; exact HB.out.1 rfl))
        have HZZ := hide (show FB w (WZ.alloc (.cells (sarr (.slice b3 r.sg.length e3) (.slice b4 r.tm.length e4) r) 73)) w1.heap.size (sk es (k + 1)) (.slice b3 r.sg.length e3) (.slice b4 r.tm.length e4) from by
          rw [sk_succ HX.out, HSK.out, ← hr]
          exact hZ.down ((Below.refl _ _).alloc (Nat.le_refl _) _))
        have HWZ := hide hWZ
        clear hWZ hZ HF3 HYES HB HGS HM hAL hr
        go_wp2
        rw [HWZ.out]
        exact ⟨⟨k + 1, _, _, by omega, by go_num, HZZ, HM2⟩, by simp [intOf]; omega⟩
    · obtain rfl : k = es.length := by omega
      have HKE := hide (show es.length = kf from M.End.uniq ⟨Nat.le_refl _, HM.out, fun e he => by rw [List.getElem?_eq_none (Nat.le_refl _)] at he; cases he⟩ HEND.out)
      obtain ⟨WZ, hWZ⟩ : ∃ WZ, (((((wr.setCell ⟨w.heap.size, 0, none⟩ (.int .i64 s.st)).setCell ⟨w.heap.size, 1, none⟩ (.int .i64 s.nx)).setCell ⟨w.heap.size, 2, none⟩ (.bool s.ca)).setCell ⟨w.heap.size, 3, none⟩ (.int .i64 s.dn)).setCell ⟨w.heap.size, 4, none⟩ (.slice b0 s.sg.length e0)).setCell ⟨w.heap.size, 5, none⟩ (.slice b1 s.tm.length e1) = WZ := ⟨_, rfl⟩
      have hZ := HF.out.fin WZ hWZ
      have HZZ := hide (show Blk WZ w.heap.size 6 (sq (.slice b0 s.sg.length e0) (.slice b1 s.tm.length e1) s) 73 ∧ FoA w WZ (.returned (.tuple #[stv (.slice b0 s.sg.length e0) (.slice b1 s.tm.length e1) s, .int .i64 (es.length : Int)])) es kf ∧ Below w.heap.size w WZ from by
        refine ⟨hZ.1, ?_, hZ.2.2⟩
        rw [← HKE.out]
        unfold FoA
        rw [HSK.out]
        exact ⟨_, _, rfl, hZ.2.1⟩)
      have HWZ := hide hWZ
      clear hWZ hZ HF HM HKE HR HNM HGS
      go_wp2
      rw [HWZ.out]
      clear r0 r1 r2 r3 r4 r5 t0 t1 t2 t3 t4 t5 d0 d1 d2 d3 d4 d5
      obtain ⟨⟨r0, r1, r2, r3, r4, r5⟩, -⟩ := HZZ.out.1.hex
      exact bodyPost_ret (v := .tuple #[stv (.slice b0 s.sg.length e0) (.slice b1 s.tm.length e1) s, .int .i64 (es.length : Int)]) (by simp only [results, Tryd.results38, go_sem]; simp [go_sem, r0, r1, r2, r3, r4, r5]) rfl HZZ.out.2
end Go.Proofs.YtfkeokglifpkoaaDoor

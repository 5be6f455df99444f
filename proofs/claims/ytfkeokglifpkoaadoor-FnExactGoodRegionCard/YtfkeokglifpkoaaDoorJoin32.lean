/-
  Texts that follow one another, joined: StW, StL0, StX, StXI.
-/
import Derived.Test.YtfkeokglifpkoaaDoorJoin28
import Derived.Test.YtfkeokglifpkoaaDoorJoin29
import Derived.Test.YtfkeokglifpkoaaDoorJoin30
import Derived.Test.YtfkeokglifpkoaaDoorJoin31
import Derived.Test.YtfkeokglifpkoaaDoorJoin13
/-
  The specification's l12Apply at whatever event, and its ApplyEvent.
-/
namespace Go.Proofs.YtfkeokglifpkoaaDoor
open Go.RowKit M
open Clk (upd upd_same upd_other)
open Go.Sort (grow)
theorem spec_l12 (v0 v1 : Value) (s : St) (e : Ev) (b : Bool) (w : World) (hv : StC w v0 v1 s) (hg : GoodSt s) (hen : e.name.size ≤ maxLen) (hb : BP b (May s e)) :
    Calls Tryd.prog 47 #[stv v0 v1 s, ev e.id e.ver e.kind e.name] w fun e' w' => L12 w w' e' s (raw s e) b ∧ Below w.heap.size w w' := by
  by_cases h : e.gd = true ∧ e.id = s.nx ∧ s.st = (if e.kind = 1 then 0 else 1)
  case neg =>
    obtain rfl : b = false := hb.no (fun hm => h ⟨hm.1, hm.2.1, hm.2.2.1⟩)
    exact l12_no v0 v1 s (raw s e) e w hv hg hen h
  obtain ⟨h1, h2, h3⟩ := h
  have hb' : BP b ((e.kind = 5 → s.ca = false) ∧ GoodSt (raw s e)) := ⟨fun q => (hb.1 q).2.2.2, fun q => hb.2 ⟨h1, h2, h3, q⟩⟩
  clear hb
  obtain ⟨-, -, hk, -⟩ := gd_parts h1
  obtain ⟨I, V, k, x⟩ := e
  simp only at *
  rcases (show k = 1 ∨ k = 2 ∨ k = 3 ∨ k = 4 ∨ k = 5 ∨ k = 6 by omega) with rfl | rfl | rfl | rfl | rfl | rfl
  · exact l12_1 v0 v1 s I V x b w hv hg h1 h2 h3 ⟨fun q => (hb'.1 q).2, fun q => hb'.2 ⟨fun c => absurd c (by simp), q⟩⟩
  · exact l12_2 v0 v1 s I V x b w hv hg h1 h2 h3 ⟨fun q => (hb'.1 q).2, fun q => hb'.2 ⟨fun c => absurd c (by simp), q⟩⟩
  · exact l12_3 v0 v1 s I V x b w hv hg h1 h2 h3 ⟨fun q => (hb'.1 q).2, fun q => hb'.2 ⟨fun c => absurd c (by simp), q⟩⟩
  · exact l12_4 v0 v1 s I V x b w hv hg h1 h2 h3 ⟨fun q => (hb'.1 q).2, fun q => hb'.2 ⟨fun c => absurd c (by simp), q⟩⟩
  · exact l12_5 v0 v1 s I V x b w hv hg h1 h2 h3 ⟨fun q => ⟨(hb'.1 q).1 rfl, (hb'.1 q).2⟩, fun q => hb'.2 ⟨fun _ => q.1, q.2⟩⟩
  · exact l12_6 v0 v1 s I V x b w hv hg h1 h2 h3 ⟨fun q => (hb'.1 q).2, fun q => hb'.2 ⟨fun c => absurd c (by simp), q⟩⟩
namespace M
theorem ApA.down {w W W' : World} {e' : Ending} {r : St} {b : Bool} (h : ApA w W e' r b) (hb : Below W.heap.size W W') : ApA w W' e' r b := by
  obtain ⟨u0, u1, he, hA⟩ := h
  exact ⟨u0, u1, he, (hA.down hb).mono (Nat.le_refl _) hb.size⟩
end M
end Go.Proofs.YtfkeokglifpkoaaDoor

/-
  NewState in both texts, and its law, walked: it returns true and turns nothing that was there.
-/
namespace Go.Proofs.YtfkeokglifpkoaaDoor
open Go.RowKit M
open Clk (upd upd_same upd_other)
namespace M
abbrev nil2 : Value := .slice none 0 0
theorem ans0 (w : World) (lo hi : Nat) : AnsL w lo hi nil2 nil2 [] [] := ⟨OwnT.nil _ _, OwnT.nil _ _, fun g h => (by cases h), fun g h => (by cases h), fun g h => (by cases h)⟩
end M
theorem spec_new (w : World) : Calls Tryd.prog 46 #[] w fun e w' => e = .returned (stv nil2 nil2 st0) ∧ Below w.heap.size w w' := by
  have hb := (Below.refl w.heap.size w).alloc (Nat.le_refl _) (.cells #[.int .i64 0, .int .i64 1, .bool false, .int .i64 0, .slice none 0 0, .slice none 0 0] 73)
  go_enter Tryd.func46, Tryd.ntmps46
  go_wp2
  exact bodyPost_ret (v := stv nil2 nil2 st0) (by simp [results, Tryd.results46, go_sem, st0]) rfl ⟨rfl, hb⟩
theorem impl_new (w : World) : Calls Tryd.prog 58 #[] w fun e w' => e = .returned (stv nil2 nil2 st0) ∧ Below w.heap.size w w' := by
  have hb := (Below.refl w.heap.size w).alloc (Nat.le_refl _) (.cells #[.int .i64 0, .int .i64 1, .bool false, .int .i64 0, .slice none 0 0, .slice none 0 0] 73)
  go_enter Tryd.func58, Tryd.ntmps58
  go_wp2
  exact bodyPost_ret (v := stv nil2 nil2 st0) (by simp [results, Tryd.results58, go_sem, st0]) rfl ⟨rfl, hb⟩
end Go.Proofs.YtfkeokglifpkoaaDoor

/-
  What a fold over events keeps: the box of the state that events have made, and that of the answer.
-/
namespace Go.Proofs.YtfkeokglifpkoaaDoor
open Go.RowKit M
open Clk (upd upd_same upd_other)
open Go.Sort (grow)
namespace M
structure FB (w W : World) (g : Nat) (s : St) (u0 u1 : Value) : Prop where
  low : Below w.heap.size w W
  m : SM W w.heap.size g u0 u1 s
  rb : Blk W w.heap.size 6 (q6 (.int .i64 0) (.int .i64 0) (.bool false) (.int .i64 0) (.slice none 0 0) (.slice none 0 0)) 73
  ne : w.heap.size < g
theorem FB.down {w W W' : World} {g : Nat} {s : St} {u0 u1 : Value} (h : FB w W g s u0 u1) (hb : Below W.heap.size W W') : FB w W' g s u0 u1 :=
  ⟨h.low.trans (hb.mono h.low.size), h.m.down hb, h.rb.down hb, h.ne⟩
/-- Another state is stored into the box. -/
theorem FB.put {w W : World} {g : Nat} {s s' : St} {u0 u1 y0 y1 : Value} (h : FB w W g s u0 u1) (ha : AnsL W w.heap.size W.heap.size y0 y1 s'.sg s'.tm) :
    ∀ WZ, (((((W.setCell ⟨g, 0, none⟩ (.int .i64 s'.st)).setCell ⟨g, 1, none⟩ (.int .i64 s'.nx)).setCell ⟨g, 2, none⟩ (.bool s'.ca)).setCell ⟨g, 3, none⟩ (.int .i64 s'.dn)).setCell ⟨g, 4, none⟩ y0).setCell ⟨g, 5, none⟩ y1 = WZ → FB w WZ g s' y0 y1 := by
  intro WZ hWZ
  obtain ⟨k1, k2, k3⟩ := put6 h.m.box h.low h.m.lo _ _ _ _ _ _ WZ hWZ
  have n0 := ha.o0.ne_blk h.m.box (by decide)
  have n1 := ha.o1.ne_blk h.m.box (by decide)
  exact ⟨k2, ⟨k1, ha.o0.other k3 (fun q hq e => n0 (by rw [hq, e])), ha.o1.other k3 (fun q hq e => n1 (by rw [hq, e])), ha.ap, h.m.lo⟩, h.rb.gb k3 (fun e => by have := h.ne; simp only [Option.some.injEq] at e; omega), h.ne⟩
/-- What a fold answers: the state that the first k events make, and k; just k of them may come. -/
def FoA (w w' : World) (e' : Ending) (es : List Ev) (k : Nat) : Prop := ∃ u0 u1, e' = .returned (.tuple #[stv u0 u1 (sk es k), .int .i64 (k : Int)]) ∧ AnsL w' w.heap.size w'.heap.size u0 u1 (sk es k).sg (sk es k).tm
theorem FB.fin {w W : World} {g : Nat} {s : St} {u0 u1 : Value} (h : FB w W g s u0 u1) :
    ∀ WZ, (((((W.setCell ⟨w.heap.size, 0, none⟩ (.int .i64 s.st)).setCell ⟨w.heap.size, 1, none⟩ (.int .i64 s.nx)).setCell ⟨w.heap.size, 2, none⟩ (.bool s.ca)).setCell ⟨w.heap.size, 3, none⟩ (.int .i64 s.dn)).setCell ⟨w.heap.size, 4, none⟩ u0).setCell ⟨w.heap.size, 5, none⟩ u1 = WZ →
    Blk WZ w.heap.size 6 (sq u0 u1 s) 73 ∧ AnsL WZ w.heap.size WZ.heap.size u0 u1 s.sg s.tm ∧ Below w.heap.size w WZ := by
  intro WZ hWZ
  obtain ⟨k1, k2, k3⟩ := put6 h.rb h.low (Nat.le_refl _) _ _ _ _ _ _ WZ hWZ
  have n0 := h.m.o0.ne_blk h.rb (by decide)
  have n1 := h.m.o1.ne_blk h.rb (by decide)
  exact ⟨k1, AnsL.of (h.m.o0.other k3 (fun q hq e => n0 (by rw [hq, e]))) (h.m.o1.other k3 (fun q hq e => n1 (by rw [hq, e]))) h.m.ap, k2⟩
theorem good_short {s : St} (h : GoodSt s) : ShortT s ∧ NmT s := ⟨⟨by have := h.2.2.1.1; omega, by have := h.2.2.2.1.1; omega⟩, nm12 h.2.2.1, nm12 h.2.2.2.1⟩
end M
end Go.Proofs.YtfkeokglifpkoaaDoor

/-
  FoldEvents of the program: the state that events make, as many as may come, in memory of its own.
-/
namespace Go.Proofs.YtfkeokglifpkoaaDoor
open Go.RowKit M
open Clk (upd upd_same upd_other)
open Go.Sort (grow)
set_option maxRecDepth 20000 in
set_option maxHeartbeats 8000000 in
theorem impl_fold (v : Value) (es : List Ev) (kf : Nat) (w : World) (hv : SliceOf w v es) (hlen : es.length ≤ 1048576) (hnm : ∀ e ∈ es, e.name.size ≤ maxLen) (hkk : KK w) (hend : M.End es kf) :
    Calls Tryd.prog 49 #[v] w fun e' w' => FoA w w' e' es kf ∧ Below w.heap.size w w' := by
  obtain ⟨a, cap, rfl, hr⟩ := hv
  have HR := hide hr
  have HNM := hide hnm
  have HEND := hide hend
  have HK := hide hkk
  clear hkk
  clear hr hnm hend
  have hbA := (Below.refl w.heap.size w).alloc (Nat.le_refl _) (.cells zarr 73)
  have HRB := hide (show Blk (w.alloc (.cells zarr 73)) w.heap.size 6 (q6 (.int .i64 0) (.int .i64 0) (.bool false) (.int .i64 0) (.slice none 0 0) (.slice none 0 0)) 73 from new6 w _ _ _ _ _ _ 73)
  go_enter Tryd.func49, Tryd.ntmps49
  go_wp2_with fail
  refine (impl_new _).mono ?_
  rintro e' w1 ⟨rfl, hb⟩
  have HF0 := hide (show FB w (w1.alloc (.cells (sarr nil2 nil2 st0) 73)) w1.heap.size (sk es 0) nil2 nil2 from by
    have h1 := hbA.trans (hb.mono hbA.size)
    have hd := (Below.refl w1.heap.size w1).alloc (Nat.le_refl _) (.cells (sarr nil2 nil2 st0) 73)
    exact ⟨h1.trans (hd.mono h1.size), ⟨new6 w1 _ _ _ _ _ _ 73, OwnT.nil _ _, OwnT.nil _ _, fun g _ e => (by cases e), h1.size⟩, (HRB.out.down hb).down hd, by have := hb.size; simp at this; omega⟩)
  clear hb hbA HRB
  go_wp2_with fail
  go_loopw [12] (fun i wr => ∃ (k : Nat) (u0 u1 : Value), k ≤ es.length ∧ i = .int .i64 k ∧ Hid (FB w wr w1.heap.size (sk es k) u0 u1) ∧ Hid (AllM es k)) (fun i _ => es.length - (intOf i).toNat)
  case atStart => exact ⟨0, _, _, Nat.zero_le _, rfl, HF0, hide (fun i e h => absurd h (by omega))⟩
  case round =>
    obtain ⟨k, u0, u1, hk, rfl, HF, HM⟩ := hrel
    clear HF0
    have HGS := hide (HM.out.good hk)
    obtain ⟨s, hs⟩ : ∃ s, sk es k = s := ⟨_, rfl⟩
    have HSK := hide hs
    rw [hs] at HF HGS
    clear hs
    obtain ⟨b0, e0, rfl⟩ := HF.out.m.o0.form
    obtain ⟨b1, e1, rfl⟩ := HF.out.m.o1.form
    obtain ⟨⟨d0, d1, d2, d3, d4, d5⟩, f0, f1, f2, f3, f4, f5⟩ := HF.out.m.box.hex
    obtain ⟨⟨r0, r1, r2, r3, r4, r5⟩, t0, t1, t2, t3, t4, t5⟩ := HF.out.rb.hex
    have hg1 : w1.heap.size < wr.heap.size := HF.out.m.box.lt
    have hg0 : w.heap.size < wr.heap.size := HF.out.rb.lt
    have hne : w.heap.size < w1.heap.size := HF.out.ne
    have hne2 : ¬ w.heap.size = w1.heap.size := by omega
    have hne3 : ¬ w1.heap.size = w.heap.size := by omega
    by_cases hlt : k < es.length
    · obtain ⟨bb, off, rfl, hbb, hrow⟩ := HR.out (by intro h; subst h; simp at hlt)
      obtain ⟨x, hx⟩ : ∃ x, es[k]? = some x := ⟨es[k], List.getElem?_eq_getElem hlt⟩
      obtain ⟨c0, c1, c2, c3⟩ := (hrow k x hx).below HF.out.low hbb
      have hbb2 : bb < wr.heap.size := Nat.lt_of_lt_of_le hbb HF.out.low.size
      have HX := hide hx
      have HXN := hide (HNM.out x (List.mem_of_getElem? hx))
      have hdx := (Below.refl wr.heap.size wr).alloc (Nat.le_refl _) (.cells (evarr x) 45)
      have HF2 := hide (HF.out.down hdx)
      clear hrow hx HR HNM hdx
      obtain ⟨b, hb⟩ := bp_ex (May s x)
      have HB := hide hb
      clear hb
      go_wp2_with fail
      obtain ⟨r, hr⟩ : ∃ r, (b = true → r = raw s x) ∧ (b = false → r = zst) := by
        cases b with
        | true => exact ⟨raw s x, fun _ => rfl, fun h => (by cases h)⟩
        | false => exact ⟨zst, fun h => (by cases h), fun _ => rfl⟩
      have HRR := hide hr
      clear hr
      have HGS2 := hide (good_short HGS.out)
      refine (impl_apply _ _ s x b r _ HF2.out.m.c HGS2.out.1 HGS2.out.2 HXN.out (HK.out.below HF2.out.low) ⟨fun h => ⟨HGS.out, HB.out.1 h⟩, fun h => HB.out.2 h.2⟩ HRR.out).mono ?_
      rintro e' w2 ⟨⟨y0, y1, rfl, hAL⟩, hb2⟩
      obtain ⟨b3, e3, rfl⟩ := hAL.o0.form
      obtain ⟨b4, e4, rfl⟩ := hAL.o1.form
      have HYES := hide (show b = true → r = raw s x ∧ AnsL w2 w.heap.size w2.heap.size (.slice b3 r.sg.length e3) (.slice b4 r.tm.length e4) r.sg r.tm from fun h => ⟨HRR.out.1 h, hAL.mono (by have := HF2.out.low.size; omega) (Nat.le_refl _)⟩)
      clear hAL HRR HGS2
      have HF3 := hide (HF2.out.down hb2)
      clear d0 d1 d2 d3 d4 d5 f0 f1 f2 f3 f4 f5 r0 r1 r2 r3 r4 r5 t0 t1 t2 t3 t4 t5 HF HF2 hb2 hg1 hg0 c0 c1 c2 c3 hbb2
      obtain ⟨⟨d0, d1, d2, d3, d4, d5⟩, f0, f1, f2, f3, f4, f5⟩ := HF3.out.m.box.hex
      obtain ⟨⟨r0, r1, r2, r3, r4, r5⟩, t0, t1, t2, t3, t4, t5⟩ := HF3.out.rb.hex
      have hg1 : w1.heap.size < w2.heap.size := HF3.out.m.box.lt
      have hg0 : w.heap.size < w2.heap.size := HF3.out.rb.lt
      cases b with
      | false =>
        have HKE := hide (show k = kf from M.End.uniq ⟨by omega, HM.out, fun e he => by
          rw [HX.out] at he
          simp only [Option.some.injEq] at he
          subst he
          rw [HSK.out]
          exact fun h => (by have := HB.out.2 h; cases this)⟩ HEND.out)
        obtain ⟨WZ, hWZ⟩ : ∃ WZ, (((((w2.setCell ⟨w.heap.size, 0, none⟩ (.int .i64 s.st)).setCell ⟨w.heap.size, 1, none⟩ (.int .i64 s.nx)).setCell ⟨w.heap.size, 2, none⟩ (.bool s.ca)).setCell ⟨w.heap.size, 3, none⟩ (.int .i64 s.dn)).setCell ⟨w.heap.size, 4, none⟩ (.slice b0 s.sg.length e0)).setCell ⟨w.heap.size, 5, none⟩ (.slice b1 s.tm.length e1) = WZ := ⟨_, rfl⟩
        have hZ := HF3.out.fin WZ hWZ
        have hdn := (Below.refl WZ.heap.size WZ).alloc (Nat.le_refl _) (.cells (sarr (.slice b3 r.sg.length e3) (.slice b4 r.tm.length e4) r) 73)
        have HZZ := hide (show Blk (WZ.alloc (.cells (sarr (.slice b3 r.sg.length e3) (.slice b4 r.tm.length e4) r) 73)) w.heap.size 6 (sq (.slice b0 s.sg.length e0) (.slice b1 s.tm.length e1) s) 73 ∧ FoA w (WZ.alloc (.cells (sarr (.slice b3 r.sg.length e3) (.slice b4 r.tm.length e4) r) 73)) (.returned (.tuple #[stv (.slice b0 s.sg.length e0) (.slice b1 s.tm.length e1) s, .int .i64 (k : Int)])) es kf ∧ Below w.heap.size w (WZ.alloc (.cells (sarr (.slice b3 r.sg.length e3) (.slice b4 r.tm.length e4) r) 73)) from by
          refine ⟨hZ.1.down hdn, ?_, hZ.2.2.trans (hdn.mono hZ.2.2.size)⟩
          rw [← HKE.out]
          unfold FoA
          rw [HSK.out]
          exact ⟨_, _, rfl, (hZ.2.1.down hdn).mono (Nat.le_refl _) hdn.size⟩)
        have HWZ := hide hWZ
        clear hWZ hZ hdn HF3 HYES HB HGS HKE HM
        go_wp2
        rw [HWZ.out]
        clear r0 r1 r2 r3 r4 r5 t0 t1 t2 t3 t4 t5 d0 d1 d2 d3 d4 d5
        obtain ⟨⟨r0, r1, r2, r3, r4, r5⟩, -⟩ := HZZ.out.1.hex
        exact bodyPost_ret (v := .tuple #[stv (.slice b0 s.sg.length e0) (.slice b1 s.tm.length e1) s, .int .i64 (k : Int)]) (by simp only [results, Tryd.results49, go_sem]; simp [go_sem, r0, r1, r2, r3, r4, r5]) rfl HZZ.out.2
      | true =>
        obtain ⟨hr, hAL⟩ := HYES.out rfl
        obtain ⟨WZ, hWZ⟩ : ∃ WZ, (((((w2.setCell ⟨w1.heap.size, 0, none⟩ (.int .i64 r.st)).setCell ⟨w1.heap.size, 1, none⟩ (.int .i64 r.nx)).setCell ⟨w1.heap.size, 2, none⟩ (.bool r.ca)).setCell ⟨w1.heap.size, 3, none⟩ (.int .i64 r.dn)).setCell ⟨w1.heap.size, 4, none⟩ (.slice b3 r.sg.length e3)).setCell ⟨w1.heap.size, 5, none⟩ (.slice b4 r.tm.length e4) = WZ := ⟨_, rfl⟩
        have hZ := HF3.out.put hAL WZ hWZ
        have HM2 := hide (HM.out.succ HX.out (by rw [HSK.out]; exact HB.out.1 rfl))
        have HZZ := hide (show FB w (WZ.alloc (.cells (sarr (.slice b3 r.sg.length e3) (.slice b4 r.tm.length e4) r) 73)) w1.heap.size (sk es (k + 1)) (.slice b3 r.sg.length e3) (.slice b4 r.tm.length e4) from by
          rw [sk_succ HX.out, HSK.out, ← hr]
          exact hZ.down ((Below.refl _ _).alloc (Nat.le_refl _) _))
        have HWZ := hide hWZ
        clear hWZ hZ HF3 HYES HB HGS HM hAL hr
        go_wp2
        rw [HWZ.out]
        exact ⟨⟨k + 1, _, _, by omega, by go_num, HZZ, HM2⟩, by simp [intOf]; omega⟩
    · obtain rfl : k = es.length := by omega
      have HKE := hide (show es.length = kf from M.End.uniq ⟨Nat.le_refl _, HM.out, fun e he => by rw [List.getElem?_eq_none (Nat.le_refl _)] at he; cases he⟩ HEND.out)
      obtain ⟨WZ, hWZ⟩ : ∃ WZ, (((((wr.setCell ⟨w.heap.size, 0, none⟩ (.int .i64 s.st)).setCell ⟨w.heap.size, 1, none⟩ (.int .i64 s.nx)).setCell ⟨w.heap.size, 2, none⟩ (.bool s.ca)).setCell ⟨w.heap.size, 3, none⟩ (.int .i64 s.dn)).setCell ⟨w.heap.size, 4, none⟩ (.slice b0 s.sg.length e0)).setCell ⟨w.heap.size, 5, none⟩ (.slice b1 s.tm.length e1) = WZ := ⟨_, rfl⟩
      have hZ := HF.out.fin WZ hWZ
      have HZZ := hide (show Blk WZ w.heap.size 6 (sq (.slice b0 s.sg.length e0) (.slice b1 s.tm.length e1) s) 73 ∧ FoA w WZ (.returned (.tuple #[stv (.slice b0 s.sg.length e0) (.slice b1 s.tm.length e1) s, .int .i64 (es.length : Int)])) es kf ∧ Below w.heap.size w WZ from by
        refine ⟨hZ.1, ?_, hZ.2.2⟩
        rw [← HKE.out]
        unfold FoA
        rw [HSK.out]
        exact ⟨_, _, rfl, hZ.2.1⟩)
      have HWZ := hide hWZ
      clear hWZ hZ HF HM HKE HR HNM HGS
      go_wp2
      rw [HWZ.out]
      clear r0 r1 r2 r3 r4 r5 t0 t1 t2 t3 t4 t5 d0 d1 d2 d3 d4 d5
      obtain ⟨⟨r0, r1, r2, r3, r4, r5⟩, -⟩ := HZZ.out.1.hex
      exact bodyPost_ret (v := .tuple #[stv (.slice b0 s.sg.length e0) (.slice b1 s.tm.length e1) s, .int .i64 (es.length : Int)]) (by simp only [results, Tryd.results49, go_sem]; simp [go_sem, r0, r1, r2, r3, r4, r5]) rfl HZZ.out.2
end Go.Proofs.YtfkeokglifpkoaaDoor

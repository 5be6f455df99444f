/-
  The specification's l12Apply at whatever event, and its ApplyEvent.
-/
import Derived.Test.YtglpkikncgdghaaDoorStV1
import Derived.Test.YtglpkikncgdghaaDoorStV2
import Derived.Test.YtglpkikncgdghaaDoorStV3
import Derived.Test.YtglpkikncgdghaaDoorStV4
import Derived.Test.YtglpkikncgdghaaDoorStV5
import Derived.Test.YtglpkikncgdghaaDoorStV6
namespace Go.Proofs.YtglpkikncgdghaaDoor
open Go.RowKit M
open Clk (upd upd_same upd_other)
open Go.Sort (grow)
theorem spec_l12 (v0 v1 : Value) (s : St) (e : Ev) (b : Bool) (w : World) (hv : StC w v0 v1 s) (hg : GoodSt s) (hen : e.name.size ≤ maxLen) (hb : BP b (May s e)) :
    Calls Tryd.prog 42 #[stv v0 v1 s, ev e.id e.ver e.kind e.name] w fun e' w' => L12 w w' e' s (raw s e) b ∧ Below w.heap.size w w' := by
  by_cases h : e.gd = true ∧ e.id = s.nx ∧ s.st = (if e.kind = 1 then 0 else 1)
  case neg =>
    obtain rfl : b = false := hb.no (fun hm => h ⟨hm.1, hm.2.1, hm.2.2.1⟩)
    exact l12_no v0 v1 s (raw s e) e w hv hg hen h
  obtain ⟨h1, h2, h3⟩ := h
  have hb' : BP b ((e.kind = 5 → s.ca = false) ∧ GoodSt (raw s e)) := ⟨fun q => (hb.1 q).2.2.2, fun q => hb.2 ⟨h1, h2, h3, q⟩⟩
  clear hb
  obtain ⟨-, -, hk, -⟩ := gd_parts h1
  obtain ⟨I, V, k, x⟩ := e
  simp only at *
  rcases (show k = 1 ∨ k = 2 ∨ k = 3 ∨ k = 4 ∨ k = 5 ∨ k = 6 by omega) with rfl | rfl | rfl | rfl | rfl | rfl
  · exact l12_1 v0 v1 s I V x b w hv hg h1 h2 h3 ⟨fun q => (hb'.1 q).2, fun q => hb'.2 ⟨fun c => absurd c (by simp), q⟩⟩
  · exact l12_2 v0 v1 s I V x b w hv hg h1 h2 h3 ⟨fun q => (hb'.1 q).2, fun q => hb'.2 ⟨fun c => absurd c (by simp), q⟩⟩
  · exact l12_3 v0 v1 s I V x b w hv hg h1 h2 h3 ⟨fun q => (hb'.1 q).2, fun q => hb'.2 ⟨fun c => absurd c (by simp), q⟩⟩
  · exact l12_4 v0 v1 s I V x b w hv hg h1 h2 h3 ⟨fun q => (hb'.1 q).2, fun q => hb'.2 ⟨fun c => absurd c (by simp), q⟩⟩
  · exact l12_5 v0 v1 s I V x b w hv hg h1 h2 h3 ⟨fun q => ⟨(hb'.1 q).1 rfl, (hb'.1 q).2⟩, fun q => hb'.2 ⟨fun _ => q.1, q.2⟩⟩
  · exact l12_6 v0 v1 s I V x b w hv hg h1 h2 h3 ⟨fun q => (hb'.1 q).2, fun q => hb'.2 ⟨fun c => absurd c (by simp), q⟩⟩
namespace M
theorem ApA.down {w W W' : World} {e' : Ending} {r : St} {b : Bool} (h : ApA w W e' r b) (hb : Below W.heap.size W W') : ApA w W' e' r b := by
  obtain ⟨u0, u1, he, hA⟩ := h
  exact ⟨u0, u1, he, (hA.down hb).mono (Nat.le_refl _) hb.size⟩
end M
set_option maxRecDepth 20000 in
set_option maxHeartbeats 8000000 in
theorem spec_apply (v0 v1 : Value) (s : St) (e : Ev) (b : Bool) (r : St) (w : World) (hv : StC w v0 v1 s) (hs : ShortT s) (hn : NmT s) (hen : e.name.size ≤ maxLen) (hb : BP b (GoodSt s ∧ May s e)) (hr : (b = true → r = raw s e) ∧ (b = false → r = zst)) :
    Calls Tryd.prog 11 #[stv v0 v1 s, ev e.id e.ver e.kind e.name] w fun e' w' => ApA w w' e' r b ∧ Below w.heap.size w w' := by
  obtain ⟨a0, c0, rfl⟩ := hv.1.1.form
  obtain ⟨a1, c1, rfl⟩ := hv.2.1.form
  have HV := hide hv
  have HS := hide hs
  have HN := hide hn
  have HE := hide hen
  have HB := hide hb
  have HR := hide hr
  clear hv hs hn hen hb hr
  obtain ⟨W, hW⟩ : ∃ W, ((w.alloc (.cells (sarr (.slice a0 s.sg.length c0) (.slice a1 s.tm.length c1) s) 29)).alloc (.cells (evarr e) 33)).alloc (.cells zarr 29) = W := ⟨_, rfl⟩
  have HA0 := hide (show AB w W s e (.slice a0 s.sg.length c0) (.slice a1 s.tm.length c1) from hW ▸ AB.new w s e _ _)
  have HWW := hide hW
  clear hW
  obtain ⟨b1, hb1⟩ := bp_ex (GoodSt s)
  have HB1 := hide hb1
  clear hb1
  have zero : b = false → ∀ W2, AB w W2 s e (.slice a0 s.sg.length c0) (.slice a1 s.tm.length c1) → ∀ WZ, (((((W2.setCell ⟨w.heap.size + 1 + 1, 0, none⟩ (.int .i64 0)).setCell ⟨w.heap.size + 1 + 1, 1, none⟩ (.int .i64 0)).setCell ⟨w.heap.size + 1 + 1, 2, none⟩ (.bool false)).setCell ⟨w.heap.size + 1 + 1, 3, none⟩ (.int .i64 0)).setCell ⟨w.heap.size + 1 + 1, 4, none⟩ (.slice none 0 0)).setCell ⟨w.heap.size + 1 + 1, 5, none⟩ (.slice none 0 0) = WZ →
      Blk WZ (w.heap.size + 1 + 1) 6 (q6 (.int .i64 0) (.int .i64 0) (.bool false) (.int .i64 0) (.slice none 0 0) (.slice none 0 0)) 29 ∧ ApA w WZ (.returned (.tuple #[.agg zarr, .bool false])) r b ∧ Below w.heap.size w WZ := fun hbf W2 hA WZ hWZ => by
    obtain ⟨k1, k2, -⟩ := put6 hA.rb hA.low (by omega) _ _ _ _ _ _ WZ hWZ
    refine ⟨k1, ⟨.slice none 0 0, .slice none 0 0, ?_, ?_⟩, k2⟩
    · rw [HR.out.2 hbf, hbf]; rfl
    · rw [HR.out.2 hbf]; exact ans_nil _ _ _
  have HZ := hide zero
  clear zero
  go_enter Tryd.func11, Tryd.ntmps11
  go_wp2_with fail
  rw [HWW.out]
  clear HWW
  refine (spec_goodSt _ _ s b1 _ (HV.out.below HA0.out.low) HS.out HN.out HB1.out).mono ?_
  rintro e' w1 ⟨rfl, hb⟩
  have HA1 := hide (HA0.out.down hb)
  clear hb HA0
  obtain ⟨e0, e1, e2, e3⟩ := HA1.out.eb.ev
  obtain ⟨⟨d0, d1, d2, d3, d4, d5⟩, -⟩ := HA1.out.sb.hex
  obtain ⟨⟨r0, r1, r2, r3, r4, r5⟩, t0, t1, t2, t3, t4, t5⟩ := HA1.out.rb.hex
  cases b1 with
  | false =>
    have HF := hide (HB.out.no (fun h => by have := HB1.out.2 h.1; cases this))
    obtain ⟨WZ, hWZ⟩ : ∃ WZ, (((((w1.setCell ⟨w.heap.size + 1 + 1, 0, none⟩ (.int .i64 0)).setCell ⟨w.heap.size + 1 + 1, 1, none⟩ (.int .i64 0)).setCell ⟨w.heap.size + 1 + 1, 2, none⟩ (.bool false)).setCell ⟨w.heap.size + 1 + 1, 3, none⟩ (.int .i64 0)).setCell ⟨w.heap.size + 1 + 1, 4, none⟩ (.slice none 0 0)).setCell ⟨w.heap.size + 1 + 1, 5, none⟩ (.slice none 0 0) = WZ := ⟨_, rfl⟩
    have HZZ := hide (HZ.out HF.out w1 HA1.out WZ hWZ)
    have HWZ := hide hWZ
    clear hWZ HA1
    go_wp2
    rw [HWZ.out]
    clear r0 r1 r2 r3 r4 r5 t0 t1 t2 t3 t4 t5
    obtain ⟨⟨r0, r1, r2, r3, r4, r5⟩, -⟩ := HZZ.out.1.hex
    exact bodyPost_ret (v := .tuple #[.agg zarr, .bool false]) (by simp [results, Tryd.results11, go_sem, r0, r1, r2, r3, r4, r5]) rfl HZZ.out.2
  | true =>
    have HGS := hide (HB1.out.1 rfl)
    have HBM := hide (show BP b (May s e) from ⟨fun h => (HB.out.1 h).2, fun h => HB.out.2 ⟨HGS.out, h⟩⟩)
    clear HB
    go_wp2_with fail
    refine (spec_l12 _ _ s e b _ (HV.out.below HA1.out.low) HGS.out HE.out HBM.out).mono ?_
    rintro e' w2 ⟨⟨u0, u1, x, rfl, hC, hyes, -⟩, hb⟩
    have HA2 := hide (HA1.out.down hb)
    have HC := hide hC
    have HY := hide hyes
    have h21 := hb.size
    have hbig := HA1.out.big
    obtain ⟨a3, c3, rfl⟩ := hC.1.1.form
    obtain ⟨a4, c4, rfl⟩ := hC.2.1.form
    have hlt1 : w.heap.size + 1 + 1 < w2.heap.size := HA2.out.rb.lt
    clear d0 d1 d2 d3 d4 d5 e0 e1 e2 e3 r0 r1 r2 r3 r4 r5 t0 t1 t2 t3 t4 t5 hb HA1 hC hyes
    obtain ⟨⟨r0, r1, r2, r3, r4, r5⟩, t0, t1, t2, t3, t4, t5⟩ := HA2.out.rb.hex
    cases b with
    | false =>
      obtain ⟨WZ, hWZ⟩ : ∃ WZ, (((((w2.setCell ⟨w.heap.size + 1 + 1, 0, none⟩ (.int .i64 0)).setCell ⟨w.heap.size + 1 + 1, 1, none⟩ (.int .i64 0)).setCell ⟨w.heap.size + 1 + 1, 2, none⟩ (.bool false)).setCell ⟨w.heap.size + 1 + 1, 3, none⟩ (.int .i64 0)).setCell ⟨w.heap.size + 1 + 1, 4, none⟩ (.slice none 0 0)).setCell ⟨w.heap.size + 1 + 1, 5, none⟩ (.slice none 0 0) = WZ := ⟨_, rfl⟩
      have hZZ := HZ.out rfl w2 HA2.out WZ hWZ
      have hdn := (Below.refl WZ.heap.size WZ).alloc (Nat.le_refl _) (.cells (sarr (.slice a3 x.sg.length c3) (.slice a4 x.tm.length c4) x) 29)
      have HZZ := hide (show Blk (WZ.alloc (.cells (sarr (.slice a3 x.sg.length c3) (.slice a4 x.tm.length c4) x) 29)) (w.heap.size + 1 + 1) 6 (q6 (.int .i64 0) (.int .i64 0) (.bool false) (.int .i64 0) (.slice none 0 0) (.slice none 0 0)) 29 ∧ ApA w (WZ.alloc (.cells (sarr (.slice a3 x.sg.length c3) (.slice a4 x.tm.length c4) x) 29)) (.returned (.tuple #[.agg zarr, .bool false])) r false ∧ Below w.heap.size w (WZ.alloc (.cells (sarr (.slice a3 x.sg.length c3) (.slice a4 x.tm.length c4) x) 29)) from ⟨hZZ.1.down hdn, hZZ.2.1.down hdn, hZZ.2.2.trans (hdn.mono hZZ.2.2.size)⟩)
      have HWZ := hide hWZ
      clear hWZ HA2 HY HC hZZ hdn
      go_wp2
      rw [HWZ.out]
      clear r0 r1 r2 r3 r4 r5 t0 t1 t2 t3 t4 t5
      obtain ⟨⟨r0, r1, r2, r3, r4, r5⟩, -⟩ := HZZ.out.1.hex
      exact bodyPost_ret (v := .tuple #[.agg zarr, .bool false]) (by simp only [results, Tryd.results11, go_sem]; simp [go_sem, r0, r1, r2, r3, r4, r5]) rfl HZZ.out.2
    | true =>
      obtain ⟨hxr, hAL⟩ := HY.out rfl
      have hre : x = r := by rw [hxr]; exact (HR.out.1 rfl).symm
      subst hre
      obtain ⟨WZ, hWZ⟩ : ∃ WZ, (((((w2.setCell ⟨w.heap.size + 1 + 1, 0, none⟩ (.int .i64 x.st)).setCell ⟨w.heap.size + 1 + 1, 1, none⟩ (.int .i64 x.nx)).setCell ⟨w.heap.size + 1 + 1, 2, none⟩ (.bool x.ca)).setCell ⟨w.heap.size + 1 + 1, 3, none⟩ (.int .i64 x.dn)).setCell ⟨w.heap.size + 1 + 1, 4, none⟩ (.slice a3 x.sg.length c3)).setCell ⟨w.heap.size + 1 + 1, 5, none⟩ (.slice a4 x.tm.length c4) = WZ := ⟨_, rfl⟩
      have HZZ := hide (show Blk (WZ.alloc (.cells (sarr (.slice a3 x.sg.length c3) (.slice a4 x.tm.length c4) x) 29)) (w.heap.size + 1 + 1) 6 (sq (.slice a3 x.sg.length c3) (.slice a4 x.tm.length c4) x) 29 ∧ ApA w (WZ.alloc (.cells (sarr (.slice a3 x.sg.length c3) (.slice a4 x.tm.length c4) x) 29)) (.returned (.tuple #[stv (.slice a3 x.sg.length c3) (.slice a4 x.tm.length c4) x, .bool true])) x true ∧ Below w.heap.size w (WZ.alloc (.cells (sarr (.slice a3 x.sg.length c3) (.slice a4 x.tm.length c4) x) 29)) from by
        obtain ⟨k1, k2, k3⟩ := put6 HA2.out.rb HA2.out.low (by omega) _ _ _ _ _ _ WZ hWZ
        have hdn := (Below.refl WZ.heap.size WZ).alloc (Nat.le_refl _) (.cells (sarr (.slice a3 x.sg.length c3) (.slice a4 x.tm.length c4) x) 29)
        have n0 := hAL.o0.ne_blk HA2.out.rb (by decide)
        have n1 := hAL.o1.ne_blk HA2.out.rb (by decide)
        have hA : AnsL WZ w.heap.size WZ.heap.size (.slice a3 x.sg.length c3) (.slice a4 x.tm.length c4) x.sg x.tm := AnsL.of ((hAL.o0.other k3 (fun g hg e => n0 (by rw [hg, e]))).mono (by omega)) ((hAL.o1.other k3 (fun g hg e => n1 (by rw [hg, e]))).mono (by omega)) hAL.ap
        exact ⟨k1.down hdn, ⟨_, _, rfl, (hA.down hdn).mono (Nat.le_refl _) hdn.size⟩, k2.trans (hdn.mono k2.size)⟩)
      have HWZ := hide hWZ
      clear hWZ HA2 HY HC hAL hxr
      go_wp2
      rw [HWZ.out]
      clear r0 r1 r2 r3 r4 r5 t0 t1 t2 t3 t4 t5
      obtain ⟨⟨r0, r1, r2, r3, r4, r5⟩, -⟩ := HZZ.out.1.hex
      exact bodyPost_ret (v := .tuple #[stv (.slice a3 x.sg.length c3) (.slice a4 x.tm.length c4) x, .bool true]) (by simp only [results, Tryd.results11, go_sem]; simp [go_sem, r0, r1, r2, r3, r4, r5]) rfl HZZ.out.2
end Go.Proofs.YtglpkikncgdghaaDoor

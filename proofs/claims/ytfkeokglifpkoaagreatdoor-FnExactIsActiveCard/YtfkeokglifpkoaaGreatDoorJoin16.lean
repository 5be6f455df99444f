/-
  Texts that follow one another, joined: StU, StV.
-/
import Derived.Test.YtfkeokglifpkoaaGreatDoorJoin14
import Derived.Test.YtfkeokglifpkoaaGreatDoorJoin15
import Derived.Test.YtfkeokglifpkoaaGreatDoorJoin13
import Derived.Deep.RegionWith
import Derived.Deep.RegionHeld
import Derived.Deep.Cut
/-
  ApplyEvent of the program: what an event that may come makes of a state, in memory of its own; the zero state and false of one that may not. Condition: the table knownKinds reads as the program's text lays it.
-/
namespace Go.Proofs.YtfkeokglifpkoaaGreatDoor
open Go.RowKit M
open Clk (upd upd_same upd_other)
open Go.Sort (grow)
namespace M
theorem gd_parts {e : Ev} (h : e.gd = true) : (1 ≤ e.id ∧ e.id ≤ 1000) ∧ (0 ≤ e.ver ∧ e.ver ≤ 1000000) ∧ (1 ≤ e.kind ∧ e.kind ≤ 6) ∧ gN e.name = true := by
  unfold Ev.gd goodB inB at h
  simp only [Bool.and_eq_true, decide_eq_true_eq] at h
  exact h
/-- What take asks of a state and an event that is good and has the Id Next. -/
def MayT (s : St) (e : Ev) : Prop := s.st = (if e.kind = 1 then 0 else 1) ∧ (e.kind = 5 → s.ca = false) ∧ GoodSt (raw s e)
end M
theorem take_any (B g : Nat) (v0 v1 : Value) (s : St) (e : Ev) (b : Bool) (w : World) (h : SM w B g v0 v1 s) (hs : GoodSt s) (he : e.gd = true) (hB : B ≤ w.heap.size) (hb : BP b (MayT s e)) :
    Calls Tryz.prog 166 #[.pointer (some ⟨g, 0, none⟩), hv e.kind e.name] w fun e' w' => e' = .returned (.bool b) ∧ (b = true → ∃ u0 u1, SM w' B g u0 u1 (raw s e)) ∧ Below B w w' := by
  obtain ⟨-, -, hk, hx⟩ := gd_parts he
  obtain ⟨I, V, k, x⟩ := e
  simp only at *
  unfold MayT at hb
  rcases (show k = 1 ∨ k = 2 ∨ k = 3 ∨ k = 4 ∨ k = 5 ∨ k = 6 by omega) with rfl | rfl | rfl | rfl | rfl | rfl
  · exact take1 B g v0 v1 s b w h hs hB ⟨fun q => ⟨(hb.1 q).1, (hb.1 q).2.2⟩, fun q => hb.2 ⟨q.1, fun c => absurd c (by simp), q.2⟩⟩
  · exact take2 B g v0 v1 s x b w h hs hx hB ⟨fun q => ⟨(hb.1 q).1, (hb.1 q).2.2⟩, fun q => hb.2 ⟨q.1, fun c => absurd c (by simp), q.2⟩⟩
  · exact take3 B g v0 v1 s b w h hs hB ⟨fun q => ⟨(hb.1 q).1, (hb.1 q).2.2⟩, fun q => hb.2 ⟨q.1, fun c => absurd c (by simp), q.2⟩⟩
  · exact take4 B g v0 v1 s x b w h hs hx hB ⟨fun q => ⟨(hb.1 q).1, (hb.1 q).2.2⟩, fun q => hb.2 ⟨q.1, fun c => absurd c (by simp), q.2⟩⟩
  · exact take5 B g v0 v1 s b w h hs hB ⟨fun q => ⟨(hb.1 q).1, (hb.1 q).2.1 rfl, (hb.1 q).2.2⟩, fun q => hb.2 ⟨q.1, fun _ => q.2.1, q.2.2⟩⟩
  · exact take6 B g v0 v1 s b w h hs hB ⟨fun q => ⟨(hb.1 q).1, (hb.1 q).2.2⟩, fun q => hb.2 ⟨q.1, fun c => absurd c (by simp), q.2⟩⟩
namespace M
abbrev evarr (e : Ev) : Array Value := #[.int .i64 e.id, .int .i64 e.ver, .int .i64 e.kind, .string e.name]
def ev4 (e : Ev) : Nat → Value := fun i => if i = 0 then .int .i64 e.id else if i = 1 then .int .i64 e.ver else if i = 2 then .int .i64 e.kind else .string e.name
theorem Blk.ev {w : World} {g : Nat} {e : Ev} {t : TypeId} (h : Blk w g 4 (ev4 e) t) : w.cell? ⟨g, 0, none⟩ = some (.int .i64 e.id) ∧ w.cell? ⟨g, 1, none⟩ = some (.int .i64 e.ver) ∧ w.cell? ⟨g, 2, none⟩ = some (.int .i64 e.kind) ∧ w.cell? ⟨g, 3, none⟩ = some (.string e.name) :=
  ⟨h.cell (show 0 < 4 by omega), h.cell (show 1 < 4 by omega), h.cell (show 2 < 4 by omega), h.cell (show 3 < 4 by omega)⟩
abbrev zarr : Array Value := #[.int .i64 0, .int .i64 0, .bool false, .int .i64 0, .slice none 0 0, .slice none 0 0]
/-- While an event is applied: the state's box, the event's, and that of the answer. -/
structure AB (w W : World) (s : St) (e : Ev) (v0 v1 : Value) : Prop where
  low : Below w.heap.size w W
  sb : Blk W w.heap.size 6 (sq v0 v1 s) 60
  eb : Blk W (w.heap.size + 1) 4 (ev4 e) 74
  rb : Blk W (w.heap.size + 1 + 1) 6 (q6 (.int .i64 0) (.int .i64 0) (.bool false) (.int .i64 0) (.slice none 0 0) (.slice none 0 0)) 60
theorem AB.new (w : World) (s : St) (e : Ev) (v0 v1 : Value) : AB w (((w.alloc (.cells (sarr v0 v1 s) 60)).alloc (.cells (evarr e) 74)).alloc (.cells zarr 60)) s e v0 v1 := by
  refine ⟨(((Below.refl _ w).alloc (Nat.le_refl _) _).alloc (by simp) _).alloc (by simp; omega) _, ((new6 w _ _ _ _ _ _ 60).alloc _).alloc _, ?_, ?_⟩
  · have := (Blk.fresh (w.alloc (.cells (sarr v0 v1 s) 60)) (evarr e) 4 (ev4 e) 74 rfl).alloc (.cells zarr 60)
    rw [World.size_alloc] at this; exact this
  · have := new6 ((w.alloc (.cells (sarr v0 v1 s) 60)).alloc (.cells (evarr e) 74)) (.int .i64 0) (.int .i64 0) (.bool false) (.int .i64 0) (.slice none 0 0) (.slice none 0 0) 60
    rw [World.size_alloc, World.size_alloc] at this; exact this
theorem AB.down {w W W' : World} {s : St} {e : Ev} {v0 v1 : Value} (h : AB w W s e v0 v1) (hb : Below W.heap.size W W') : AB w W' s e v0 v1 :=
  ⟨h.low.trans (hb.mono h.low.size), h.sb.down hb, h.eb.down hb, h.rb.down hb⟩
theorem AB.lowB {w W W' : World} {s : St} {e : Ev} {v0 v1 : Value} {B : Nat} (h : AB w W s e v0 v1) (hb : Below B W W') (hB : w.heap.size + 3 ≤ B) : AB w W' s e v0 v1 :=
  ⟨h.low.trans (hb.mono (by omega)), h.sb.below hb (by omega), h.eb.below hb (by omega), h.rb.below hb (by omega)⟩
theorem AB.big {w W : World} {s : St} {e : Ev} {v0 v1 : Value} (h : AB w W s e v0 v1) : w.heap.size + 3 ≤ W.heap.size := by have := h.rb.lt; omega
end M
theorem ans_nil (w : World) (lo hi : Nat) : AnsL w lo hi (.slice none 0 0) (.slice none 0 0) [] [] := ⟨OwnT.nil _ _, OwnT.nil _ _, fun g h => (by cases h), fun g h => (by cases h), fun g h => (by cases h)⟩
namespace M
/-- What ApplyEvent answers: r and b, in memory of its own. -/
def ApA (w w' : World) (e' : Ending) (r : St) (b : Bool) : Prop := ∃ u0 u1, e' = .returned (.tuple #[stv u0 u1 r, .bool b]) ∧ AnsL w' w.heap.size w'.heap.size u0 u1 r.sg r.tm
end M
set_option maxRecDepth 20000 in
set_option maxHeartbeats 8000000 in
theorem impl_apply (v0 v1 : Value) (s : St) (e : Ev) (b : Bool) (r : St) (w : World) (hv : StC w v0 v1 s) (hs : ShortT s) (hn : NmT s) (hen : e.name.size ≤ maxLen) (hkk : KK w) (hb : BP b (GoodSt s ∧ May s e)) (hr : (b = true → r = raw s e) ∧ (b = false → r = zst)) :
    Calls Tryz.prog 126 #[stv v0 v1 s, ev e.id e.ver e.kind e.name] w fun e' w' => ApA w w' e' r b ∧ Below w.heap.size w w' := by
  obtain ⟨a0, c0, rfl⟩ := hv.1.1.form
  obtain ⟨a1, c1, rfl⟩ := hv.2.1.form
  have HV := hide hv
  have HS := hide hs
  have HN := hide hn
  have HE := hide hen
  have HK := hide hkk
  have HB := hide hb
  have HR := hide hr
  clear hv hs hn hen hkk hb hr
  obtain ⟨W, hW⟩ : ∃ W, ((w.alloc (.cells (sarr (.slice a0 s.sg.length c0) (.slice a1 s.tm.length c1) s) 60)).alloc (.cells (evarr e) 74)).alloc (.cells zarr 60) = W := ⟨_, rfl⟩
  have HA0 := hide (show AB w W s e (.slice a0 s.sg.length c0) (.slice a1 s.tm.length c1) from hW ▸ AB.new w s e _ _)
  have HWW := hide hW
  clear hW
  obtain ⟨b1, hb1⟩ := bp_ex (GoodSt s)
  have HB1 := hide hb1
  clear hb1
  have zero : b = false → ∀ W2, AB w W2 s e (.slice a0 s.sg.length c0) (.slice a1 s.tm.length c1) → ∀ WZ, (((((W2.setCell ⟨w.heap.size + 1 + 1, 0, none⟩ (.int .i64 0)).setCell ⟨w.heap.size + 1 + 1, 1, none⟩ (.int .i64 0)).setCell ⟨w.heap.size + 1 + 1, 2, none⟩ (.bool false)).setCell ⟨w.heap.size + 1 + 1, 3, none⟩ (.int .i64 0)).setCell ⟨w.heap.size + 1 + 1, 4, none⟩ (.slice none 0 0)).setCell ⟨w.heap.size + 1 + 1, 5, none⟩ (.slice none 0 0) = WZ →
      Blk WZ (w.heap.size + 1 + 1) 6 (q6 (.int .i64 0) (.int .i64 0) (.bool false) (.int .i64 0) (.slice none 0 0) (.slice none 0 0)) 60 ∧ ApA w WZ (.returned (.tuple #[.agg zarr, .bool false])) r b ∧ Below w.heap.size w WZ := fun hbf W2 hA WZ hWZ => by
    obtain ⟨k1, k2, -⟩ := put6 hA.rb hA.low (by omega) _ _ _ _ _ _ WZ hWZ
    refine ⟨k1, ⟨.slice none 0 0, .slice none 0 0, ?_, ?_⟩, k2⟩
    · rw [HR.out.2 hbf, hbf]; rfl
    · rw [HR.out.2 hbf]; exact ans_nil _ _ _
  have HZ := hide zero
  clear zero
  go_enter Tryz.func126, Tryz.ntmps126
  go_wp2_with fail
  rw [HWW.out]
  clear HWW
  refine (impl_goodSt _ _ s b1 _ (HV.out.below HA0.out.low) HS.out HN.out HB1.out).mono ?_
  rintro e' w1 ⟨rfl, hb⟩
  have HA1 := hide (HA0.out.down hb)
  clear hb HA0
  obtain ⟨e0, e1, e2, e3⟩ := HA1.out.eb.ev
  obtain ⟨⟨d0, d1, d2, d3, d4, d5⟩, -⟩ := HA1.out.sb.hex
  obtain ⟨⟨r0, r1, r2, r3, r4, r5⟩, t0, t1, t2, t3, t4, t5⟩ := HA1.out.rb.hex
  cases b1 with
  | false =>
    have HF := hide (HB.out.no (fun h => by have := HB1.out.2 h.1; cases this))
    obtain ⟨WZ, hWZ⟩ : ∃ WZ, (((((w1.setCell ⟨w.heap.size + 1 + 1, 0, none⟩ (.int .i64 0)).setCell ⟨w.heap.size + 1 + 1, 1, none⟩ (.int .i64 0)).setCell ⟨w.heap.size + 1 + 1, 2, none⟩ (.bool false)).setCell ⟨w.heap.size + 1 + 1, 3, none⟩ (.int .i64 0)).setCell ⟨w.heap.size + 1 + 1, 4, none⟩ (.slice none 0 0)).setCell ⟨w.heap.size + 1 + 1, 5, none⟩ (.slice none 0 0) = WZ := ⟨_, rfl⟩
    have HZZ := hide (HZ.out HF.out w1 HA1.out WZ hWZ)
    have HWZ := hide hWZ
    clear hWZ HA1
    go_wp2
    rw [HWZ.out]
    clear r0 r1 r2 r3 r4 r5 t0 t1 t2 t3 t4 t5
    obtain ⟨⟨r0, r1, r2, r3, r4, r5⟩, -⟩ := HZZ.out.1.hex
    exact bodyPost_ret (v := .tuple #[.agg zarr, .bool false]) (by simp [results, Tryz.results126, go_sem, r0, r1, r2, r3, r4, r5]) rfl HZZ.out.2
  | true =>
    go_wp2_with fail
    refine (impl_good _ _ _ _ _ HE.out (HK.out.below HA1.out.low)).mono ?_
    rintro e' w2 ⟨rfl, hb⟩
    have HA2 := hide (HA1.out.down hb)
    clear hb HA1 d0 d1 d2 d3 d4 d5 e0 e1 e2 e3 r0 r1 r2 r3 r4 r5 t0 t1 t2 t3 t4 t5
    obtain ⟨e0, e1, e2, e3⟩ := HA2.out.eb.ev
    obtain ⟨⟨d0, d1, d2, d3, d4, d5⟩, -⟩ := HA2.out.sb.hex
    obtain ⟨⟨r0, r1, r2, r3, r4, r5⟩, t0, t1, t2, t3, t4, t5⟩ := HA2.out.rb.hex
    cases hg : goodB e.id e.ver e.kind e.name
    · have HF := hide (HB.out.no (fun h => by have h1 : goodB e.id e.ver e.kind e.name = true := h.2.1; rw [hg] at h1; cases h1))
      obtain ⟨WZ, hWZ⟩ : ∃ WZ, (((((w2.setCell ⟨w.heap.size + 1 + 1, 0, none⟩ (.int .i64 0)).setCell ⟨w.heap.size + 1 + 1, 1, none⟩ (.int .i64 0)).setCell ⟨w.heap.size + 1 + 1, 2, none⟩ (.bool false)).setCell ⟨w.heap.size + 1 + 1, 3, none⟩ (.int .i64 0)).setCell ⟨w.heap.size + 1 + 1, 4, none⟩ (.slice none 0 0)).setCell ⟨w.heap.size + 1 + 1, 5, none⟩ (.slice none 0 0) = WZ := ⟨_, rfl⟩
      have HZZ := hide (HZ.out HF.out w2 HA2.out WZ hWZ)
      have HWZ := hide hWZ
      clear hWZ HA2
      go_wp2
      rw [HWZ.out]
      clear r0 r1 r2 r3 r4 r5 t0 t1 t2 t3 t4 t5
      obtain ⟨⟨r0, r1, r2, r3, r4, r5⟩, -⟩ := HZZ.out.1.hex
      exact bodyPost_ret (v := .tuple #[.agg zarr, .bool false]) (by simp [results, Tryz.results126, go_sem, r0, r1, r2, r3, r4, r5]) rfl HZZ.out.2
    · have HGD := hide (show e.gd = true from hg)
      clear hg
      by_cases hid : e.id = s.nx
      case neg =>
        have hid2 : (e.id != s.nx) = true := by simp [hid]
        have HF := hide (HB.out.no (fun h => hid h.2.2.1))
        obtain ⟨WZ, hWZ⟩ : ∃ WZ, (((((w2.setCell ⟨w.heap.size + 1 + 1, 0, none⟩ (.int .i64 0)).setCell ⟨w.heap.size + 1 + 1, 1, none⟩ (.int .i64 0)).setCell ⟨w.heap.size + 1 + 1, 2, none⟩ (.bool false)).setCell ⟨w.heap.size + 1 + 1, 3, none⟩ (.int .i64 0)).setCell ⟨w.heap.size + 1 + 1, 4, none⟩ (.slice none 0 0)).setCell ⟨w.heap.size + 1 + 1, 5, none⟩ (.slice none 0 0) = WZ := ⟨_, rfl⟩
        have HZZ := hide (HZ.out HF.out w2 HA2.out WZ hWZ)
        have HWZ := hide hWZ
        clear hWZ HA2 hid
        go_wp2
        rw [HWZ.out]
        clear r0 r1 r2 r3 r4 r5 t0 t1 t2 t3 t4 t5
        obtain ⟨⟨r0, r1, r2, r3, r4, r5⟩, -⟩ := HZZ.out.1.hex
        exact bodyPost_ret (v := .tuple #[.agg zarr, .bool false]) (by simp [results, Tryz.results126, go_sem, r0, r1, r2, r3, r4, r5]) rfl HZZ.out.2
      have hid2 : (e.id != s.nx) = false := by simp [hid]
      have HID := hide hid
      clear hid
      have HGS := hide (HB1.out.1 rfl)
      have HBT := hide (show BP b (MayT s e) from ⟨fun h => ⟨(HB.out.1 h).2.2.2.1, (HB.out.1 h).2.2.2.2.1, (HB.out.1 h).2.2.2.2.2⟩, fun h => HB.out.2 ⟨HGS.out, HGD.out, HID.out, h.1, h.2.1, h.2.2⟩⟩)
      have hl12 := HGS.out
      have HN12 := hide (show (∀ x ∈ s.sg, x.size ≤ 12) ∧ ∀ x ∈ s.tm, x.size ≤ 12 from ⟨hl12.2.2.1.size, hl12.2.2.2.1.size⟩)
      clear hl12 HB
      go_wp2_with fail
      refine (copy_state _ _ s _ (HV.out.below HA2.out.low).q HS.out HN12.out).mono ?_
      rintro e' w3 ⟨⟨u0, u1, rfl, hAL⟩, hb⟩
      obtain ⟨a3, c3, rfl⟩ := hAL.o0.form
      obtain ⟨a4, c4, rfl⟩ := hAL.o1.form
      have HA3 := hide (HA2.out.down hb)
      have hbig := HA2.out.big
      have h32 := hb.size
      obtain ⟨w4, hw4⟩ : ∃ w4, w3.alloc (.cells (sarr (.slice a3 s.sg.length c3) (.slice a4 s.tm.length c4) s) 60) = w4 := ⟨_, rfl⟩
      have hdn : Below w3.heap.size w3 w4 := by rw [← hw4]; exact (Below.refl _ _).alloc (Nat.le_refl _) _
      have HA4 := hide (HA3.out.down hdn)
      have HM4 := hide (show SM w4 w2.heap.size w3.heap.size (.slice a3 s.sg.length c3) (.slice a4 s.tm.length c4) s from
        ⟨by rw [← hw4]; exact new6 w3 _ _ _ _ _ _ 60, (hAL.down hdn).o0, (hAL.down hdn).o1, hAL.ap, h32⟩)
      have h42 : w2.heap.size ≤ w4.heap.size := Nat.le_trans h32 hdn.size
      have Hw4 := hide hw4
      clear d0 d1 d2 d3 d4 d5 e0 e1 e2 e3 r0 r1 r2 r3 r4 r5 t0 t1 t2 t3 t4 t5 hb hAL HA2 HA3 hw4 hdn
      obtain ⟨e0, e1, e2, e3⟩ := HA4.out.eb.ev
      have hx1 : w.heap.size + 1 < w3.heap.size := by omega
      rw [← Hw4.out] at e0 e1 e2 e3
      go_wp2_with fail
      rw [Hw4.out]
      obtain ⟨-, -, hk16, hgn⟩ := gd_parts HGD.out
      refine (happens e _ hk16 (gN_size hgn)).mono ?_
      rintro e' w5 ⟨rfl, hb⟩
      have HA5 := hide (HA4.out.down hb)
      have HM5 := hide (HM4.out.down hb)
      have h52 : w2.heap.size ≤ w5.heap.size := Nat.le_trans h42 hb.size
      obtain ⟨hval, hhv⟩ : ∃ hval, hv e.kind e.name = hval := ⟨_, rfl⟩
      have HHV := hide hhv
      rw [hhv]
      clear hb HA4 HM4 e0 e1 e2 e3 hk16 hgn hhv Hw4 h42
      go_wp2_with fail
      rw [← HHV.out]
      refine (take_any w2.heap.size w3.heap.size _ _ s e b _ HM5.out HGS.out HGD.out h52 HBT.out).mono ?_
      rintro e' w6 ⟨rfl, hM6, hb6⟩
      have HA6 := hide (HA5.out.lowB hb6 hbig)
      obtain ⟨⟨r0, r1, r2, r3, r4, r5⟩, t0, t1, t2, t3, t4, t5⟩ := HA6.out.rb.hex
      rw [HHV.out]
      clear hb6 HA5 HM5 h52
      cases b with
      | false =>
        obtain ⟨WZ, hWZ⟩ : ∃ WZ, (((((w6.setCell ⟨w.heap.size + 1 + 1, 0, none⟩ (.int .i64 0)).setCell ⟨w.heap.size + 1 + 1, 1, none⟩ (.int .i64 0)).setCell ⟨w.heap.size + 1 + 1, 2, none⟩ (.bool false)).setCell ⟨w.heap.size + 1 + 1, 3, none⟩ (.int .i64 0)).setCell ⟨w.heap.size + 1 + 1, 4, none⟩ (.slice none 0 0)).setCell ⟨w.heap.size + 1 + 1, 5, none⟩ (.slice none 0 0) = WZ := ⟨_, rfl⟩
        have HZZ := hide (HZ.out rfl w6 HA6.out WZ hWZ)
        have HWZ := hide hWZ
        clear hWZ HA6 hM6
        go_wp2
        rw [HWZ.out]
        clear r0 r1 r2 r3 r4 r5 t0 t1 t2 t3 t4 t5
        obtain ⟨⟨r0, r1, r2, r3, r4, r5⟩, -⟩ := HZZ.out.1.hex
        exact bodyPost_ret (v := .tuple #[.agg zarr, .bool false]) (by simp [results, Tryz.results126, go_sem, r0, r1, r2, r3, r4, r5]) rfl HZZ.out.2
      | true =>
        obtain ⟨u0, u1, hM⟩ := hM6 rfl
        have hre := HR.out.1 rfl
        rw [← hre] at hM
        obtain ⟨a7, c7, rfl⟩ := hM.o0.form
        obtain ⟨a8, c8, rfl⟩ := hM.o1.form
        obtain ⟨⟨d0, d1, d2, d3, d4, d5⟩, -⟩ := hM.box.hex
        obtain ⟨WZ, hWZ⟩ : ∃ WZ, (((((w6.setCell ⟨w.heap.size + 1 + 1, 0, none⟩ (.int .i64 r.st)).setCell ⟨w.heap.size + 1 + 1, 1, none⟩ (.int .i64 r.nx)).setCell ⟨w.heap.size + 1 + 1, 2, none⟩ (.bool r.ca)).setCell ⟨w.heap.size + 1 + 1, 3, none⟩ (.int .i64 r.dn)).setCell ⟨w.heap.size + 1 + 1, 4, none⟩ (.slice a7 r.sg.length c7)).setCell ⟨w.heap.size + 1 + 1, 5, none⟩ (.slice a8 r.tm.length c8) = WZ := ⟨_, rfl⟩
        have HZZ := hide (show Blk WZ (w.heap.size + 1 + 1) 6 (sq (.slice a7 r.sg.length c7) (.slice a8 r.tm.length c8) r) 60 ∧ ApA w WZ (.returned (.tuple #[stv (.slice a7 r.sg.length c7) (.slice a8 r.tm.length c8) r, .bool true])) r true ∧ Below w.heap.size w WZ from by
          obtain ⟨k1, k2, k3⟩ := put6 HA6.out.rb HA6.out.low (by omega) _ _ _ _ _ _ WZ hWZ
          refine ⟨k1, ⟨_, _, rfl, AnsL.of ((hM.o0.other k3 (fun g hg e => ?_)).mono (by omega)) ((hM.o1.other k3 (fun g hg e => ?_)).mono (by omega)) hM.ap⟩, k2⟩
          · have := (hM.o0.lt hg).1
            simp only [Option.some.injEq] at e; omega
          · have := (hM.o1.lt hg).1
            simp only [Option.some.injEq] at e; omega)
        have HWZ := hide hWZ
        clear hWZ HA6 hM6 hM hre HHV
        go_wp2
        rw [HWZ.out]
        clear r0 r1 r2 r3 r4 r5 t0 t1 t2 t3 t4 t5 d0 d1 d2 d3 d4 d5
        obtain ⟨⟨r0, r1, r2, r3, r4, r5⟩, -⟩ := HZZ.out.1.hex
        exact bodyPost_ret (v := .tuple #[stv (.slice a7 r.sg.length c7) (.slice a8 r.tm.length c8) r, .bool true]) (by simp [results, Tryz.results126, go_sem, r0, r1, r2, r3, r4, r5]) rfl HZZ.out.2
end Go.Proofs.YtfkeokglifpkoaaGreatDoor

/-
  The specification's l12Apply: the boxes while it goes on, and an event that is refused at once.
-/
namespace Go.Proofs.YtfkeokglifpkoaaGreatDoor
open Go.RowKit M
open Clk (upd upd_same upd_other)
open Go.Sort (grow)
namespace M
/-- What l12Apply answers: b; where it is true the state r in memory of its own, else the state as it was, or r, which is not good. -/
def L12 (w w' : World) (e' : Ending) (s r : St) (b : Bool) : Prop := ∃ u0 u1 x, e' = .returned (.tuple #[stv u0 u1 x, .bool b]) ∧ StC w' u0 u1 x ∧ (b = true → x = r ∧ AnsL w' w.heap.size w'.heap.size u0 u1 x.sg x.tm) ∧ (b = false → x = s ∨ (x = r ∧ ¬ GoodSt r))
theorem gbT_down {w w' : World} (h : Below w.heap.size w w') (row : Option Nat) : w.grownBy w' row := ⟨h.os, h.tape, h.output, h.size, fun k hk _ => h.block k hk⟩
/-- A new row of timers is put into the box. -/
theorem SM.new5 {w w' : World} {B g : Nat} {v0 v1 u : Value} {s : St} {l : Txs} (h : SM w B g v0 v1 s) (hb : Below w.heap.size w w') (hu : OwnT w' w.heap.size u l) (hB : B ≤ w.heap.size) : SM (w'.setCell ⟨g, 5, none⟩ u) B g v0 u ⟨s.st, s.nx, s.ca, s.dn, s.sg, l⟩ := by
  have h' := h.down hb
  have hun : u.ownBlock ≠ some g := hu.ne_blk h'.box (by decide)
  refine ⟨h'.box.hex5 u, (h'.rows _ _).1, (hu.other (gbT_set (gbT_refl w' (some g))) (fun g' hg' e => hun (by rw [hg', e]))).mono hB, fun g' hg' e => ?_, h.lo⟩
  have h1 := (h.o0.lt hg').2
  have h2 := (hu.lt e).1
  omega
/-- While l12Apply goes on with its own copy of the state. -/
structure VB (w W : World) (s : St) (e : Ev) (u0 u1 : Value) : Prop where
  low : Below w.heap.size w W
  m : SM W w.heap.size w.heap.size u0 u1 s
  eb : Blk W (w.heap.size + 1) 4 (ev4 e) 74
  rb : Blk W (w.heap.size + 1 + 1) 6 (q6 (.int .i64 0) (.int .i64 0) (.bool false) (.int .i64 0) (.slice none 0 0) (.slice none 0 0)) 60
theorem VB.down {w W W' : World} {s : St} {e : Ev} {u0 u1 : Value} (h : VB w W s e u0 u1) (hb : Below W.heap.size W W') : VB w W' s e u0 u1 :=
  ⟨h.low.trans (hb.mono h.low.size), h.m.down hb, h.eb.down hb, h.rb.down hb⟩
theorem VB.set {w W : World} {s s' : St} {e : Ev} {u0 u1 u0' u1' u : Value} {i : Nat} (h : VB w W s e u0 u1) (hm : SM (W.setCell ⟨w.heap.size, i, none⟩ u) w.heap.size w.heap.size u0' u1' s') : VB w (W.setCell ⟨w.heap.size, i, none⟩ u) s' e u0' u1' :=
  ⟨h.low.setCell (p := ⟨w.heap.size, i, none⟩) (Nat.le_refl _) u, hm, h.eb.set_other (by omega) _ _, h.rb.set_other (by omega) _ _⟩
theorem VB.set0 {w W : World} {s : St} {e : Ev} {u0 u1 : Value} (h : VB w W s e u0 u1) (x : Int) : VB w (W.setCell ⟨w.heap.size, 0, none⟩ (.int .i64 x)) ⟨x, s.nx, s.ca, s.dn, s.sg, s.tm⟩ e u0 u1 := h.set (h.m.set0 x)
theorem VB.set1 {w W : World} {s : St} {e : Ev} {u0 u1 : Value} (h : VB w W s e u0 u1) (x : Int) : VB w (W.setCell ⟨w.heap.size, 1, none⟩ (.int .i64 x)) ⟨s.st, x, s.ca, s.dn, s.sg, s.tm⟩ e u0 u1 := h.set (h.m.set1 x)
theorem VB.set2 {w W : World} {s : St} {e : Ev} {u0 u1 : Value} (h : VB w W s e u0 u1) (x : Bool) : VB w (W.setCell ⟨w.heap.size, 2, none⟩ (.bool x)) ⟨s.st, s.nx, x, s.dn, s.sg, s.tm⟩ e u0 u1 := h.set (h.m.set2 x)
theorem VB.set3 {w W : World} {s : St} {e : Ev} {u0 u1 : Value} (h : VB w W s e u0 u1) (x : Int) : VB w (W.setCell ⟨w.heap.size, 3, none⟩ (.int .i64 x)) ⟨s.st, s.nx, s.ca, x, s.sg, s.tm⟩ e u0 u1 := h.set (h.m.set3 x)
theorem VB.nil5 {w W : World} {s : St} {e : Ev} {u0 u1 : Value} (h : VB w W s e u0 u1) : VB w (W.setCell ⟨w.heap.size, 5, none⟩ (.slice none 0 0)) ⟨s.st, s.nx, s.ca, s.dn, s.sg, []⟩ e u0 (.slice none 0 0) := h.set h.m.nil5
theorem VB.new5 {w W W' : World} {s : St} {e : Ev} {u0 u1 u : Value} {l : Txs} (h : VB w W s e u0 u1) (hb : Below W.heap.size W W') (hu : OwnT W' W.heap.size u l) : VB w (W'.setCell ⟨w.heap.size, 5, none⟩ u) ⟨s.st, s.nx, s.ca, s.dn, s.sg, l⟩ e u0 u := (h.down hb).set (h.m.new5 hb hu h.low.size)
theorem VB.put4 {w W W' : World} {s : St} {e : Ev} {u0 u1 u : Value} {l : Txs} (h : VB w W s e u0 u1) (hg : W.grownBy W' u0.ownBlock) (hu : OwnT W' w.heap.size u l) (hb : u.ownBlock = u0.ownBlock ∨ u.ownBlock = some W.heap.size) : VB w (W'.setCell ⟨w.heap.size, 4, none⟩ u) ⟨s.st, s.nx, s.ca, s.dn, l, s.tm⟩ e u u1 :=
  ⟨(h.low.grown hg h.low.size (fun k hk => (h.m.o0.lt hk).1)).setCell (p := ⟨w.heap.size, 4, none⟩) (Nat.le_refl _) u, h.m.put4 hg hu (by
    rcases hb with hb | hb
    · exact .inl hb
    · exact .inr ⟨_, hb, Nat.le_refl _⟩), (h.eb.grown h.m.o0 (by decide) hg).set_other (by omega) _ _, (h.rb.grown h.m.o0 (by decide) hg).set_other (by omega) _ _⟩
theorem VB.boxes {w W W' : World} {s : St} {e : Ev} {u0 u1 : Value} (h : VB w W s e u0 u1) (hg : W.grownBy W' u0.ownBlock) : Blk W' w.heap.size 6 (sq u0 u1 s) 60 := h.m.box.gb hg (fun e => h.m.ne0 e.symm)
/-- The copy is stored into the state's own box. -/
theorem VB.copy {w W : World} {s : St} {e : Ev} {v0 v1 u0 u1 : Value} {B : Nat} (h : AB w W s e v0 v1) (ha : AnsL W B W.heap.size u0 u1 s.sg s.tm) (hB : w.heap.size + 3 ≤ B) :
    ∀ WZ, (((((W.setCell ⟨w.heap.size, 0, none⟩ (.int .i64 s.st)).setCell ⟨w.heap.size, 1, none⟩ (.int .i64 s.nx)).setCell ⟨w.heap.size, 2, none⟩ (.bool s.ca)).setCell ⟨w.heap.size, 3, none⟩ (.int .i64 s.dn)).setCell ⟨w.heap.size, 4, none⟩ u0).setCell ⟨w.heap.size, 5, none⟩ u1 = WZ → VB w WZ s e u0 u1 := by
  intro WZ hWZ
  obtain ⟨k1, k2, k3⟩ := put6 h.sb h.low (Nat.le_refl _) _ _ _ _ _ _ WZ hWZ
  refine ⟨k2, ⟨k1, (ha.o0.other k3 (fun g hg e => ?_)).mono (by omega), (ha.o1.other k3 (fun g hg e => ?_)).mono (by omega), ha.ap, Nat.le_refl _⟩, h.eb.gb k3 (fun e => by simp only [Option.some.injEq] at e; omega), h.rb.gb k3 (fun e => by simp only [Option.some.injEq] at e; omega)⟩
  · have := (ha.o0.lt hg).1
    simp only [Option.some.injEq] at e; omega
  · have := (ha.o1.lt hg).1
    simp only [Option.some.injEq] at e; omega
/-- The end: the box's state is stored into that of the answer. -/
theorem VB.fin {w W : World} {s s0 r : St} {e : Ev} {u0 u1 : Value} {b : Bool} (h : VB w W s e u0 u1) (hc : (b = true → s = r) ∧ (b = false → s = s0 ∨ (s = r ∧ ¬ GoodSt r))) :
    ∀ WZ, (((((W.setCell ⟨w.heap.size + 1 + 1, 0, none⟩ (.int .i64 s.st)).setCell ⟨w.heap.size + 1 + 1, 1, none⟩ (.int .i64 s.nx)).setCell ⟨w.heap.size + 1 + 1, 2, none⟩ (.bool s.ca)).setCell ⟨w.heap.size + 1 + 1, 3, none⟩ (.int .i64 s.dn)).setCell ⟨w.heap.size + 1 + 1, 4, none⟩ u0).setCell ⟨w.heap.size + 1 + 1, 5, none⟩ u1 = WZ →
    Blk WZ (w.heap.size + 1 + 1) 6 (sq u0 u1 s) 60 ∧ L12 w WZ (.returned (.tuple #[stv u0 u1 s, .bool b])) s0 r b ∧ Below w.heap.size w WZ := by
  intro WZ hWZ
  obtain ⟨k1, k2, k3⟩ := put6 h.rb h.low (by omega) _ _ _ _ _ _ WZ hWZ
  have n0 : u0.ownBlock ≠ some (w.heap.size + 1 + 1) := h.m.o0.ne_blk h.rb (by decide)
  have n1 : u1.ownBlock ≠ some (w.heap.size + 1 + 1) := h.m.o1.ne_blk h.rb (by decide)
  have a0 := h.m.o0.other k3 (fun g hg e => n0 (by rw [hg, e]))
  have a1 := h.m.o1.other k3 (fun g hg e => n1 (by rw [hg, e]))
  have hA := AnsL.of a0 a1 h.m.ap
  exact ⟨k1, ⟨u0, u1, s, rfl, ⟨a0.c, a1.c⟩, fun hb => ⟨hc.1 hb, hA⟩, hc.2⟩, k2⟩
end M
namespace M
/-- Where nothing has been copied yet: the state itself goes into the answer's box. -/
theorem AB.fin {w W : World} {s r : St} {e : Ev} {v0 v1 : Value} (h : AB w W s e v0 v1) (hv : StC w v0 v1 s) :
    ∀ WZ, (((((W.setCell ⟨w.heap.size + 1 + 1, 0, none⟩ (.int .i64 s.st)).setCell ⟨w.heap.size + 1 + 1, 1, none⟩ (.int .i64 s.nx)).setCell ⟨w.heap.size + 1 + 1, 2, none⟩ (.bool s.ca)).setCell ⟨w.heap.size + 1 + 1, 3, none⟩ (.int .i64 s.dn)).setCell ⟨w.heap.size + 1 + 1, 4, none⟩ v0).setCell ⟨w.heap.size + 1 + 1, 5, none⟩ v1 = WZ →
    Blk WZ (w.heap.size + 1 + 1) 6 (sq v0 v1 s) 60 ∧ L12 w WZ (.returned (.tuple #[stv v0 v1 s, .bool false])) s r false ∧ Below w.heap.size w WZ := by
  intro WZ hWZ
  obtain ⟨k1, k2, k3⟩ := put6 h.rb h.low (by omega) _ _ _ _ _ _ WZ hWZ
  exact ⟨k1, ⟨v0, v1, s, rfl, hv.below k2, fun hb => (by cases hb), fun _ => .inl rfl⟩, k2⟩
end M
set_option maxRecDepth 20000 in
set_option maxHeartbeats 8000000 in
theorem l12_no (v0 v1 : Value) (s r : St) (e : Ev) (w : World) (hv : StC w v0 v1 s) (hg : GoodSt s) (hen : e.name.size ≤ maxLen) (hno : ¬ (e.gd = true ∧ e.id = s.nx ∧ s.st = (if e.kind = 1 then 0 else 1))) :
    Calls Tryz.prog 101 #[stv v0 v1 s, ev e.id e.ver e.kind e.name] w fun e' w' => L12 w w' e' s r false ∧ Below w.heap.size w w' := by
  obtain ⟨a0, c0, rfl⟩ := hv.1.1.form
  obtain ⟨a1, c1, rfl⟩ := hv.2.1.form
  have HV := hide hv
  have HE := hide hen
  have HNO := hide hno
  have hst3 : s.st = 0 ∨ s.st = 1 ∨ s.st = 2 := by rcases hg.2.2.2.2 with h | h <;> omega
  clear hv hg hen hno
  obtain ⟨W, hW⟩ : ∃ W, ((w.alloc (.cells (sarr (.slice a0 s.sg.length c0) (.slice a1 s.tm.length c1) s) 60)).alloc (.cells (evarr e) 74)).alloc (.cells zarr 60) = W := ⟨_, rfl⟩
  have HA0 := hide (show AB w W s e (.slice a0 s.sg.length c0) (.slice a1 s.tm.length c1) from hW ▸ AB.new w s e _ _)
  have HWW := hide hW
  clear hW
  go_enter Tryz.func101, Tryz.ntmps101
  go_wp2_with fail
  rw [HWW.out]
  clear HWW
  refine (spec_good _ _ _ _ _ HE.out).mono ?_
  rintro e' w1 ⟨rfl, hb⟩
  have HA1 := hide (HA0.out.down hb)
  clear hb HA0
  obtain ⟨e0, e1, e2, e3⟩ := HA1.out.eb.ev
  obtain ⟨⟨d0, d1, d2, d3, d4, d5⟩, -⟩ := HA1.out.sb.hex
  obtain ⟨⟨r0, r1, r2, r3, r4, r5⟩, t0, t1, t2, t3, t4, t5⟩ := HA1.out.rb.hex
  obtain ⟨WZ, hWZ⟩ : ∃ WZ, (((((w1.setCell ⟨w.heap.size + 1 + 1, 0, none⟩ (.int .i64 s.st)).setCell ⟨w.heap.size + 1 + 1, 1, none⟩ (.int .i64 s.nx)).setCell ⟨w.heap.size + 1 + 1, 2, none⟩ (.bool s.ca)).setCell ⟨w.heap.size + 1 + 1, 3, none⟩ (.int .i64 s.dn)).setCell ⟨w.heap.size + 1 + 1, 4, none⟩ (.slice a0 s.sg.length c0)).setCell ⟨w.heap.size + 1 + 1, 5, none⟩ (.slice a1 s.tm.length c1) = WZ := ⟨_, rfl⟩
  have HZZ := hide (HA1.out.fin (r := r) HV.out WZ hWZ)
  have HWZ := hide hWZ
  clear hWZ HA1
  cases hg : goodB e.id e.ver e.kind e.name
  · clear HNO hst3
    go_wp2
    rw [HWZ.out]
    clear r0 r1 r2 r3 r4 r5 t0 t1 t2 t3 t4 t5
    obtain ⟨⟨r0, r1, r2, r3, r4, r5⟩, -⟩ := HZZ.out.1.hex
    exact bodyPost_ret (v := .tuple #[stv (.slice a0 s.sg.length c0) (.slice a1 s.tm.length c1) s, .bool false]) (by simp [results, Tryz.results101, go_sem, r0, r1, r2, r3, r4, r5]) rfl HZZ.out.2
  by_cases hid : e.id = s.nx
  case neg =>
    have hid2 : (e.id != s.nx) = true := by simp [hid]
    clear HNO hst3 hid
    go_wp2
    rw [HWZ.out]
    clear r0 r1 r2 r3 r4 r5 t0 t1 t2 t3 t4 t5
    obtain ⟨⟨r0, r1, r2, r3, r4, r5⟩, -⟩ := HZZ.out.1.hex
    exact bodyPost_ret (v := .tuple #[stv (.slice a0 s.sg.length c0) (.slice a1 s.tm.length c1) s, .bool false]) (by simp [results, Tryz.results101, go_sem, r0, r1, r2, r3, r4, r5]) rfl HZZ.out.2
  have hid2 : (e.id != s.nx) = false := by simp [hid]
  have HS := hide (show ¬ s.st = (if e.kind = 1 then 0 else 1) from fun h => HNO.out ⟨hg, hid, h⟩)
  clear hid HNO
  by_cases hk : e.kind = 1
  · have hk2 : (e.kind == 1) = true := by simp [hk]
    have hs0 : (s.st == 0) = false := by
      have := HS.out
      rw [if_pos hk] at this
      simpa using this
    clear hk hst3 HS
    go_wp2
    rw [HWZ.out]
    clear r0 r1 r2 r3 r4 r5 t0 t1 t2 t3 t4 t5
    obtain ⟨⟨r0, r1, r2, r3, r4, r5⟩, -⟩ := HZZ.out.1.hex
    exact bodyPost_ret (v := .tuple #[stv (.slice a0 s.sg.length c0) (.slice a1 s.tm.length c1) s, .bool false]) (by simp [results, Tryz.results101, go_sem, r0, r1, r2, r3, r4, r5]) rfl HZZ.out.2
  · have hk2 : (e.kind == 1) = false := by simp [hk]
    have hs1 : ¬ s.st = 1 := by
      have := HS.out
      rwa [if_neg hk] at this
    clear hk HS
    by_cases hz : s.st = 0
    · have hs0 : (s.st == 0) = true := by simp [hz]
      clear hz hst3 hs1
      go_wp2
      rw [HWZ.out]
      clear r0 r1 r2 r3 r4 r5 t0 t1 t2 t3 t4 t5
      obtain ⟨⟨r0, r1, r2, r3, r4, r5⟩, -⟩ := HZZ.out.1.hex
      exact bodyPost_ret (v := .tuple #[stv (.slice a0 s.sg.length c0) (.slice a1 s.tm.length c1) s, .bool false]) (by simp [results, Tryz.results101, go_sem, r0, r1, r2, r3, r4, r5]) rfl HZZ.out.2
    · have hs0 : (s.st == 0) = false := by simp [hz]
      have hs2 : (s.st == 2) = true := by simp; omega
      clear hz hst3 hs1
      go_wp2
      rw [HWZ.out]
      clear r0 r1 r2 r3 r4 r5 t0 t1 t2 t3 t4 t5
      obtain ⟨⟨r0, r1, r2, r3, r4, r5⟩, -⟩ := HZZ.out.1.hex
      exact bodyPost_ret (v := .tuple #[stv (.slice a0 s.sg.length c0) (.slice a1 s.tm.length c1) s, .bool false]) (by simp [results, Tryz.results101, go_sem, r0, r1, r2, r3, r4, r5]) rfl HZZ.out.2
end Go.Proofs.YtfkeokglifpkoaaGreatDoor

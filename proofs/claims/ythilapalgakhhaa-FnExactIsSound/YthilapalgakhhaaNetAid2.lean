/-
  The law's helpers on nets, second half: a copy in new memory, two that are told alike, marks.
-/
import Derived.Test.YthilapalgakhhaaNetAid
namespace Go.Proofs.Ythilapalgakhhaa
open Go.RowKit M
open Clk (upd upd_same upd_other)
open Go.Sort (grow)
theorem info_step : (Try.prog.info? 60).map (fun i => (i.zero, i.size, i.bytes)) = some (some (.agg #[.slice none 0 0, .slice none 0 0]), 2, 48) := by kernel_rfl
theorem make_steps (n : Nat) (h : n ≤ 1048576) (w : World) : (Instr.makeSlice 27 (.int .i64 (n : Int)) (.int .i64 (n : Int))).run Try.prog w = .ok (.slice (some ⟨w.heap.size, 0, none⟩) n n) (w.alloc (.cells (cf (n * 2) (fun _ => .slice none 0 0)) 60)) := by
  obtain ⟨i, hi, hz0, hz1, hz2⟩ := info_parts info_step
  have hr := run_make (P := Try.prog) w 27 60 i _ Try.underlying27 hi hz0 .i64 .i64 (n : Int) (n : Int) (by omega) (Int.le_refl _) (by rw [hz2]; omega) (by omega)
  rw [hr, hz1]
  simp only [Int.toNat_natCast]
  rw [← made2]
  rfl
set_option maxHeartbeats 2000000 in
theorem to_step (x y : Value) (s : Sp) (w : World) (hx : IntsOf w x s.ni s.fi) (hy : IntsOf w y s.no s.fo) (h1 : s.ni ≤ 1048576) (h2 : s.no ≤ 1048576) :
    Calls Try.prog 76 #[.agg #[x, y]] w fun e w' => (∃ b1 b2, e = .returned (.agg #[sl b1 s.ni, sl b2 s.no]) ∧ w.heap.size ≤ b1 ∧ w.heap.size ≤ b2 ∧ Blk w' b1 s.ni (iv s.fi) 3 ∧ Blk w' b2 s.no (iv s.fo) 3) ∧ Below w.heap.size w w' := by
  have HX := hide hx
  have HY := hide hy
  obtain ⟨a1, c1, rfl⟩ := hx.form
  obtain ⟨a2, c2, rfl⟩ := hy.form
  clear hx hy
  go_enter Try.func76, Try.ntmps76
  go_wp2_with fail
  have hb0 := (((Below.refl w.heap.size w).alloc (Nat.le_refl _) (.cells #[.slice a1 s.ni c1, .slice a2 s.no c2] 98)).alloc (by simp) (.cells #[.slice none 0 0, .slice none 0 0] 60)).alloc (by simp; omega) (.cells #[.slice none 0 0, .slice none 0 0] 60)
  refine (to_ints _ s.ni s.fi _ (HX.out.below hb0) h1).mono ?_
  rintro e w1 ⟨⟨rfl, hB1⟩, hb1⟩
  rw [World.size_alloc, World.size_alloc, World.size_alloc] at hB1
  have hbw1 := hb0.trans (hb1.mono hb0.size)
  have hs1 : w.heap.size + 3 < w1.heap.size := by have := hB1.lt; omega
  have HB1 := hide hB1
  have HZ := hide (show ∀ i v, i = w.heap.size ∨ i = w.heap.size + 1 ∨ i = w.heap.size + 2 → (((w.alloc (.cells #[.slice a1 s.ni c1, .slice a2 s.no c2] 98)).alloc (.cells #[.slice none 0 0, .slice none 0 0] 60)).alloc (.cells #[.slice none 0 0, .slice none 0 0] 60)).heap[i]? = v → w1.heap[i]? = v from fun i v hi hv => by
    rw [hb1.block i (by simp; omega)]; exact hv)
  have k0 : w1.heap[w.heap.size]? = some (.cells #[.slice a1 s.ni c1, .slice a2 s.no c2] 98 (0, 0)) := HZ.out _ _ (.inl rfl) (by rw [Below.heap_alloc _ _ _ (by simp; omega), Below.heap_alloc _ _ _ (by simp)]; exact heap_alloc_new w _)
  have k1 : w1.heap[w.heap.size + 1]? = some (.cells #[.slice none 0 0, .slice none 0 0] 60 (0, 0)) := HZ.out _ _ (.inr (.inl rfl)) (by
    rw [Below.heap_alloc _ _ _ (by simp)]
    have := heap_alloc_new (w.alloc (.cells #[.slice a1 s.ni c1, .slice a2 s.no c2] 98)) (.cells #[.slice none 0 0, .slice none 0 0] 60)
    rw [World.size_alloc] at this; exact this)
  have k2 : w1.heap[w.heap.size + 2]? = some (.cells #[.slice none 0 0, .slice none 0 0] 60 (0, 0)) := HZ.out _ _ (.inr (.inr rfl)) (by
    have := heap_alloc_new ((w.alloc (.cells #[.slice a1 s.ni c1, .slice a2 s.no c2] 98)).alloc (.cells #[.slice none 0 0, .slice none 0 0] 60)) (.cells #[.slice none 0 0, .slice none 0 0] 60)
    rw [World.size_alloc, World.size_alloc] at this; exact this)
  have m0 : Blk w1 w.heap.size 2 (fun i => if i = 0 then .slice a1 s.ni c1 else .slice a2 s.no c2) 98 := k0
  have m1 : Blk w1 (w.heap.size + 1) 2 (fun _ => .slice none 0 0) 60 := k1
  have m2 : Blk w1 (w.heap.size + 2) 2 (fun _ => .slice none 0 0) 60 := k2
  clear HZ k0 k1 k2
  have d0 : w1.cell? ⟨w.heap.size, 0, none⟩ = some (.slice a1 s.ni c1) := m0.cell (by omega)
  have d1 : w1.cell? ⟨w.heap.size, 1, none⟩ = some (.slice a2 s.no c2) := m0.cell (by omega)
  have e0 : w1.cell? ⟨w.heap.size + 2, 0, none⟩ = some (.slice none 0 0) := m2.cell (by omega)
  have e1 : w1.cell? ⟨w.heap.size + 2, 1, none⟩ = some (.slice none 0 0) := m2.cell (by omega)
  have t0 := m2.thaw 0
  have t1 := m2.thaw 1
  clear hB1 hb1
  go_wp2_with fail
  generalize hW : w1.setCell _ _ = w2
  have hb2 : Below w.heap.size w w2 := by rw [← hW]; exact hbw1.setCell (by simp; omega) _
  have hs2 : w2.heap.size = w1.heap.size := by rw [← hW]; simp
  have n0 : Blk w2 w.heap.size 2 (fun i => if i = 0 then .slice a1 s.ni c1 else .slice a2 s.no c2) 98 := by rw [← hW]; exact m0.set_other (by omega) _ _
  have n1 : Blk w2 (w.heap.size + 1) 2 (fun _ => .slice none 0 0) 60 := by rw [← hW]; exact m1.set_other (by omega) _ _
  have n2 : Blk w2 (w.heap.size + 2) 2 (upd (fun _ => .slice none 0 0) 0 (sl (w.heap.size + 3) s.ni)) 60 := by rw [← hW]; exact m2.set 0 _
  have n3 : Blk w2 (w.heap.size + 3) s.ni (iv s.fi) 3 := by rw [← hW]; exact Blk.set_other HB1.out (by omega) _ _
  clear hW m0 m1 m2 d0 d1 e0 e1 t0 t1 HB1 hb0
  refine (to_ints _ s.no s.fo _ (HY.out.below hb2) h2).mono ?_
  rintro e w3 ⟨⟨rfl, hB3⟩, hb3⟩
  have hbw3 := hb2.trans (hb3.mono hb2.size)
  have o0 := n0.down hb3
  have o1 := n1.down hb3
  have o2 := n2.down hb3
  have O3 := hide (n3.down hb3)
  have OB := hide hB3
  have hs3 := hB3.lt
  have e0 : w3.cell? ⟨w.heap.size + 2, 0, none⟩ = some (sl (w.heap.size + 3) s.ni) := o2.cell (by omega)
  have e1 : w3.cell? ⟨w.heap.size + 2, 1, none⟩ = some (.slice none 0 0) := o2.cell (by omega)
  have d0 : w3.cell? ⟨w.heap.size + 1, 0, none⟩ = some (.slice none 0 0) := o1.cell (by omega)
  have d1 : w3.cell? ⟨w.heap.size + 1, 1, none⟩ = some (.slice none 0 0) := o1.cell (by omega)
  have t0 := o2.thaw 0
  have t1 := o2.thaw 1
  have r0 := o1.thaw 0
  have r1 := o1.thaw 1
  have HS2 := hide hs2
  clear n0 n1 n2 n3 o0 o1 o2 hB3 hb3 hs2 HX HY hb2 hbw1
  go_wp2
  refine bodyPost_ret (v := .agg #[sl (w.heap.size + 3) s.ni, sl w2.heap.size s.no]) (by simp [results, Try.results76, go_sem, d0, d1]) rfl ⟨⟨w.heap.size + 3, w2.heap.size, rfl, by omega, by have := HS2.out; omega, ?_, ?_⟩, ?_⟩
  · exact ((Blk.set_other O3.out (by omega) _ _).set_other (by omega) _ _).set_other (by omega) _ _
  · have := HS2.out
    exact ((Blk.set_other OB.out (by omega) _ _).set_other (by omega) _ _).set_other (by omega) _ _
  · exact ((hbw3.setCell (by simp; omega) _).setCell (by simp) _).setCell (by simp) _
namespace M
def p2 (x y : Value) : Nat → Value := fun i => if i = 0 then x else y
theorem p2_cf (x y : Value) : #[x, y] = cf 2 (p2 x y) := rfl
theorem three (w : World) (x1 y1 x2 y2 x3 y3 : Value) (t1 t2 t3 : TypeId) : ∀ W, W = ((w.alloc (.cells #[x1, y1] t1)).alloc (.cells #[x2, y2] t2)).alloc (.cells #[x3, y3] t3) →
    Blk W w.heap.size 2 (p2 x1 y1) t1 ∧ Blk W (w.heap.size + 1) 2 (p2 x2 y2) t2 ∧ Blk W (w.heap.size + 2) 2 (p2 x3 y3) t3 ∧ Below w.heap.size w W ∧ W.heap.size = w.heap.size + 3 := by
  rintro W rfl
  refine ⟨((Blk.fresh w _ 2 (p2 x1 y1) t1 rfl).alloc _).alloc _, ?_, ?_, (((Below.refl _ _).alloc (Nat.le_refl _) _).alloc (by simp) _).alloc (by simp; omega) _, by simp⟩
  · have := (Blk.fresh (w.alloc (.cells #[x1, y1] t1)) #[x2, y2] 2 (p2 x2 y2) t2 rfl).alloc (.cells #[x3, y3] t3)
    rw [World.size_alloc] at this; exact this
  · have := Blk.fresh ((w.alloc (.cells #[x1, y1] t1)).alloc (.cells #[x2, y2] t2)) #[x3, y3] 2 (p2 x3 y3) t3 rfl
    rw [World.size_alloc, World.size_alloc] at this; exact this
theorem two (w : World) (x1 y1 x2 y2 : Value) (t1 t2 : TypeId) : ∀ W, W = (w.alloc (.cells #[x1, y1] t1)).alloc (.cells #[x2, y2] t2) →
    Blk W w.heap.size 2 (p2 x1 y1) t1 ∧ Blk W (w.heap.size + 1) 2 (p2 x2 y2) t2 ∧ Below w.heap.size w W ∧ W.heap.size = w.heap.size + 2 := by
  rintro W rfl
  refine ⟨(Blk.fresh w _ 2 (p2 x1 y1) t1 rfl).alloc _, ?_, ((Below.refl _ _).alloc (Nat.le_refl _) _).alloc (by simp) _, by simp⟩
  have := Blk.fresh (w.alloc (.cells #[x1, y1] t1)) #[x2, y2] 2 (p2 x2 y2) t2 rfl
  rw [World.size_alloc] at this; exact this
theorem Blk.pair {w : World} {g : Nat} {x y : Value} {t : TypeId} (h : Blk w g 2 (p2 x y) t) : w.cell? ⟨g, 0, none⟩ = some x ∧ w.cell? ⟨g, 1, none⟩ = some y ∧ w.frozen? ⟨g, 0, none⟩ = false ∧ w.frozen? ⟨g, 1, none⟩ = false :=
  ⟨h.cell (show 0 < 2 by omega), h.cell (show 1 < 2 by omega), h.thaw 0, h.thaw 1⟩
theorem Blk.set0 {w : World} {g : Nat} {x y : Value} {t : TypeId} (h : Blk w g 2 (p2 x y) t) (z : Value) : Blk (w.setCell ⟨g, 0, none⟩ z) g 2 (p2 z y) t :=
  (h.set 0 z).ext fun i hi => by match i, hi with
                                | 0, _ => rfl
                                | 1, _ => rfl
theorem Blk.set1 {w : World} {g : Nat} {x y : Value} {t : TypeId} (h : Blk w g 2 (p2 x y) t) (z : Value) : Blk (w.setCell ⟨g, 1, none⟩ z) g 2 (p2 x z) t :=
  (h.set 1 z).ext fun i hi => by match i, hi with
                                | 0, _ => rfl
                                | 1, _ => rfl
theorem SB.set_low {w : World} {g k j lo g' : Nat} {st : Nat → Sp} {X : Nat → Value} (h : SB w g k j lo st X) (h1 : g' < g) (h2 : g < lo) (o : Nat) (v : Value) : SB (w.setCell ⟨g', o, none⟩ v) g k j lo st X := by
  refine ⟨h.1.set_other (by omega) _ _, fun i hi => ?_⟩
  obtain ⟨c1, c2, q1, q2, q3, q4, q5, q6⟩ := h.2 i hi
  exact ⟨c1, c2, q1, q2, q3, q4, q5.set_other (by omega) _ _, q6.set_other (by omega) _ _⟩
theorem SB.grow {w : World} {g k j lo : Nat} {st : Nat → Sp} {X : Nat → Value} (h : SB w g k j lo st X) (hg : g < lo) {b1 b2 : Nat} (h1 : lo ≤ b1) (h2 : lo ≤ b2) (hj : j < k) (e1 : Blk w b1 (st j).ni (iv (st j).fi) 3) (e2 : Blk w b2 (st j).no (iv (st j).fo) 3) :
    SB ((w.setCell ⟨g, j * 2, none⟩ (sl b1 (st j).ni)).setCell ⟨g, j * 2 + 1, none⟩ (sl b2 (st j).no)) g k (j + 1) lo st (upd (upd X (j * 2) (sl b1 (st j).ni)) (j * 2 + 1) (sl b2 (st j).no)) := by
  refine ⟨(h.1.set _ _).set _ _, fun i hi => ?_⟩
  rcases (show i < j ∨ i = j by omega) with hij | hij
  · obtain ⟨c1, c2, q1, q2, q3, q4, q5, q6⟩ := h.2 i hij
    refine ⟨c1, c2, ?_, ?_, q3, q4, (q5.set_other (by omega) _ _).set_other (by omega) _ _, (q6.set_other (by omega) _ _).set_other (by omega) _ _⟩
    · rw [upd_other _ _ _ _ (by omega), upd_other _ _ _ _ (by omega)]; exact q1
    · rw [upd_other _ _ _ _ (by omega), upd_other _ _ _ _ (by omega)]; exact q2
  · subst hij
    refine ⟨b1, b2, ?_, ?_, h1, h2, (e1.set_other (by omega) _ _).set_other (by omega) _ _, (e2.set_other (by omega) _ _).set_other (by omega) _ _⟩
    · rw [upd_other _ _ _ _ (by omega), upd_same]
    · rw [upd_same]
end M
set_option maxHeartbeats 2000000 in
theorem to_steps (v : Value) (k : Nat) (st : Nat → Sp) (w : World) (hv : StepsOf w v k st) (hs : Short k st) :
    Calls Try.prog 47 #[v] w fun e w' => (e = .returned (sl w.heap.size k) ∧ ∃ X, SB w' w.heap.size k k (w.heap.size + 1) st X) ∧ Below w.heap.size w w' := by
  obtain ⟨a, cap, rfl, hr⟩ := hv
  have HR := hide hr
  have HS := hide hs.2
  have hk := hs.1
  clear hr hs
  have hmk := make_steps k hk
  go_enter Try.func47, Try.ntmps47
  go_wp2
  go_loopw [4] (fun i wr => ∃ (j : Nat) (X : Nat → Value), j ≤ k ∧ i = .int .i64 j ∧ Hid (SB wr w.heap.size k j (w.heap.size + 1) st X) ∧ Below w.heap.size w wr) (fun i _ => k - (intOf i).toNat)
  case atStart => exact ⟨0, _, Nat.zero_le _, rfl, hide ⟨Blk.new w (k * 2) _ _, fun i h => absurd h (by omega)⟩, (Below.refl _ _).alloc (Nat.le_refl _) _⟩
  case round =>
    obtain ⟨j, X, hj, rfl, HA, hbw⟩ := hrel
    by_cases hlt : j < k
    · obtain ⟨b, off, rfl, hb, hrow⟩ := HR.out (by omega)
      obtain ⟨x, y, q1, q2, i1, i2⟩ := hrow j hlt
      have c0 := (hbw.cell (p := ⟨b, off + j * 2, none⟩) hb).trans q1
      have c1 := (hbw.cell (p := ⟨b, off + j * 2 + 1, none⟩) hb).trans q2
      have I1 := hide (i1.below hbw)
      have I2 := hide (i2.below hbw)
      have HSj := hide (HS.out j hlt)
      clear hrow HR q1 q2 i1 i2
      have hA0 := HA.out.1.lt
      go_wp2_with fail
      refine (to_step _ _ (st j) _ I1.out I2.out HSj.out.1 HSj.out.2).mono ?_
      rintro e w1 ⟨⟨b1, b2, rfl, h1, h2, hB1, hB2⟩, hb1⟩
      have hbw1 := hbw.trans (hb1.mono hbw.size)
      have hA1 := HA.out.below hb1
      have d0 := hA1.1.cell (show j * 2 < k * 2 by omega)
      have d1 := hA1.1.cell (show j * 2 + 1 < k * 2 by omega)
      have f0 := hA1.1.thaw (j * 2)
      have f1 := hA1.1.thaw (j * 2 + 1)
      have HA2 := hide (hA1.grow (by omega) (b1 := b1) (b2 := b2) (by omega) (by omega) hlt hB1 hB2)
      have hbw2 := (hbw1.setCell (p := ⟨w.heap.size, j * 2, none⟩) (Nat.le_refl _) (sl b1 (st j).ni)).setCell (p := ⟨w.heap.size, j * 2 + 1, none⟩) (Nat.le_refl _) (sl b2 (st j).no)
      clear HA hA1 hb1 c0 c1 I1 I2 hB1 hB2 HSj
      go_wp2
      exact ⟨⟨j + 1, _, by omega, by go_num, HA2, hbw2⟩, by simp [intOf]; omega⟩
    · obtain rfl : j = k := by omega
      clear HR HS
      go_wp2
      go_ret
      exact ⟨⟨rfl, X, HA.out⟩, hbw⟩
set_option maxHeartbeats 2000000 in
theorem to_net (p : Int) (v : Value) (k : Nat) (st : Nat → Sp) (w : World) (hv : StepsOf w v k st) (hs : Short k st) :
    Calls Try.prog 15 #[netV p v] w fun e w' => (∃ g X, e = .returned (netV p (sl g k)) ∧ w.heap.size ≤ g ∧ SB w' g k k (g + 1) st X) ∧ Below w.heap.size w w' := by
  have HV := hide hv
  obtain ⟨a, cap, rfl⟩ := hv.form
  clear hv
  go_enter Try.func15, Try.ntmps15
  go_wp2_with fail
  generalize hW : ((w.alloc _).alloc _).alloc _ = W
  obtain ⟨m0, m1, m2, hbW, hsW⟩ := three w _ _ _ _ _ _ _ _ _ W hW.symm
  clear hW
  refine (to_steps _ k st _ (HV.out.below hbW) hs).mono ?_
  rintro e w1 ⟨⟨rfl, X, hX⟩, hb1⟩
  have hbw1 := hbW.trans (hb1.mono (by omega))
  have n0 := m0.down hb1
  have n1 := m1.down hb1
  have n2 := m2.down hb1
  rw [hsW] at hX
  have HX := hide hX
  obtain ⟨d0, d1, -, -⟩ := n0.pair
  obtain ⟨e0, e1, e2, e3⟩ := n1.pair
  obtain ⟨r0, r1, r2, r3⟩ := n2.pair
  have HW := hide hsW
  clear hb1 m0 m1 m2 n0 n1 n2 hX HV hbW hsW
  go_wp2
  refine bodyPost_ret (v := netV p (sl W.heap.size k)) (by simp [results, Try.results15, go_sem, e0, e1]) rfl ⟨⟨W.heap.size, X, rfl, by have := HW.out; omega, ?_⟩, ?_⟩
  · rw [HW.out]; exact ((HX.out.set_low (by omega) (by omega) _ _).set_low (by omega) (by omega) _ _).set_low (by omega) (by omega) _ _
  · exact ((hbw1.setCell (by simp; omega) _).setCell (by simp) _).setCell (by simp) _
end Go.Proofs.Ythilapalgakhhaa

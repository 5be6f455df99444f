/-
  A list taken as a marking of a net, and a marking told as a list.
-/
import Derived.Test.YthilapalgakhhaaNetFire
namespace Go.Proofs.Ythilapalgakhhaa
open Go.RowKit M
open Clk (upd upd_same upd_other)
namespace M
/-- A good net, and a marking of it. -/
def NOk (p : Int) (k : Nat) (st : Nat → Sp) (n : Nat) (f : Nat → Int) : Prop := GoodN p k st ∧ MOk n f p
theorem NOk.mk {p : Int} {k : Nat} {st : Nat → Sp} {n : Nat} {f : Nat → Int} (h : NOk p k st n f) : Mk n (pad n f) := pad_mk h.2.1
theorem pad_at {n : Nat} {f : Nat → Int} {i : Nat} (h : i < n) : pad n f i = f i := by unfold pad; rw [if_pos h]
end M
set_option maxHeartbeats 1000000 in
theorem marking_in (p : Int) (v : Value) (k : Nat) (st : Nat → Sp) (u : Value) (n : Nat) (f : Nat → Int) (w : World) (hv : StepsOf w v k st) (hu : IntsOf w u n f) (hs : Short k st) (h : NOk p k st n f) :
    Calls Try.prog 53 #[netV p v, u] w fun e w' => e = .returned (.tuple #[mkV (pad n f), .bool true]) ∧ Below w.heap.size w w' := by
  obtain ⟨hgood, hf, hmp⟩ := h
  have HGood := hide (show decide (GoodN p k st) = true by rw [decide_eq_true_eq]; exact hgood)
  have HW := hide (show decide (All n f 0 9) = true by rw [decide_eq_true_eq]; exact hf)
  have hn : n ≤ 8 := by have := hgood.1.2; omega
  have HV := hide hv
  have HU := hide hu
  obtain ⟨a, cap, rfl⟩ := hv.form
  obtain ⟨a2, cap2, rfl, hr⟩ := hu
  have HR := hide hr
  have hne : ((n : Int) != p) = false := by simp [hmp]
  have HSp := hide (splice8 n f hn)
  have hcs : (((List.range n).map (iv f)).length) = n := by simp
  clear hr hgood hf hmp hv
  go_enter Try.func53, Try.ntmps53
  go_wp2_with fail
  generalize hW : (w.alloc _).alloc _ = W
  have hN : Blk W w.heap.size 2 (p2 (.int .i64 p) (.slice a k cap)) 29 := by rw [← hW]; exact (Blk.fresh w _ 2 (p2 (.int .i64 p) (.slice a k cap)) 29 rfl).alloc _
  have hZ : Blk W (w.heap.size + 1) 8 (iv z8) 68 := by
    rw [← hW]
    have := Blk.fresh (w.alloc (.cells #[.int .i64 p, .slice a k cap] 29)) _ 8 (iv z8) 68 (cf8 z8)
    rw [World.size_alloc] at this; exact this
  have hbW : Below w.heap.size w W := by rw [← hW]; exact ((Below.refl _ _).alloc (Nat.le_refl _) _).alloc (by simp) _
  clear hW
  refine (impl_good p _ k st _ _ (HV.out.below hbW) hs HGood.out).mono ?_
  rintro e w1 ⟨rfl, hb⟩
  have hb1 := hbW.trans (hb.mono hbW.size)
  have hN1 := hN.down hb
  have hZ1 := hZ.down hb
  obtain ⟨d0, d1, -, -⟩ := hN1.pair
  have hs1 := hZ1.lt
  clear hN hZ hb hbW HV HGood
  go_wp2_with fail
  refine (good_tokens _ n f _ _ (HU.out.below hb1) (by omega) HW.out).mono ?_
  rintro e w2 ⟨rfl, rfl⟩
  have HZ1 := hide hZ1
  clear hN1 HW d0 d1 hZ1
  go_wp2_with (refine wpList_copy_splice rfl _ _ 33 33 rfl 3 Try.underlying33 (by kernel_rfl) _ _ _ _ _ _ rfl rfl w2.heap.size 0 [.int .i64 0, .int .i64 0, .int .i64 0, .int .i64 0, .int .i64 0, .int .i64 0, .int .i64 0, .int .i64 0] 68 ?c1 ((List.range n).map (iv f)) ?c2 ?c3 ?c4 ?c5 w2.heap.size w2 ?c6 ?c7 ?_)
  case c1 => exact heap_alloc_new w2 (.cells (cf 8 (iv z8)) 68)
  case c2 => rw [hcs]; exact (Nat.min_eq_left hn).symm
  case c3 =>
    intro h
    obtain ⟨b, off, rfl, hlt, hrow⟩ := HR.out (by omega)
    refine ⟨_, rfl, fun j u hj => ?_⟩
    have hjn : j < n := by have := (List.getElem?_eq_some_iff.1 hj).1; simpa using this
    rw [List.getElem?_range hjn] at hj
    simp only [Option.some.injEq] at hj
    subst hj
    rw [Addr.add_lit]
    have hb := hb1.alloc hb1.size (.cells (cf 8 (iv z8)) 68)
    exact (hb.cell (p := ⟨b, off + j, none⟩) hlt).trans (hrow j hjn)
  case c4 => rw [hcs]; simpa using hn
  case c5 => intro u hu; obtain ⟨j, _, rfl⟩ := List.mem_map.1 hu; rfl
  case c6 => exact (Below.refl _ _).alloc (by simp) _
  case c7 => exact Nat.le_refl _
  intro w3 HG hb3
  have hg := HG.out
  rw [HSp.out] at hg
  have hg' : Blk w3 w2.heap.size 8 (iv (pad n f)) 68 := hg
  obtain ⟨c0, c1, c2, c3, c4, c5, c6, c7⟩ := hg'.eight
  have hz := HZ1.out.down hb3
  obtain ⟨r0, r1, r2, r3, r4, r5, r6, r7⟩ := hz.eight
  obtain ⟨t0, t1, t2, t3, t4, t5, t6, t7⟩ := hz.thaw8
  have hbw := hb1.trans (hb3.mono hb1.size)
  clear HG hg hg' hz HSp HR HZ1 hb3 HU
  go_wp2
  exact bodyPost_ret (v := .tuple #[mkV (pad n f), .bool true]) (by simp [results, Try.results53, go_sem, r0, r1, r2, r3, r4, r5, r6, r7]) rfl ⟨rfl, below_s8 hbw (by omega) (pad n f)⟩
set_option maxHeartbeats 1000000 in
theorem marking_no (p : Int) (v : Value) (k : Nat) (st : Nat → Sp) (u : Value) (n : Nat) (f : Nat → Int) (w : World) (hv : StepsOf w v k st) (hu : IntsOf w u n f) (hs : Short k st) (hn : n ≤ 1048576) (h : ¬ NOk p k st n f) :
    Calls Try.prog 53 #[netV p v, u] w fun e w' => e = .returned (.tuple #[mkV z8, .bool false]) ∧ Below w.heap.size w w' := by
  have HV := hide hv
  have HU := hide hu
  obtain ⟨a, cap, rfl⟩ := hv.form
  obtain ⟨a2, cap2, rfl⟩ := hu.form
  have HG := hide (show ∀ W, W = (w.alloc (.cells #[.int .i64 p, .slice a k cap] 29)).alloc (.cells (cf 8 (iv z8)) 68) → Blk W w.heap.size 2 (p2 (.int .i64 p) (.slice a k cap)) 29 ∧ Blk W (w.heap.size + 1) 8 (iv z8) 68 ∧ Below w.heap.size w W by
    rintro W rfl
    refine ⟨(Blk.fresh w _ 2 (p2 (.int .i64 p) (.slice a k cap)) 29 rfl).alloc _, ?_, ((Below.refl _ _).alloc (Nat.le_refl _) _).alloc (by simp) _⟩
    have := Blk.fresh (w.alloc (.cells #[.int .i64 p, .slice a k cap] 29)) _ 8 (iv z8) 68 (cf8 z8)
    rw [World.size_alloc] at this; exact this)
  clear hv hu
  by_cases hgood : GoodN p k st
  · have HGood := hide (show decide (GoodN p k st) = true by rw [decide_eq_true_eq]; exact hgood)
    by_cases hmp : (n : Int) = p
    · have hne : ((n : Int) != p) = false := by simp [hmp]
      have HW := hide (show decide (All n f 0 9) = false by rw [decide_eq_false_iff_not]; exact fun hg => h ⟨hgood, hg, hmp⟩)
      clear h hgood hmp
      go_enter Try.func53, Try.ntmps53
      go_wp2_with fail
      generalize hW : (w.alloc _).alloc _ = W
      obtain ⟨hN, hZ, hbW⟩ := HG.out W hW.symm
      clear hW HG
      refine (impl_good p _ k st _ _ (HV.out.below hbW) hs HGood.out).mono ?_
      rintro e w1 ⟨rfl, hb⟩
      have hb1 := hbW.trans (hb.mono hbW.size)
      obtain ⟨d0, d1, -, -⟩ := (hN.down hb).pair
      have hZ1 := hZ.down hb
      clear hN hZ hb hbW HV HGood
      go_wp2_with fail
      refine (good_tokens _ n f _ _ (HU.out.below hb1) hn HW.out).mono ?_
      rintro e w2 ⟨rfl, rfl⟩
      obtain ⟨r0, r1, r2, r3, r4, r5, r6, r7⟩ := hZ1.eight
      obtain ⟨t0, t1, t2, t3, t4, t5, t6, t7⟩ := hZ1.thaw8
      clear HU HW hZ1
      go_wp2
      exact bodyPost_ret (v := .tuple #[mkV z8, .bool false]) (by simp [results, Try.results53, go_sem, r0, r1, r2, r3, r4, r5, r6, r7, z8]) rfl ⟨rfl, below_s8 hb1 (by omega) z8⟩
    · have hne : ((n : Int) != p) = true := by simp [hmp]
      clear h hgood hmp
      go_enter Try.func53, Try.ntmps53
      go_wp2_with fail
      generalize hW : (w.alloc _).alloc _ = W
      obtain ⟨hN, hZ, hbW⟩ := HG.out W hW.symm
      clear hW HG
      refine (impl_good p _ k st _ _ (HV.out.below hbW) hs HGood.out).mono ?_
      rintro e w1 ⟨rfl, hb⟩
      have hb1 := hbW.trans (hb.mono hbW.size)
      obtain ⟨d0, d1, -, -⟩ := (hN.down hb).pair
      have hZ1 := hZ.down hb
      obtain ⟨r0, r1, r2, r3, r4, r5, r6, r7⟩ := hZ1.eight
      obtain ⟨t0, t1, t2, t3, t4, t5, t6, t7⟩ := hZ1.thaw8
      clear hN hZ hb hbW HV HGood hZ1 HU
      go_wp2
      exact bodyPost_ret (v := .tuple #[mkV z8, .bool false]) (by simp [results, Try.results53, go_sem, r0, r1, r2, r3, r4, r5, r6, r7, z8]) rfl ⟨rfl, below_s8 hb1 (by omega) z8⟩
  · have HGood := hide (show decide (GoodN p k st) = false by rw [decide_eq_false_iff_not]; exact hgood)
    clear h hgood
    go_enter Try.func53, Try.ntmps53
    go_wp2_with fail
    generalize hW : (w.alloc _).alloc _ = W
    obtain ⟨hN, hZ, hbW⟩ := HG.out W hW.symm
    clear hW HG hN
    refine (impl_good p _ k st _ _ (HV.out.below hbW) hs HGood.out).mono ?_
    rintro e w1 ⟨rfl, hb⟩
    have hb1 := hbW.trans (hb.mono hbW.size)
    have hZ1 := hZ.down hb
    obtain ⟨r0, r1, r2, r3, r4, r5, r6, r7⟩ := hZ1.eight
    obtain ⟨t0, t1, t2, t3, t4, t5, t6, t7⟩ := hZ1.thaw8
    clear hZ hb hbW HV HGood hZ1 HU
    go_wp2
    exact bodyPost_ret (v := .tuple #[mkV z8, .bool false]) (by simp [results, Try.results53, go_sem, r0, r1, r2, r3, r4, r5, r6, r7, z8]) rfl ⟨rfl, below_s8 hb1 (by omega) z8⟩
set_option maxHeartbeats 1000000 in
theorem list_mark (v : Nat → Int) (n : Nat) (w : World) (hn : n ≤ 8) :
    Calls Try.prog 56 #[mkV v, .int .i64 (n : Int)] w fun e w' => (e = .returned (.slice (some ⟨w.heap.size + 1, 0, none⟩) n n) ∧ Blk w' (w.heap.size + 1) n (iv v) 3) ∧ Below w.heap.size w w' := by
  have hmk := make_ints n (by omega)
  have HS := hide (splice_all n v (fun _ => 0))
  have hcs : (((List.range n).map (iv v)).length) = n := by simp
  go_enter Try.func56, Try.ntmps56
  go_wp2_with (refine wpList_copy_splice rfl _ _ 33 33 rfl 3 Try.underlying33 (by kernel_rfl) _ _ _ _ _ _ rfl rfl (w.heap.size + 1) 0 ((List.range n).map (iv fun _ => 0)) 3 ?c1 ((List.range n).map (iv v)) ?c2 ?c3 ?c4 ?c5 (w.heap.size + 1) (w.alloc (.cells (cf 8 (iv v)) 68)) ?c6 ?c7 ?_)
  case c1 =>
    have := heap_alloc_new (w.alloc (.cells (cf 8 (iv v)) 68)) (.cells (cf n (iv fun _ => 0)) 3)
    rw [World.size_alloc] at this; exact this
  case c2 => rw [hcs]; exact (Nat.min_eq_right hn).symm
  case c3 =>
    intro _ j u hj
    have hjn : j < n := by have := (List.getElem?_eq_some_iff.1 hj).1; simpa using this
    rw [List.getElem?_range hjn] at hj
    simp only [Option.some.injEq] at hj
    subst hj
    match j, (show j < 8 by omega) with
    | 0, _ | 1, _ | 2, _ | 3, _ | 4, _ | 5, _ | 6, _ | 7, _ => rfl
  case c4 => rw [hcs]; simp
  case c5 => intro u hu; obtain ⟨j, _, rfl⟩ := List.mem_map.1 hu; rfl
  case c6 => exact (Below.refl _ _).alloc (by simp) _
  case c7 => exact Nat.le_refl _
  intro w1 HG hb1
  have hg := HG.out
  rw [HS.out] at hg
  have HB := hide (show Blk w1 (w.heap.size + 1) n (iv v) 3 from hg)
  have hbw : Below w.heap.size w w1 := ((Below.refl w.heap.size w).alloc (Nat.le_refl _) _).trans (hb1.mono (by omega))
  clear HG hg HS
  go_wp2
  go_ret
  exact ⟨⟨rfl, HB.out⟩, hbw⟩
theorem is_step (p : Int) (a : Option Addr) (k cap : Nat) (i : Int) (b : Bool) (w : World) (hk : k ≤ 1048576) (hb : decide (0 ≤ i ∧ i ≤ (k : Int) - 1) = b) :
    Calls Try.prog 54 #[netV p (.slice a k cap), .int .i64 i] w fun e w' => e = .returned (.bool b) ∧ Below w.heap.size w w' := by
  have HB := hide hb
  clear hb
  go_enter Try.func54, Try.ntmps54
  go_wp2_with fail
  refine (within_to _ _ _ _ _ HB.out).mono ?_
  rintro e w1 ⟨rfl, rfl⟩
  go_wp2
  go_ret
  exact ⟨rfl, (Below.refl _ _).alloc (Nat.le_refl _) _⟩
end Go.Proofs.Ythilapalgakhhaa

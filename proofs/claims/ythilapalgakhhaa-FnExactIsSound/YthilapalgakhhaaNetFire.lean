/-
  The program's markings, arrays of eight numbers: made of a list, fired, told as a list.
-/
import Derived.Test.YthilapalgakhhaaNetGood
import Derived.Test.YthilapalgakhhaaNetAid2
import Derived.Test.YthilapalgakhhaaNetWeight
import Derived.Laws.CopyOwn
namespace Go.Proofs.Ythilapalgakhhaa
open Go.RowKit M
open Clk (upd upd_same upd_other)
namespace M
/-- The first n numbers of f, then zeros. -/
def pad (n : Nat) (f : Nat → Int) : Nat → Int := fun j => if j < n then f j else 0
abbrev mkV (v : Nat → Int) : Value := .agg #[.int .i64 (v 0), .int .i64 (v 1), .int .i64 (v 2), .int .i64 (v 3), .int .i64 (v 4), .int .i64 (v 5), .int .i64 (v 6), .int .i64 (v 7)]
theorem cf8 (v : Nat → Int) : #[(.int .i64 (v 0) : Value), .int .i64 (v 1), .int .i64 (v 2), .int .i64 (v 3), .int .i64 (v 4), .int .i64 (v 5), .int .i64 (v 6), .int .i64 (v 7)] = cf 8 (iv v) := rfl
def z8 : Nat → Int := fun _ => 0
theorem Blk.eight {w : World} {g : Nat} {v : Nat → Int} {t : TypeId} (h : Blk w g 8 (iv v) t) :
    w.cell? ⟨g, 0, none⟩ = some (.int .i64 (v 0)) ∧ w.cell? ⟨g, 1, none⟩ = some (.int .i64 (v 1)) ∧ w.cell? ⟨g, 2, none⟩ = some (.int .i64 (v 2)) ∧ w.cell? ⟨g, 3, none⟩ = some (.int .i64 (v 3)) ∧ w.cell? ⟨g, 4, none⟩ = some (.int .i64 (v 4)) ∧ w.cell? ⟨g, 5, none⟩ = some (.int .i64 (v 5)) ∧ w.cell? ⟨g, 6, none⟩ = some (.int .i64 (v 6)) ∧ w.cell? ⟨g, 7, none⟩ = some (.int .i64 (v 7)) :=
  ⟨h.cell (by omega), h.cell (by omega), h.cell (by omega), h.cell (by omega), h.cell (by omega), h.cell (by omega), h.cell (by omega), h.cell (by omega)⟩
theorem Blk.thaw8 {w : World} {g m : Nat} {f : Nat → Value} {t : TypeId} (h : Blk w g m f t) : w.frozen? ⟨g, 0, none⟩ = false ∧ w.frozen? ⟨g, 1, none⟩ = false ∧ w.frozen? ⟨g, 2, none⟩ = false ∧ w.frozen? ⟨g, 3, none⟩ = false ∧ w.frozen? ⟨g, 4, none⟩ = false ∧ w.frozen? ⟨g, 5, none⟩ = false ∧ w.frozen? ⟨g, 6, none⟩ = false ∧ w.frozen? ⟨g, 7, none⟩ = false :=
  ⟨h.thaw _, h.thaw _, h.thaw _, h.thaw _, h.thaw _, h.thaw _, h.thaw _, h.thaw _⟩
def s8 (w : World) (g : Nat) (x : Nat → Int) : World :=
  (((((((w.setCell ⟨g, 0, none⟩ (.int .i64 (x 0))).setCell ⟨g, 1, none⟩ (.int .i64 (x 1))).setCell ⟨g, 2, none⟩ (.int .i64 (x 2))).setCell ⟨g, 3, none⟩ (.int .i64 (x 3))).setCell ⟨g, 4, none⟩ (.int .i64 (x 4))).setCell ⟨g, 5, none⟩ (.int .i64 (x 5))).setCell ⟨g, 6, none⟩ (.int .i64 (x 6))).setCell ⟨g, 7, none⟩ (.int .i64 (x 7))
theorem below_s8 {B : Nat} {a w : World} (h : Below B a w) {g : Nat} (hg : B ≤ g) (x : Nat → Int) : Below B a (s8 w g x) :=
  (((((((h.setCell hg _).setCell hg _).setCell hg _).setCell hg _).setCell hg _).setCell hg _).setCell hg _).setCell hg _
theorem Blk.s8_other {w : World} {g g' m : Nat} {f : Nat → Value} {t : TypeId} (h : Blk w g m f t) (hne : g ≠ g') (x : Nat → Int) : Blk (M.s8 w g' x) g m f t :=
  (((((((h.set_other hne _ _).set_other hne _ _).set_other hne _ _).set_other hne _ _).set_other hne _ _).set_other hne _ _).set_other hne _ _).set_other hne _ _
theorem Blk.s8_own {w : World} {g : Nat} {f : Nat → Int} {t : TypeId} (h : Blk w g 8 (iv f) t) (x : Nat → Int) : Blk (M.s8 w g x) g 8 (iv x) t := by
  refine Blk.ext ((((((((h.set _ _).set _ _).set _ _).set _ _).set _ _).set _ _).set _ _).set _ _) ?_
  intro i hi
  match i, hi with
  | 0, _ | 1, _ | 2, _ | 3, _ | 4, _ | 5, _ | 6, _ | 7, _ => rfl
theorem splice8 (n : Nat) (f : Nat → Int) (hn : n ≤ 8) : (splice [(.int .i64 0 : Value), .int .i64 0, .int .i64 0, .int .i64 0, .int .i64 0, .int .i64 0, .int .i64 0, .int .i64 0] 0 ((List.range n).map (iv f))).toArray = cf 8 (iv (pad n f)) := by
  apply Array.ext_getElem?
  intro j
  simp only [List.getElem?_toArray, splice, List.take_zero, List.nil_append, Nat.zero_add, List.length_map, List.length_range]
  by_cases hj : j < 8
  · rw [cf_get _ hj]
    by_cases hjn : j < n
    · rw [List.getElem?_append_left (by simpa using hjn)]; simp [hjn, iv, pad]
    · rw [List.getElem?_append_right (by simpa using hjn), List.length_map, List.length_range, List.getElem?_drop, show n + (j - n) = j by omega]
      unfold iv pad; rw [if_neg hjn]
      match j, hj with
      | 0, _ | 1, _ | 2, _ | 3, _ | 4, _ | 5, _ | 6, _ | 7, _ => rfl
  · rw [Array.getElem?_eq_none (by rw [cf_size]; omega), List.getElem?_eq_none (by simp; omega)]
theorem splice_all (n : Nat) (f : Nat → Int) (z : Nat → Int) : (splice ((List.range n).map (iv z)) 0 ((List.range n).map (iv f))).toArray = cf n (iv f) := by
  unfold splice cf
  simp
/-- What is known while a step is fired: the copy c of the marking, the step, the answer's place. -/
def FB (w wr : World) (c : Nat → Int) (x y : Value) : Prop :=
  Blk wr w.heap.size 8 (iv c) 68 ∧ Blk wr (w.heap.size + 1) 2 (p2 x y) 60 ∧ Blk wr (w.heap.size + 2) 8 (iv z8) 68 ∧ Below w.heap.size w wr
theorem FB.set {w wr : World} {c : Nat → Int} {x y : Value} (h : FB w wr c x y) (q : Nat) (v : Int) : FB w (wr.setCell ⟨w.heap.size, q, none⟩ (.int .i64 v)) (upd c q v) x y :=
  ⟨h.1.set_int q v, h.2.1.set_other (by omega) _ _, h.2.2.1.set_other (by omega) _ _, h.2.2.2.setCell (Nat.le_refl _) _⟩
end M
set_option maxHeartbeats 1000000 in
theorem fire_is (m : Nat → Int) (x y : Value) (s : Sp) (p : Nat) (r : Option (Nat → Int)) (w : World) (hx : IntsOf w x s.ni s.fi) (hy : IntsOf w y s.no s.fo) (hg : GoodS p s) (hp : p ≤ 8) (hm : Mk p m) (hr : fire s m = r) :
    Calls Try.prog 55 #[mkV m, .agg #[x, y]] w fun e w' => e = .returned (.tuple #[mkV (r.getD z8), .bool r.isSome]) ∧ Below w.heap.size w w' := by
  obtain ⟨ax, cx, rfl, rx⟩ := hx
  obtain ⟨ay, cy, rfl, ry⟩ := hy
  have RX := hide rx
  have RY := hide ry
  have HG := hide hg
  have HM := hide hm
  have HR := hide hr
  have hn1 : s.ni ≤ 8 := by have := ris_len hg.1 (by omega); omega
  have hn2 : s.no ≤ 8 := by have := ris_len hg.2 (by omega); omega
  clear rx ry hg hm hr
  go_enter Try.func55, Try.ntmps55
  go_wp2
  go_loopw [13] (fun i wr => ∃ (j : Nat) (c : Nat → Int), j ≤ s.ni ∧ i = .int .i64 j ∧ Hid (takes s.fi m j = some c) ∧ Hid (FB w wr c (.slice ax s.ni cx) (.slice ay s.no cy))) (fun i _ => s.ni - (intOf i).toNat)
  case atStart =>
    refine ⟨0, m, Nat.zero_le _, rfl, hide rfl, hide ⟨?_, ?_, ?_, ?_⟩⟩
    · exact ((Blk.fresh w _ 8 (iv m) 68 (cf8 m)).alloc _).alloc _
    · have := (Blk.fresh (w.alloc (.cells (cf 8 (iv m)) 68)) #[.slice ax s.ni cx, .slice ay s.no cy] 2 (p2 (.slice ax s.ni cx) (.slice ay s.no cy)) 60 rfl).alloc (.cells (cf 8 (iv z8)) 68)
      rw [World.size_alloc] at this; exact this
    · have := Blk.fresh ((w.alloc (.cells (cf 8 (iv m)) 68)).alloc (.cells #[.slice ax s.ni cx, .slice ay s.no cy] 60)) _ 8 (iv z8) 68 (cf8 z8)
      rw [World.size_alloc, World.size_alloc] at this; exact this
    · exact (((Below.refl _ _).alloc (Nat.le_refl _) _).alloc (by simp) _).alloc (by simp; omega) _
  case round =>
    rename World => wo
    obtain ⟨j, c, hj, rfl, HT, HF⟩ := hrel
    obtain ⟨hB0, hB1, hB2, hbw⟩ := HF.out
    obtain ⟨e0, e1, -, -⟩ := hB1.pair
    have hc := takes_mk HG.out.1 HM.out hj HT.out
    by_cases hlt : j < s.ni
    · obtain ⟨bs, os, rfl, hbs, hrow⟩ := RX.out (by omega)
      have hfk := (HG.out.1 j hlt).1
      obtain ⟨z, hz⟩ := Int.eq_ofNat_of_zero_le hfk.1
      have hzt : (s.fi j).toNat = z := by omega
      have d0 := (hbw.cell (p := ⟨bs, os + j, none⟩) hbs).trans (hrow j hlt)
      rw [hz] at d0
      have hz8 : z < 8 := by omega
      have d1 := hB0.cell_ints hz8
      have f1 := hB0.thaw z
      have hi0 : (0 : Int) ≤ (z : Int) := by omega
      have hi1 : (z : Int) < 8 := by omega
      obtain ⟨b1, b2⟩ := hc.1 z
      by_cases h0 : c z = 0
      · have hn := takes_stop HT.out (by rw [hzt]; exact h0) hlt
        have er : r = none := by rw [← HR.out]; exact fire_takes hn
        subst er
        obtain ⟨r0, r1, r2, r3, r4, r5, r6, r7⟩ := hB2.eight
        obtain ⟨t0, t1, t2, t3, t4, t5, t6, t7⟩ := hB2.thaw8
        rw [h0] at d1
        clear hB0 hB1 hB2 RX RY HG HM HR HT HF hrow hfk hz hzt hc b1 b2 h0 hn
        go_wp2
        exact bodyPost_ret (v := .tuple #[mkV z8, .bool false]) (by simp [results, Try.results55, go_sem, r0, r1, r2, r3, r4, r5, r6, r7, z8]) rfl ⟨rfl, below_s8 hbw (by omega) z8⟩
      · have HT2 := hide (takes_go HT.out (by rw [hzt]; exact h0))
        rw [hzt] at HT2
        have HF2 := hide (HF.out.set z (c z - 1))
        have hne : (c z == 0) = false := by simp [h0]
        clear hB0 hB1 hB2 RX RY HG HM HR HT HF hrow hfk hz hzt hc
        generalize hcz : c z = cz at *
        clear hcz
        go_wp2
        exact ⟨⟨j + 1, _, by omega, by go_num, HT2, HF2⟩, by simp [intOf]; omega⟩
    · obtain rfl : j = s.ni := by omega
      have HFG := hide (fire_gives HT.out)
      have HC := hide hc
      clear hB0 hB1 hB2 hbw RX HT hc
      go_wp2
      go_loopw [31] (fun i wr => ∃ (j : Nat) (c2 : Nat → Int), j ≤ s.no ∧ i = .int .i64 j ∧ Hid (gives s.fo c j = some c2) ∧ Hid (FB w wr c2 (.slice ax s.ni cx) (.slice ay s.no cy))) (fun i _ => s.no - (intOf i).toNat)
      case atStart => exact ⟨0, c, Nat.zero_le _, rfl, hide rfl, HF⟩
      case round =>
        obtain ⟨j, c2, hj, rfl, HT, HF⟩ := hrel
        obtain ⟨hB0, hB1, hB2, hbw⟩ := HF.out
        obtain ⟨e0, e1, -, -⟩ := hB1.pair
        have hc := gives_mk HG.out.2 HC.out hj HT.out
        by_cases hlt : j < s.no
        · obtain ⟨bs, os, rfl, hbs, hrow⟩ := RY.out (by omega)
          have hfk := (HG.out.2 j hlt).1
          obtain ⟨z, hz⟩ := Int.eq_ofNat_of_zero_le hfk.1
          have hzt : (s.fo j).toNat = z := by omega
          have d0 := (hbw.cell (p := ⟨bs, os + j, none⟩) hbs).trans (hrow j hlt)
          rw [hz] at d0
          have hz8 : z < 8 := by omega
          have d1 := hB0.cell_ints hz8
          have f1 := hB0.thaw z
          have hi0 : (0 : Int) ≤ (z : Int) := by omega
          have hi1 : (z : Int) < 8 := by omega
          obtain ⟨b1, b2⟩ := hc.1 z
          by_cases h0 : c2 z = 9
          · have hn := gives_stop HT.out (by rw [hzt]; exact h0) hlt
            have er : r = none := by rw [← HR.out, HFG.out]; exact hn
            subst er
            obtain ⟨r0, r1, r2, r3, r4, r5, r6, r7⟩ := hB2.eight
            obtain ⟨t0, t1, t2, t3, t4, t5, t6, t7⟩ := hB2.thaw8
            rw [h0] at d1
            clear hB0 hB1 hB2 RY HG HM HR HT HF hrow hfk hz hzt hc b1 b2 h0 hn HFG HC
            go_wp2
            exact bodyPost_ret (v := .tuple #[mkV z8, .bool false]) (by simp [results, Try.results55, go_sem, r0, r1, r2, r3, r4, r5, r6, r7, z8]) rfl ⟨rfl, below_s8 hbw (by omega) z8⟩
          · have HT2 := hide (gives_go HT.out (by rw [hzt]; exact h0))
            rw [hzt] at HT2
            have HF2 := hide (HF.out.set z (c2 z + 1))
            have hne : (c2 z == 9) = false := by simp [h0]
            clear hB0 hB1 hB2 RY HG HM HR HT HF hrow hfk hz hzt hc HFG HC
            generalize hcz : c2 z = cz at *
            clear hcz
            go_wp2
            exact ⟨⟨j + 1, _, by omega, by go_num, HT2, HF2⟩, by simp [intOf]; omega⟩
        · obtain rfl : j = s.no := by omega
          have er : r = some c2 := by rw [← HR.out, HFG.out]; exact HT.out
          subst er
          obtain ⟨r0, r1, r2, r3, r4, r5, r6, r7⟩ := hB2.eight
          obtain ⟨t0, t1, t2, t3, t4, t5, t6, t7⟩ := hB2.thaw8
          obtain ⟨q0, q1, q2, q3, q4, q5, q6, q7⟩ := hB0.eight
          clear hB0 hB1 hB2 RY HG HM HR HT HF hc HFG HC
          go_wp2
          exact bodyPost_ret (v := .tuple #[mkV c2, .bool true]) (by simp [results, Try.results55, go_sem, r0, r1, r2, r3, r4, r5, r6, r7]) rfl ⟨rfl, below_s8 hbw (by omega) c2⟩
end Go.Proofs.Ythilapalgakhhaa

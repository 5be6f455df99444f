/-
  The program's eachFires and lastOnlyAtEnd.
-/
import Derived.Test.YthilapalgakhhaaNetSndF
import Derived.Test.YthilapalgakhhaaNetTok
import Derived.Test.YthilapalgakhhaaNetFromS
namespace Go.Proofs.Ythilapalgakhhaa
open Go.RowKit M
open Clk (upd upd_same upd_other)
open Go.ChangeMaps (setBlock heap_setBlock_same heap_setBlock_other)
set_option maxRecDepth 20000 in
set_option maxHeartbeats 1000000 in
theorem each_fires (P : Int) (v : Value) (k : Nat) (st : Nat → Sp) (p b n : Nat) (K : Nat → Nat → Int) (F : Nat → Nat → Int) (S : Nat → Int) (z : Bool) (w : World) (hv : StepsOf w v k st) (hs : Short k st) (hg : ∀ t, t < k → GoodS p (st t)) (hp : p ≤ 8) (hm : MapB w b n K (fun i => arrV (i : Int) (F i) (S i))) (hK : ∀ i, i < n → Mk p (K i)) (hz : z = true ↔ ∀ t, t < k → ∃ i, i < n ∧ ∃ c, fire (st t) (K i) = some c) :
    Calls Try.prog 73 #[netV P v, .map (some b)] w fun e w' => e = .returned (.bool z) ∧ Below w.heap.size w w' := by
  have HZ := hide hz
  have HG := hide hg
  have HK := hide hK
  have HMp := hide hm
  have hk := hs.1
  obtain ⟨a, cap, rfl, hr⟩ := hv
  have HR := hide hr
  have hbA := (Below.refl w.heap.size w).alloc (Nat.le_refl _) (.cells #[.int .i64 P, .slice a k cap] 29)
  clear hg hK hz hm hr hs
  go_enter Try.func73, Try.ntmps73
  go_wp2_with fail
  go_loopw [10] (fun y wr => ∃ t : Nat, t ≤ k ∧ y = .int .i64 (t : Int) ∧ Hid (∀ q, q < t → ∃ i, i < n ∧ ∃ c, fire (st q) (K i) = some c) ∧ Hid (Below w.heap.size w wr)) (fun y _ => k - (intOf y).toNat)
  case atStart => exact ⟨0, by omega, rfl, hide (fun q h => by omega), hide hbA⟩
  case round =>
    obtain ⟨t, htk, rfl, HT, HB⟩ := hrel
    by_cases htl : t < k
    · obtain ⟨bb, off, rfl, hbb, hrw⟩ := HR.out (by omega)
      obtain ⟨vx, vy, z1, z2, ix, iy⟩ := hrw t htl
      obtain ⟨ax, cx, rfl⟩ := ix.form
      obtain ⟨ay, cy, rfl⟩ := iy.form
      have hbq := HB.out
      have c0 := (hbq.cell (p := ⟨bb, off + t * 2, none⟩) hbb).trans z1
      have c1 := (hbq.cell (p := ⟨bb, off + t * 2 + 1, none⟩) hbb).trans z2
      have ht0 : (0 : Int) ≤ (t : Int) := by omega
      have ht1 : (t : Int) < (k : Int) := by omega
      have hbB := (Below.refl wr.heap.size wr).alloc (Nat.le_refl _) (.cells #[.slice ax (st t).ni cx, .slice ay (st t).no cy] 60)
      have hbqB := hbq.trans (hbB.mono hbq.size)
      obtain ⟨zt, hzt⟩ : ∃ zt : Bool, zt = true ↔ ∃ i, i < n ∧ ∃ c, fire (st t) (K i) = some c := by
        by_cases h : ∃ i, i < n ∧ ∃ c, fire (st t) (K i) = some c
        · exact ⟨true, by simp [h]⟩
        · exact ⟨false, by simp [h]⟩
      have HZt := hide hzt
      have HX := hide ix
      have HY := hide iy
      clear z1 z2 hrw ix iy hzt hbB
      go_wp2_with fail
      refine (fires_in _ _ (st t) p b n K F S zt _ (HX.out.below hbqB) (HY.out.below hbqB) (HG.out t htl) hp (HMp.out.down hbqB) HK.out HZt.out).mono ?_
      rintro e w4 ⟨rfl, hb4⟩
      have hb5 := hbqB.trans (hb4.mono hbqB.size)
      clear hb4 hbqB hbq c0 c1 HX HY HB
      cases zt with
      | false =>
        obtain rfl : z = false := by
          cases z with
          | false => rfl
          | true => exact absurd (HZt.out.2 (HZ.out.1 rfl t htl)) (by decide)
        clear HZt HZ HT HG HK HMp HR
        go_wp2
        go_ret
        exact ⟨rfl, hb5⟩
      | true =>
        have HT2 := hide (show ∀ q, q < t + 1 → ∃ i, i < n ∧ ∃ c, fire (st q) (K i) = some c from fun q hq => by
          rcases (show q < t ∨ q = t by omega) with h | h
          · exact HT.out q h
          · rw [h]; exact HZt.out.1 rfl)
        clear HZt HT
        go_wp2
        exact ⟨⟨t + 1, by omega, by go_num, HT2, hide hb5⟩, by simp [intOf]; omega⟩
    · obtain rfl : t = k := by omega
      obtain rfl : z = true := HZ.out.2 HT.out
      have hbz := HB.out
      clear HT HB HZ HG HK HMp HR htl
      go_wp2
      go_ret
      exact ⟨rfl, hbz⟩
namespace M
/-- While lastOnlyAtEnd ranges. -/
def LaI (w1 wr : World) (G l : Nat) (b n : Nat) (K : Nat → Nat → Int) (V : Nat → Value) (seen : Array Nat) : Prop :=
  RgM w1.heap.size (w1.heap.size + 1) w1 wr b n K V seen ∧ Blk wr G 8 (iv (tok l)) 68 ∧ (∀ i, i ∈ seen → 0 < K i l → K i = tok l) ∧ w1.heap.size + 1 < wr.heap.size
end M
set_option maxRecDepth 20000 in
set_option maxHeartbeats 1000000 in
theorem last_only (l p b n : Nat) (K : Nat → Nat → Int) (F : Nat → Nat → Int) (S : Nat → Int) (z : Bool) (w : World) (hl : l < p) (hp : p ≤ 8) (hm : MapB w b n K (fun i => arrV (i : Int) (F i) (S i))) (hK : ∀ i, i < n → Mk p (K i)) (hz : z = true ↔ ∀ i, i < n → 0 < K i l → K i = tok l) :
    Calls Try.prog 71 #[.map (some b), .int .i64 (l : Int)] w fun e w' => e = .returned (.bool z) ∧ Below w.heap.size w w' := by
  have HK := hide hK
  have HZ := hide hz
  have HMp := hide hm
  have HTk := hide (show Mk p (tok l) from one_mk hl)
  clear hK hz hm
  go_enter Try.func71, Try.ntmps71
  go_wp2_with fail
  refine (token_in l _ (by omega)).mono ?_
  rintro e w1 ⟨rfl, hb1⟩
  have hm1 := HMp.out.down hb1
  have hbl := hm1.lt
  have hbA := (Below.refl w1.heap.size w1).alloc (Nat.le_refl _) (.cells #[.int .i64 (tok l 0), .int .i64 (tok l 1), .int .i64 (tok l 2), .int .i64 (tok l 3), .int .i64 (tok l 4), .int .i64 (tok l 5), .int .i64 (tok l 6), .int .i64 (tok l 7)] 68)
  have hrg := run_range_map (P := Try.prog) (w1.alloc (.cells #[.int .i64 (tok l 0), .int .i64 (tok l 1), .int .i64 (tok l 2), .int .i64 (tok l 3), .int .i64 (tok l 4), .int .i64 (tok l 5), .int .i64 (tok l 6), .int .i64 (tok l 7)] 68)) 78 68 94 b _ _ Try.underlying78 (hm1.down hbA)
  rw [World.size_alloc] at hrg
  have H0 := hide (show LaI w1 ((w1.alloc (.cells #[.int .i64 (tok l 0), .int .i64 (tok l 1), .int .i64 (tok l 2), .int .i64 (tok l 3), .int .i64 (tok l 4), .int .i64 (tok l 5), .int .i64 (tok l 6), .int .i64 (tok l 7)] 68)).alloc (.mapIter (some b) n #[] n)) w1.heap.size l b n K (fun i => arrV (i : Int) (F i) (S i)) #[] by
    have hb2 := hbA.alloc hbA.size (.mapIter (some b) n #[] n)
    refine ⟨⟨⟨n, Nat.le_refl _, ?_⟩, hm1.down hb2, hb2⟩, (Blk.fresh w1 _ 8 (iv (tok l)) 68 (cf8 (tok l))).alloc _, fun i hi => by simp at hi, by simp⟩
    have := heap_alloc_new (w1.alloc (.cells #[.int .i64 (tok l 0), .int .i64 (tok l 1), .int .i64 (tok l 2), .int .i64 (tok l 3), .int .i64 (tok l 4), .int .i64 (tok l 5), .int .i64 (tok l 6), .int .i64 (tok l 7)] 68)) (.mapIter (some b) n #[] n)
    rw [World.size_alloc] at this; exact this)
  clear hm1 hbA
  go_wp2
  go_loopw [11] (fun _ wr => ∃ seen : Array Nat, Hid (LaI w1 wr w1.heap.size l b n K (fun i => arrV (i : Int) (F i) (S i)) seen)) (fun _ wr => leftIn wr b (w1.heap.size + 1))
  case atStart => exact ⟨#[], H0⟩
  case round =>
    obtain ⟨seen, HI⟩ := hrel
    obtain ⟨hR, hBk, hNo, hsz⟩ := HI.out
    rcases range_step w1.heap.size (w1.heap.size + 1) b n K F S seen w1 wr hR hbl (by omega) with ⟨hall, hrun⟩ | ⟨i, W2, hi, hR2, hbW, hszW, hkp, hless, hen, hrun⟩
    · have hbz := hb1.trans (hR.2.2.mono hb1.size)
      obtain rfl : z = true := HZ.out.2 fun i hi => hNo i (hall i hi)
      clear HI hR hBk hNo hsz hall H0 hrg HK HZ HMp HTk hb1
      go_wp2_with (at_next; refine wpList_next_by rfl _ rfl (w1.heap.size + 1) rfl _ _ hrun ?_)
      go_ret
      exact ⟨rfl, hbz⟩
    · have hK2 := hkp w1.heap.size 8 _ _ (by omega) hBk
      have hbA := (Below.refl W2.heap.size W2).alloc (Nat.le_refl _) (.cells #[.int .i64 (K i 0), .int .i64 (K i 1), .int .i64 (K i 2), .int .i64 (K i 3), .int .i64 (K i 4), .int .i64 (K i 5), .int .i64 (K i 6), .int .i64 (K i 7)] 68)
      have hNew := Blk.fresh W2 _ 8 (iv (K i)) 68 (cf8 (K i))
      have cl := hNew.cell (show l < 8 by omega)
      rw [show iv (K i) l = .int .i64 (K i l) from rfl, hszW] at cl
      obtain ⟨t0, t1, t2, t3, t4, t5, t6, t7⟩ := (hK2.down hbA).eight
      have heq := fun W => eq8 (K i) (tok l) W
      have hbz := (hb1.trans (hR2.2.2.mono hb1.size)).trans (hbA.mono (hb1.trans (hR2.2.2.mono hb1.size)).size)
      have hl0 : (0 : Int) ≤ (l : Int) := by omega
      have hl8 : (l : Int) < 8 := by omega
      have HE := hide (show (0 < K i l → K i = tok l) → LaI w1 (W2.alloc (.cells #[.int .i64 (K i 0), .int .i64 (K i 1), .int .i64 (K i 2), .int .i64 (K i 3), .int .i64 (K i 4), .int .i64 (K i 5), .int .i64 (K i 6), .int .i64 (K i 7)] 68)) w1.heap.size l b n K (fun i => arrV (i : Int) (F i) (S i)) (seen.push i) ∧ leftIn (W2.alloc (.cells #[.int .i64 (K i 0), .int .i64 (K i 1), .int .i64 (K i 2), .int .i64 (K i 3), .int .i64 (K i 4), .int .i64 (K i 5), .int .i64 (K i 6), .int .i64 (K i 7)] 68)) b (w1.heap.size + 1) < leftIn wr b (w1.heap.size + 1) from fun h0 => by
        have hRo := hR2.down hR2.2.2.size hbA
        refine ⟨⟨hRo, hK2.down hbA, fun j hj => ?_, Nat.lt_of_lt_of_le (by rw [hszW]; exact hsz) hbA.size⟩, hless _ hRo⟩
        rw [Array.mem_push] at hj
        rcases hj with hj | hj
        · exact hNo j hj
        · rw [hj]; exact h0)
      have HBad := hide (show ¬ (0 < K i l → K i = tok l) → z = false from fun h => by
        cases z with
        | false => rfl
        | true => exact absurd (HZ.out.1 rfl i hi) h)
      have HV8 := hide (mk_eq hp (HK.out i hi) HTk.out)
      clear HI hR hBk hNo hR2 hkp hless H0 hrg hbW hK2 hNew HZ HK HMp HTk hb1 hbA
      unfold mkV at heq
      by_cases hpos : 0 < K i l
      · have hd : decide (0 < K i l) = true := decide_eq_true hpos
        cases hv : veq8 (K i) (tok l) with
        | true =>
          have hE2 := HE.out (fun _ => HV8.out.1 hv)
          simp only [hv] at heq
          clear HE HBad HV8 hpos hv
          generalize K i l = xl at *
          go_wp2_with (at_next; refine wpList_next_by rfl _ rfl (w1.heap.size + 1) rfl _ _ hrun ?_)
          exact ⟨⟨seen.push i, hide hE2.1⟩, hE2.2⟩
        | false =>
          obtain rfl : z = false := HBad.out (fun h => by rw [HV8.out.2 (h hpos)] at hv; cases hv)
          simp only [hv] at heq
          clear HE HBad HV8 hpos hv
          generalize K i l = xl at *
          go_wp2_with (at_next; refine wpList_next_by rfl _ rfl (w1.heap.size + 1) rfl _ _ hrun ?_)
          go_ret
          exact ⟨rfl, hbz⟩
      · have hd : decide (0 < K i l) = false := decide_eq_false hpos
        have hE2 := HE.out (fun h => absurd h hpos)
        clear HE HBad HV8 hpos heq
        generalize K i l = xl at *
        go_wp2_with (at_next; refine wpList_next_by rfl _ rfl (w1.heap.size + 1) rfl _ _ hrun ?_)
        exact ⟨⟨seen.push i, hide hE2.1⟩, hE2.2⟩
end Go.Proofs.Ythilapalgakhhaa

/-
  The program's firesIn and eachFires: a range over the map of what was met.
-/
import Derived.Test.YthilapalgakhhaaNetOrder2
import Derived.Test.YthilapalgakhhaaNetMet
import Derived.Test.YthilapalgakhhaaNetSndM
namespace Go.Proofs.Ythilapalgakhhaa
open Go.RowKit M
open Clk (upd upd_same upd_other)
open Go.ChangeMaps (setBlock heap_setBlock_same heap_setBlock_other)
namespace M
/-- What is known while the map is ranged over: the iterator in block r, all below B as it was. -/
def RgM (B r : Nat) (w wr : World) (b n : Nat) (K : Nat → Nat → Int) (V : Nat → Value) (seen : Array Nat) : Prop :=
  (∃ c0, n ≤ c0 ∧ wr.heap[r]? = some (.mapIter (some b) n seen c0)) ∧ MapB wr b n K V ∧ Below B w wr
theorem RgM.down {B r : Nat} {w wr w' : World} {b n : Nat} {K : Nat → Nat → Int} {V : Nat → Value} {seen : Array Nat} (h : RgM B r w wr b n K V seen) (hB : B ≤ wr.heap.size) (hb : Below wr.heap.size wr w') : RgM B r w w' b n K V seen := by
  obtain ⟨⟨c0, h1, h2⟩, h3, h4⟩ := h
  have hlt : r < wr.heap.size := (Array.getElem?_eq_some_iff.1 h2).1
  exact ⟨⟨c0, h1, by rw [hb.block r hlt]; exact h2⟩, h3.down hb, h4.trans (hb.mono hB)⟩
theorem RgM.left {B r : Nat} {w wr : World} {b n : Nat} {K : Nat → Nat → Int} {V : Nat → Value} {seen : Array Nat} (h : RgM B r w wr b n K V seen) : leftIn wr b r = (leftOf (entL K V 0 n).toArray seen).size := by
  obtain ⟨⟨c0, h1, h2⟩, h3, h4⟩ := h
  exact left_is h3 h2
end M
/-- One step of a range over the map: no entry is left, or one that was not seen comes. -/
theorem range_step (B r b n : Nat) (K : Nat → Nat → Int) (F : Nat → Nat → Int) (S : Nat → Int) (seen : Array Nat) (w wr : World) (h : RgM B r w wr b n K (fun i => arrV (i : Int) (F i) (S i)) seen) (hbr : b < B) (hr : B ≤ r) :
    ((∀ i, i < n → i ∈ seen) ∧ ∀ ty, (Instr.next (.pointer (some ⟨r, 0, none⟩)) false ty).run Try.prog wr = .ok (.tuple #[.bool false]) wr) ∨
    ∃ (i : Nat) (W2 : World), i < n ∧ RgM B r w W2 b n K (fun i => arrV (i : Int) (F i) (S i)) (seen.push i) ∧ Below B wr W2 ∧ W2.heap.size = wr.heap.size ∧ (∀ g m f t, g ≠ r → Blk wr g m f t → Blk W2 g m f t) ∧
      (∀ wz, RgM B r w wz b n K (fun i => arrV (i : Int) (F i) (S i)) (seen.push i) → leftIn wz b r < leftIn wr b r) ∧
      (Instr.entry (.pointer (some ⟨r, 0, none⟩))).run Try.prog W2 = .ok (.tuple #[mkV (K i), arrV (i : Int) (F i) (S i)]) W2 ∧
      ∀ ty, (Instr.next (.pointer (some ⟨r, 0, none⟩)) false ty).run Try.prog wr = .ok (.tuple #[.bool true, mkV (K i), arrV (i : Int) (F i) (S i)]) W2 := by
  have hL := h.left
  obtain ⟨⟨c0, hc0, hit⟩, hmb, hbw⟩ := h
  have hold : ∀ x ∈ (entL K (fun i => arrV (i : Int) (F i) (S i)) 0 n).toArray.toList, x.born < n := fun x hx => by
    obtain ⟨i, hi, rfl⟩ := entL_mem (by simpa using hx); exact hi
  rcases run_next_at (P := Try.prog) wr 0 r b n c0 seen _ n hit hmb hold hc0 with ⟨h0, hrun⟩ | ⟨e, he, w1, hal, hrun⟩
  · refine .inl ⟨fun i hi => ?_, fun _ => hrun⟩
    have h9 := all_seen _ _ h0 ⟨mkV (K i), arrV (i : Int) (F i) (S i), i⟩ (show _ ∈ entL K (fun i => arrV (i : Int) (F i) (S i)) 0 n from entL_has (V := fun i => arrV (i : Int) (F i) (S i)) hi)
    simpa using h9
  · obtain ⟨hem, hes⟩ := mem_left he
    have hlen := left_shrinks _ seen e he
    obtain ⟨i, hi, rfl⟩ := entL_mem (show e ∈ entL K (fun i => arrV (i : Int) (F i) (S i)) 0 n from hem)
    have hh1 : w1.heap = wr.heap := by rcases hal with rfl | rfl <;> rfl
    have hb1 : Below B wr w1 := by
      rcases hal with rfl | rfl
      · exact Below.refl _ _
      · exact (Below.refl _ _).drew
    have hit1 : w1.heap[r]? = some (.mapIter (some b) n seen c0) := by rw [hh1]; exact hit
    have hm1 : MapB w1 b n K (fun i => arrV (i : Int) (F i) (S i)) := by unfold MapB; rw [hh1]; exact hmb
    have hit2 := set_own (o' := .mapIter (some b) n (seen.push i) n) hit1
    have hm2 := set_map (r := r) (o' := .mapIter (some b) n (seen.push i) n) hm1 (by omega)
    have hb2 := set_below (r := r) (o' := .mapIter (some b) n (seen.push i) n) hb1 hr
    have hB : B ≤ wr.heap.size := Nat.le_trans hr (Nat.le_of_lt (Array.getElem?_eq_some_iff.1 hit).1)
    have hen := run_entry_at (P := Try.prog) _ r b n seen _ n (⟨mkV (K i), arrV (i : Int) (F i) (S i), i⟩ : MapEntry) hit2 hm2 hem (by rw [show (entL K (fun i => arrV (i : Int) (F i) (S i)) 0 n).toArray.toList = entL K (fun i => arrV (i : Int) (F i) (S i)) 0 n from rfl, entL_born]; exact List.nodup_range')
    refine .inr ⟨i, setBlock w1 r (.mapIter (some b) n (seen.push i) n), hi, ⟨⟨n, Nat.le_refl _, hit2⟩, hm2, hbw.trans hb2⟩, hb2, by simp [setBlock, hh1], fun g m f t hne hk => set_blk (show Blk w1 g m f t by unfold Blk; rw [hh1]; exact hk) hne, fun wz hz => ?_, hen, fun _ => hrun⟩
    rw [hz.left, hL]
    exact hlen
namespace M
/-- While firesIn ranges: the step in its box, none of those seen fires. -/
def FiI (w wr : World) (x y : Value) (s : Sp) (b n : Nat) (K : Nat → Nat → Int) (V : Nat → Value) (seen : Array Nat) : Prop :=
  RgM w.heap.size (w.heap.size + 1) w wr b n K V seen ∧ Blk wr w.heap.size 2 (p2 x y) 60 ∧ (∀ i, i ∈ seen → fire s (K i) = none) ∧ w.heap.size + 1 < wr.heap.size
end M
set_option maxRecDepth 20000 in
set_option maxHeartbeats 1000000 in
theorem fires_in (x y : Value) (s : Sp) (p b n : Nat) (K : Nat → Nat → Int) (F : Nat → Nat → Int) (S : Nat → Int) (z : Bool) (w : World) (hx : IntsOf w x s.ni s.fi) (hy : IntsOf w y s.no s.fo) (hg : GoodS p s) (hp : p ≤ 8) (hm : MapB w b n K (fun i => arrV (i : Int) (F i) (S i))) (hK : ∀ i, i < n → Mk p (K i)) (hz : z = true ↔ ∃ i, i < n ∧ ∃ c, fire s (K i) = some c) :
    Calls Try.prog 79 #[.agg #[x, y], .map (some b)] w fun e w' => e = .returned (.bool z) ∧ Below w.heap.size w w' := by
  have HX := hide hx
  have HY := hide hy
  have HK := hide hK
  have HZ := hide hz
  obtain ⟨ax, cx, rfl⟩ := hx.form
  obtain ⟨ay, cy, rfl⟩ := hy.form
  have hbl := hm.lt
  have hb1 := (Below.refl w.heap.size w).alloc (Nat.le_refl _) (.cells #[.slice ax s.ni cx, .slice ay s.no cy] 60)
  have hm1 := hm.down hb1
  have hrg := run_range_map (P := Try.prog) (w.alloc (.cells #[.slice ax s.ni cx, .slice ay s.no cy] 60)) 78 68 94 b _ _ Try.underlying78 hm1
  rw [World.size_alloc] at hrg
  have H0 := hide (show FiI w ((w.alloc (.cells #[.slice ax s.ni cx, .slice ay s.no cy] 60)).alloc (.mapIter (some b) n #[] n)) (.slice ax s.ni cx) (.slice ay s.no cy) s b n K (fun i => arrV (i : Int) (F i) (S i)) #[] by
    have hb2 := hb1.alloc hb1.size (.mapIter (some b) n #[] n)
    refine ⟨⟨⟨n, Nat.le_refl _, ?_⟩, hm.down hb2, hb2⟩, (Blk.fresh w #[.slice ax s.ni cx, .slice ay s.no cy] 2 (p2 (.slice ax s.ni cx) (.slice ay s.no cy)) 60 rfl).alloc _, fun i hi => by simp at hi, by simp⟩
    have := heap_alloc_new (w.alloc (.cells #[.slice ax s.ni cx, .slice ay s.no cy] 60)) (.mapIter (some b) n #[] n)
    rw [World.size_alloc] at this; exact this)
  clear hm1 hb1 hm hx hy hK hz
  go_enter Try.func79, Try.ntmps79
  go_wp2
  go_loopw [10] (fun _ wr => ∃ seen : Array Nat, Hid (FiI w wr (.slice ax s.ni cx) (.slice ay s.no cy) s b n K (fun i => arrV (i : Int) (F i) (S i)) seen)) (fun _ wr => leftIn wr b (w.heap.size + 1))
  case atStart => exact ⟨#[], H0⟩
  case round =>
    obtain ⟨seen, HI⟩ := hrel
    obtain ⟨hR, hBk, hNo, hsz⟩ := HI.out
    rcases range_step w.heap.size (w.heap.size + 1) b n K F S seen w wr hR hbl (by omega) with ⟨hall, hrun⟩ | ⟨i, W2, hi, hR2, hbW, hszW, hkp, hless, hen, hrun⟩
    · have hbz := hR.2.2
      obtain rfl : z = false := by
        cases z with
        | false => rfl
        | true =>
          obtain ⟨i, hi, c, hc⟩ := HZ.out.1 rfl
          rw [hNo i (hall i hi)] at hc
          cases hc
      clear HI hR hBk hNo hsz hall H0 hrg HX HY HK HZ
      go_wp2_with (at_next; refine wpList_next_by rfl _ rfl (w.heap.size + 1) rfl _ _ hrun ?_)
      go_ret
      exact ⟨rfl, hbz⟩
    · have hK2 := hkp w.heap.size 2 _ _ (by omega) hBk
      obtain ⟨k0, k1, -, -⟩ := hK2.pair
      have ad0 := fun o : Obj => alloc_cell o k0
      have ad1 := fun o : Obj => alloc_cell o k1
      obtain ⟨fr, hfr⟩ : ∃ fr, fire s (K i) = fr := ⟨_, rfl⟩
      have HFr := hide hfr
      have HNo := hide hNo
      have HR2 := hide hR2
      have HK2 := hide hK2
      have HLs := hide hless
      clear HI hR hBk hNo hR2 hkp hless hfr H0 hrg hbW
      go_wp2_with (at_next; refine wpList_next_by rfl _ rfl (w.heap.size + 1) rfl _ _ hrun ?_)
      have hbA := (Below.refl W2.heap.size W2).alloc (Nat.le_refl _) (.cells #[.int .i64 (K i 0), .int .i64 (K i 1), .int .i64 (K i 2), .int .i64 (K i 3), .int .i64 (K i 4), .int .i64 (K i 5), .int .i64 (K i 6), .int .i64 (K i 7)] 68)
      have hbw3 := HR2.out.2.2.trans (hbA.mono HR2.out.2.2.size)
      refine (fire_is (K i) _ _ s p fr _ (HX.out.below hbw3) (HY.out.below hbw3) hg hp (HK.out i hi) HFr.out).mono ?_
      rintro e w4 ⟨rfl, hb4⟩
      have hb24 := hbA.trans (hb4.mono hbA.size)
      have HE := hide (show ∀ o, fr = none → FiI w (w4.alloc o) (.slice ax s.ni cx) (.slice ay s.no cy) s b n K (fun i => arrV (i : Int) (F i) (S i)) (seen.push i) ∧ leftIn (w4.alloc o) b (w.heap.size + 1) < leftIn wr b (w.heap.size + 1) from fun o h0 => by
        have hbo := hb24.trans (((Below.refl w4.heap.size w4).alloc (Nat.le_refl _) o).mono hb24.size)
        have hRo := HR2.out.down HR2.out.2.2.size hbo
        refine ⟨⟨hRo, HK2.out.down hbo, fun j hj => ?_, Nat.lt_of_lt_of_le (by rw [hszW]; exact hsz) hbo.size⟩, HLs.out _ hRo⟩
        rw [Array.mem_push] at hj
        rcases hj with hj | hj
        · exact HNo.out j hj
        · rw [hj, HFr.out, h0])
      have hbz := fun o : Obj => (hbw3.trans (hb4.mono hbw3.size)).alloc (hbw3.trans (hb4.mono hbw3.size)).size o
      clear hbA hbw3 hb4 hb24 k0 k1 ad0 ad1 HX HY HNo HR2 HK2 HLs hen
      cases fr with
      | none =>
        clear HFr hbz
        have hz8 : mkV ((none : Option (Nat → Int)).getD z8) = mkV z8 := rfl
        rw [hz8]
        clear hz8
        show _
        simp only [Option.isSome_none]
        go_wp2
        exact ⟨⟨seen.push i, hide (HE.out _ rfl).1⟩, (HE.out _ rfl).2⟩
      | some c =>
        obtain rfl : z = true := HZ.out.2 ⟨i, hi, c, HFr.out⟩
        simp only [Option.isSome_some, Option.getD_some]
        clear HFr HE HZ HK
        go_wp2
        go_ret
        exact ⟨rfl, hbz _⟩
end Go.Proofs.Ythilapalgakhhaa

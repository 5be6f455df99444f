/-
  The specification's IsSound.
-/
import Derived.Test.YthilapalgakhhaaNetSndM
import Derived.Test.YthilapalgakhhaaNetMarksS
import Derived.Deep.RegionHeld
import Derived.Deep.CutRange
namespace Go.Proofs.Ythilapalgakhhaa
open Go.RowKit M
open Clk (upd upd_same upd_other)
theorem info_boolS : (Try.prog.info? 4).map (fun i => (i.zero, i.size, i.bytes)) = some (some (.bool false), 1, 1) := by kernel_rfl
theorem make_boolS (n : Nat) (h : n ≤ 1048576) (w : World) : (Instr.makeSlice 86 (.int .i64 (n : Int)) (.int .i64 (n : Int))).run Try.prog w = .ok (.slice (some ⟨w.heap.size, 0, none⟩) n n) (w.alloc (.cells (M.cf n (fun _ => .bool false)) 4)) := by
  obtain ⟨i, hi, hz0, hz1, hz2⟩ := info_parts info_boolS
  have hr := run_make (P := Try.prog) w 86 4 i _ Try.underlying86 hi hz0 .i64 .i64 (n : Int) (n : Int) (by omega) (Int.le_refl _) (by rw [hz2]; omega) (by omega)
  rw [hr, hz1]
  simp only [Int.toNat_natCast, Nat.mul_one]
  rw [← show madeCells #[(.bool false : Value)] n = M.cf n (fun _ => .bool false) from M.cf_made _ n]
  rfl
namespace M
/-- Step t fires in one of the first i. -/
def fb (st : Nat → Sp) (K : Nat → Nat → Int) (t : Nat) : Nat → Bool
  | 0 => false
  | i + 1 => fb st K t i || (fire (st t) (K i)).isSome
theorem fb_iff (st : Nat → Sp) (K : Nat → Nat → Int) (t : Nat) : ∀ i, fb st K t i = true ↔ ∃ j, j < i ∧ ∃ y, fire (st t) (K j) = some y
  | 0 => by simp [fb]
  | i + 1 => by
    simp only [fb, Bool.or_eq_true, fb_iff st K t i, Option.isSome_iff_exists]
    constructor
    · rintro (⟨j, hj, h⟩ | h)
      · exact ⟨j, by omega, h⟩
      · exact ⟨i, by omega, h⟩
    · rintro ⟨j, hj, h⟩
      rcases (show j < i ∨ j = i by omega) with h1 | h1
      · exact .inl ⟨j, h1, h⟩
      · subst h1; exact .inr h
/-- The bools while the steps of row i are tried. -/
def fbv (st : Nat → Sp) (K : Nat → Nat → Int) (i t : Nat) : Nat → Value := fun q => .bool (if q < t then fb st K q (i + 1) else fb st K q i)
theorem fbv_zero (st : Nat → Sp) (K : Nat → Nat → Int) (i : Nat) : fbv st K i 0 = fun q => .bool (fb st K q i) := by funext q; simp [fbv]
theorem fbv_succ (st : Nat → Sp) (K : Nat → Nat → Int) (i t : Nat) : upd (fbv st K i t) t (.bool (fb st K t i || (fire (st t) (K i)).isSome)) = fbv st K i (t + 1) := by
  funext q
  unfold upd fbv
  by_cases h : q = t
  · subst h; simp [fb]
  · rw [if_neg h]
    by_cases h1 : q < t
    · rw [if_pos h1, if_pos (by omega)]
    · rw [if_neg h1, if_neg (by omega)]
/-- What holds between the rounds: the bools in their block, all that lay ahead of it as it was. -/
def SnR (w5 wr : World) (k : Nat) (f : Nat → Value) : Prop := Blk wr w5.heap.size k f 4 ∧ Below w5.heap.size w5 wr ∧ w5.heap.size < wr.heap.size
theorem SnR.down {w5 wr w' : World} {k : Nat} {f : Nat → Value} (h : SnR w5 wr k f) (hb : Below wr.heap.size wr w') : SnR w5 w' k f :=
  ⟨h.1.down hb, h.2.1.trans (hb.mono h.2.1.size), Nat.lt_of_lt_of_le h.2.2 hb.size⟩
end M
/-- What both texts tell. -/
def SndA (st : Nat → Sp) (k n : Nat) (r : Option Bs) (e : Ending) : Prop :=
  match r with
  | none => e = .returned (.tuple #[.bool false, .bool false])
  | some s => ∃ z, e = .returned (.tuple #[.bool z, .bool true]) ∧ (z = true ↔ Snd st k s (n - 1) (one (n - 1)))
theorem fra_form {n : Nat} {r : Option Bs} {e : Ending} {w' : World} (h : FrA n r e w') : ∃ r1 r2 bo, r.isSome = bo ∧ e = .returned (.tuple #[r1, r2, .bool bo]) := by
  cases r with
  | none => exact ⟨_, _, false, rfl, h⟩
  | some s => obtain ⟨r1, r2, pb, he, -⟩ := h; exact ⟨r1, r2, true, rfl, he⟩
theorem ints_cell {w : World} {g n c : Nat} {f : Nat → Int} (h : IntsOf w (.slice (some ⟨g, 0, none⟩) n c) n f) {q : Nat} (hq : q < n) : g < w.heap.size ∧ w.cell? ⟨g, q, none⟩ = some (.int .i64 (f q)) := by
  obtain ⟨a, cap, he, hr⟩ := h
  simp only [Value.slice.injEq, true_and] at he
  obtain ⟨b, off, ha, hb, hc⟩ := hr (by omega)
  rw [← he.1] at ha
  simp only [Option.some.injEq, Addr.mk.injEq, and_true] at ha
  obtain ⟨rfl, rfl⟩ := ha
  have := hc q hq
  rw [Nat.zero_add] at this
  exact ⟨hb, this⟩
set_option maxRecDepth 20000 in
set_option maxHeartbeats 4000000 in
theorem spec_sound (n : Nat) (v : Value) (k : Nat) (st : Nat → Sp) (r : Option Bs) (w : World) (hv : StepsOf w v k st) (hs : Short k st) (h : GoodN (n : Int) k st) (hn2 : 2 ≤ n) (hr : foundB st k (one 0) = r) :
    Calls Try.prog 40 #[netV (n : Int) v] w fun e w' => SndA st k n r e ∧ Below w.heap.size w w' := by
  have HV := hide hv
  have HS := hide hs
  have HR := hide hr
  obtain ⟨a, cap, rfl, hrS⟩ := hv
  have HRs := hide hrS
  have hk := hs.1
  have hk12 : k ≤ 12 := h.2.1
  have hn8 : n ≤ 8 := by have := h.1.2; omega
  have HGood := hide (show decide (GoodN (n : Int) k st) = true by rw [decide_eq_true_eq]; exact h)
  have HG := hide h.2.2
  have HM := hide (show Mk n (one 0) from one_mk (by omega))
  have hbA := (Below.refl w.heap.size w).alloc (Nat.le_refl _) (.cells #[.int .i64 (n : Int), .slice a k cap] 29)
  have hN := Blk.fresh w _ 2 (p2 (.int .i64 (n : Int)) (.slice a k cap)) 29 rfl
  obtain ⟨l, rfl⟩ : ∃ l, n = l + 1 := ⟨n - 1, by omega⟩
  have hl1 : 1 ≤ l := by omega
  have hl0 : ¬ (((l + 1 : Nat) : Int) < 2) := by omega
  have HMl := hide (show Mk (l + 1) (one l) from one_mk (by omega))
  clear hs h hr hrS
  go_enter Try.func40, Try.ntmps40
  go_wp2_with fail
  refine (spec_good _ _ k st _ _ (HV.out.below hbA) HS.out HGood.out).mono ?_
  rintro e w1 ⟨rfl, hb⟩
  have hb1 := hbA.trans (hb.mono hbA.size)
  have HN1 := hide (hN.down hb)
  obtain ⟨d0, d1, -, -⟩ := HN1.out.pair
  clear hN hb hbA HGood
  go_wp2_with fail
  refine (l3one (l + 1) l _ hn8 (by omega)).mono ?_
  rintro e w2 ⟨⟨rfl, hE⟩, hb⟩
  have hb2 := hb1.trans (hb.mono hb1.size)
  have HN2 := hide ((HN1.out.down hb).drew)
  have HE2 := hide (hE.ints (cap := l + 1))
  clear hb d0 d1 HN1 hE hb1
  go_upto_region 4 with fail
  have hc2 : w2.drew.cell? ⟨w.heap.size, 0, none⟩ = some (.int .i64 ((l : Int) + 1)) ∧ w2.drew.cell? ⟨w.heap.size, 1, none⟩ = some (.slice a k cap) := ⟨HN2.out.pair.1, HN2.out.pair.2.1⟩
  go_region_held (fun W => W.cell? ⟨w.heap.size, 0, none⟩ = some (.int .i64 ((l : Int) + 1)) ∧ W.cell? ⟨w.heap.size, 1, none⟩ = some (.slice a k cap)) (first | exact hc4 | exact hc3 | exact hc2) (first
    | (go_at_call 66; refine (l3one (l + 1) 0 _ hn8 (by omega)).mono ?_; rintro e w3 ⟨⟨rfl, hO3⟩, hb3⟩; have hN3 := HN2.out.down hb3; have hc3 : w3.cell? ⟨w.heap.size, 0, none⟩ = some (.int .i64 ((l : Int) + 1)) ∧ w3.cell? ⟨w.heap.size, 1, none⟩ = some (.slice a k cap) := ⟨hN3.pair.1, hN3.pair.2.1⟩; have hbw3 := hb2.drew.trans (hb3.mono hb2.size); have hbe3 := (Below.refl w2.heap.size w2).drew.trans hb3)
    | (go_at_call 59; refine (l3from (l + 1) _ k st _ (one 0) _ (HV.out.below hbw3) hO3.ints HS.out (by omega) hn8 HG.out HM.out).mono ?_; rintro e w4 ⟨hF, hb4⟩; obtain ⟨r1, r2, bo, hbi, rfl⟩ := fra_form hF; have hN4 := hN3.down hb4; have hc4 : w4.cell? ⟨w.heap.size, 0, none⟩ = some (.int .i64 ((l : Int) + 1)) ∧ w4.cell? ⟨w.heap.size, 1, none⟩ = some (.slice a k cap) := ⟨hN4.pair.1, hN4.pair.2.1⟩; have hbw4 := hbw3.trans (hb4.mono hbw3.size); have hbe4 := hbe3.trans (hb4.mono hbe3.size)))
  have HE4 := hide (HE2.out.below hbe4)
  have HN4 := hide hN4
  rw [HR.out] at hF hbi
  clear hc2 hc3 hc4 hN3 hN4 hO3 hb3 hb4 hbw3 hbe3 hbe4 HN2 HE2 hb2
  cases r with
  | none =>
    obtain rfl : bo = false := hbi.symm
    clear hF hbi HE4 HN4 HV HS HRs HG HM HR
    go_wp2
    go_ret2
    exact ⟨rfl, hbw4⟩
  | some s =>
    obtain rfl : bo = true := hbi.symm
    clear hbi
    obtain ⟨q1, q2, pb, he, -, hO, -⟩ := hF
    simp only [Ending.returned.injEq, Value.tuple.injEq, Array.mk.injEq, List.cons.injEq, and_true] at he
    obtain ⟨rfl, rfl, -⟩ := he
    have hok := allB_ok HG.out HM.out HR.out
    have hmost := hok.most
    have HOk := hide hok
    obtain ⟨ao, co, rfl⟩ := hO.form
    have HO := hide hO
    have hmk := make_boolS k (by omega)
    obtain ⟨d0, d1, -, -⟩ := HN4.out.pair
    have HS0 := hide (show SnR w4 (w4.alloc (.cells (cf k (fun _ => .bool false)) 4)) k (fun q => .bool (fb st s.M q 0)) from ⟨Blk.new w4 k _ 4, (Below.refl w4.heap.size w4).alloc (Nat.le_refl _) _, by simp⟩)
    clear hO hok
    go_wp2_with fail
    clear d0 d1 hmk
    go_loopw [51] (fun y wr => ∃ i : Nat, i ≤ s.c ∧ y = .int .i64 (i : Int) ∧ Hid (∀ j, j < i → (0 < s.M j l → s.M j = one l) ∧ Rch st k (s.M j) (one l)) ∧ Hid (SnR w4 wr k (fun q => .bool (fb st s.M q i)))) (fun y _ => s.c - (intOf y).toNat)
    case atStart => exact ⟨0, by omega, rfl, hide (fun j h => by omega), HS0⟩
    case round =>
      rename World => wo
      obtain ⟨i, hi, rfl, HA, HB⟩ := hrel
      by_cases hlt : i < s.c
      · obtain ⟨ob, oc, go, gc, he, d2, hio⟩ := HO.out.at hlt
        simp only [Value.slice.injEq, true_and] at he
        obtain ⟨rfl, rfl⟩ := he
        have hbo := HB.out.2.1
        have c2 := (hbo.cell (p := ⟨ob, i, none⟩) (World.block_lt_of_cell? _ _ d2)).trans d2
        obtain ⟨d0, d1, -, -⟩ := (HN4.out.down hbo).pair
        obtain ⟨hgl, hcl⟩ := ints_cell hio (show l < l + 1 by omega)
        have c3 := (hbo.cell (p := ⟨go, l, none⟩) hgl).trans hcl
        have HIo := hide hio
        have HMi := hide (HOk.out.mark i hlt)
        have hi0 : (0 : Int) ≤ (i : Int) := by omega
        have hi1 : (i : Int) < (s.c : Int) := by omega
        have hll0 : (0 : Int) ≤ (l : Int) := by omega
        obtain ⟨y, hy⟩ : ∃ y, (decide (0 < s.M i l) && !(veq8 (s.M i) (one l))) = y := ⟨_, rfl⟩
        have HY := hide hy
        obtain ⟨x, hx⟩ : ∃ x, s.M i l = x := ⟨_, rfl⟩
        have HX := hide hx
        rw [hx] at c3
        clear hcl hio d2 hy hx HS0
        go_upto_region 11 with fail
        go_cut [67] from 55 to 67 (fun bb wx => bb = .bool y ∧ Hid (SnR w4 wx k (fun q => .bool (fb st s.M q i))))
        case first =>
          by_cases hp : 0 < x
          · have hd : decide (0 < x) = true := decide_eq_true hp
            obtain ⟨b, hb⟩ : ∃ b, veq8 (s.M i) (one l) = b := ⟨_, rfl⟩
            obtain rfl : y = !b := by rw [← HY.out, HX.out, hd, hb]; rfl
            have HBb := hide hb
            clear hb
            go_wp2_with fail
            refine (l3same _ _ (l + 1) (s.M i) (one l) b _ (HIo.out.below hbo) (HE4.out.below hbo) hn8 HMi.out HMl.out HBb.out).mono ?_
            rintro e wx ⟨rfl, hb⟩
            have HBx := hide (HB.out.down hb)
            clear hb hbo d0 d1 c2 c3 HB
            go_wp2_with fail
            go_meet
            exact ⟨rfl, HBx⟩
          · have hd : decide (0 < x) = false := decide_eq_false hp
            obtain rfl : y = false := by rw [← HY.out, HX.out, hd]; rfl
            go_wp2_with fail
            go_meet
            exact ⟨rfl, HB⟩
        case rest =>
          rename World => wc
          obtain ⟨rfl, HBc⟩ := hcut
          clear d0 d1 c2 c3 hbo HB
          have hbc := HBc.out.2.1
          cases y with
          | true =>
            have HZ := hide (show (false = true ↔ Snd st k s l (one l)) from by
              constructor
              · intro h; cases h
              · intro h
                have h1 := HY.out
                rw [Bool.and_eq_true, decide_eq_true_eq, Bool.not_eq_true'] at h1
                have h2 := (h.1 i hlt).1 h1.1
                rw [(mk_eq hn8 HMi.out HMl.out).2 h2] at h1
                cases h1.2)
            have hbz := hbw4.trans (hbc.mono hbw4.size)
            clear hbc HBc HA HY HX HMi HIo HE4 HN4 HO HOk HV HS HRs HG HM HMl HR
            go_wp2
            go_ret2
            exact ⟨⟨false, rfl, HZ.out⟩, hbz⟩
          | false =>
            have HF1 := hide (show 0 < s.M i l → s.M i = one l from fun h => by
              have h1 := HY.out
              rw [decide_eq_true h, Bool.true_and, Bool.not_eq_false'] at h1
              exact (mk_eq hn8 HMi.out HMl.out).1 h1)
            obtain ⟨d0, d1, -, -⟩ := (HN4.out.down hbc).pair
            clear HY HX hbc
            go_wp2_with fail
            clear d0 d1
            go_loopw [71] (fun z wr => ∃ t : Nat, t ≤ k ∧ z = .int .i64 (t : Int) ∧ Hid (SnR w4 wr k (fbv st s.M i t))) (fun z _ => k - (intOf z).toNat)
            case atStart => exact ⟨0, by omega, rfl, hide (by rw [fbv_zero]; exact HBc.out)⟩
            case round =>
              rename World => wq
              obtain ⟨t, htk, rfl, HQ⟩ := hrel
              have hbq := hbw4.trans (HQ.out.2.1.mono hbw4.size)
              by_cases htl : t < k
              · obtain ⟨bb, off, rfl, hbb, hrw⟩ := HRs.out (by omega)
                obtain ⟨vx, vy, z1, z2, ix, iy⟩ := hrw t htl
                obtain ⟨ax, cx, rfl⟩ := ix.form
                obtain ⟨ay, cy, rfl⟩ := iy.form
                have c0 := (hbq.cell (p := ⟨bb, off + t * 2, none⟩) hbb).trans z1
                have c1 := (hbq.cell (p := ⟨bb, off + t * 2 + 1, none⟩) hbb).trans z2
                have ht0 : (0 : Int) ≤ (t : Int) := by omega
                have ht1 : (t : Int) < (k : Int) := by omega
                have hbB := (Below.refl wq.heap.size wq).alloc (Nat.le_refl _) (.cells #[.slice ax (st t).ni cx, .slice ay (st t).no cy] 60)
                obtain ⟨k0, k1, -, -⟩ := (Blk.fresh wq #[.slice ax (st t).ni cx, .slice ay (st t).no cy] 2 (p2 (.slice ax (st t).ni cx) (.slice ay (st t).no cy)) 60 rfl).pair
                have HQB := hide (HQ.out.down hbB)
                have hbqB := hbq.trans (hbB.mono hbq.size)
                obtain ⟨fr, hfr⟩ : ∃ fr, fire (st t) (s.M i) = fr := ⟨_, rfl⟩
                have HFr := hide hfr
                have HIx := hide ix
                have HIy := hide iy
                clear z1 z2 hrw ix iy hbq HQ hfr hbB
                go_wp2_with fail
                refine (l3fire_own _ _ _ (st t) (l + 1) (s.M i) fr _ (HIx.out.below hbqB) (HIy.out.below hbqB) (HIo.out.below HQB.out.2.1) (HG.out t htl) (by omega) hn8 HMi.out HFr.out).mono ?_
                rintro e w7 ⟨⟨R, rfl, -⟩, hb7⟩
                have hQ7 := HQB.out.down hb7
                obtain ⟨y0, hy0⟩ : ∃ y0, fb st s.M t i = y0 := ⟨_, rfl⟩
                have cF := hQ7.1.cell htl
                rw [show fbv st s.M i t t = .bool y0 by unfold fbv; rw [if_neg (by omega), hy0]] at cF
                have tF := hQ7.1.thaw t
                have HQ8 := hide (show ∀ b, b = (y0 || fr.isSome) → SnR w4 (w7.setCell ⟨w4.heap.size, t, none⟩ (.bool b)) k (fbv st s.M i (t + 1)) from by
                  rintro b rfl
                  refine ⟨?_, hQ7.2.1.setCell (Nat.le_refl _) _, by rw [World.size_setCell]; exact hQ7.2.2⟩
                  have h9 := hQ7.1.set t (.bool (y0 || fr.isSome))
                  rw [← hy0, ← HFr.out, fbv_succ] at h9
                  rw [← hy0, ← HFr.out]
                  exact h9)
                generalize fr.isSome = can at *
                clear hQ7 hb7 HQB hbqB HFr hy0 k0 k1 c0 c1 HIx HIy
                cases y0
                all_goals
                  go_wp2
                  exact ⟨⟨t + 1, by omega, by go_num, hide (HQ8.out _ (by cases can <;> rfl))⟩, by simp [intOf]; omega⟩
              · obtain rfl : t = k := by omega
                have HQ2 := hide (show SnR w4 wq t (fun q => .bool (fb st s.M q (i + 1))) from ⟨HQ.out.1.ext (fun q hq => by unfold fbv; rw [if_pos hq]), HQ.out.2⟩)
                obtain ⟨ls, hls, hiff⟩ := sub_found hn8 HG.out HM.out HR.out hlt
                have HLs := hide hls
                have HIff := hide hiff
                have HLk := hide (allB_ok HG.out HMi.out hls)
                obtain ⟨d0, d1, -, -⟩ := (HN4.out.down HQ.out.2.1).pair
                clear htl HQ hls hiff HBc
                go_wp2_with fail
                refine (l3from (l + 1) _ t st _ (s.M i) _ (HV.out.below hbq) (HIo.out.below HQ2.out.2.1) HS.out (by omega) hn8 HG.out HMi.out).mono ?_
                rintro e w8 ⟨hF8, hb8⟩
                rw [HLs.out] at hF8
                obtain ⟨r81, r82, pb8, rfl, -, hO8, -⟩ := hF8
                have HQ8 := hide (HQ2.out.down hb8)
                have HO8 := hide hO8
                have hm8 := HLk.out.most
                obtain ⟨a8, c8, rfl⟩ := hO8.form
                clear hO8 hb8 d0 d1 hbq HQ2
                go_wp2_with fail
                refine (l3at _ _ ls.c (l + 1) ls.M (one l) _ HO8.out.intss (HE4.out.below HQ8.out.2.1) (by omega) hn8 HLk.out.mark HMl.out).mono ?_
                rintro e w9 ⟨hat, hb9⟩
                have HQ9 := hide (HQ8.out.down hb9)
                clear hb9 HQ8 HO8
                rcases hat with ⟨hkn, rfl⟩ | ⟨d, hd, -, hyes, rfl⟩
                · have HZ := hide (show (false = true ↔ Snd st t s l (one l)) from by
                    constructor
                    · intro h; cases h
                    · intro h
                      have h2 := (kn_is hn8 HLk.out.mark HMl.out).2 ((HIff.out (one l)).2 (h.1 i hlt).2)
                      rw [hkn] at h2
                      cases h2)
                  have hbz := hbw4.trans (HQ9.out.2.1.mono hbw4.size)
                  clear HQ9 HA HMi HIo HE4 HN4 HO HOk HV HS HRs HG HM HMl HR HF1 HLs HIff HLk hkn
                  go_wp2
                  go_ret2
                  exact ⟨⟨false, rfl, HZ.out⟩, hbz⟩
                · have HA2 := hide (show ∀ j, j < i + 1 → (0 < s.M j l → s.M j = one l) ∧ Rch st t (s.M j) (one l) from fun j hj => by
                    rcases (show j < i ∨ j = i by omega) with h | h
                    · exact HA.out j h
                    · rw [h]
                      exact ⟨HF1.out, (HIff.out (one l)).1 ⟨d, hd, ((mk_eq hn8 HMl.out (HLk.out.mark d hd)).1 hyes).symm⟩⟩)
                  have hd0 : ¬ ((d : Int) < 0) := by omega
                  clear HA HMi HIo HE4 HN4 HO HOk HF1 HLs HIff HLk hyes hd
                  go_wp2
                  exact ⟨⟨i + 1, by omega, by go_num, HA2, HQ9⟩, by simp [intOf]; omega⟩
      · obtain rfl : i = s.c := by omega
        clear HE4 HN4 HO HOk HV HS HRs HG HM HMl HR HS0
        go_wp2_with fail
        go_loopw [107] (fun z wr => ∃ t : Nat, t ≤ k ∧ z = .int .i64 (t : Int) ∧ Hid (∀ q, q < t → fb st s.M q s.c = true) ∧ wr = wo) (fun z _ => k - (intOf z).toNat)
        case atStart => exact ⟨0, by omega, rfl, hide (fun q h => by omega), rfl⟩
        case round =>
          obtain ⟨t, htk, rfl, HT, rfl⟩ := hrel
          have hbz := hbw4.trans (HB.out.2.1.mono hbw4.size)
          by_cases htl : t < k
          · obtain ⟨y0, hy0⟩ : ∃ y0, fb st s.M t s.c = y0 := ⟨_, rfl⟩
            have cF := HB.out.1.cell htl
            simp only [hy0] at cF
            have ht0 : (0 : Int) ≤ (t : Int) := by omega
            have ht1 : (t : Int) < (k : Int) := by omega
            cases y0 with
            | false =>
              have HZ := hide (show (false = true ↔ Snd st k s l (one l)) from by
                constructor
                · intro h; cases h
                · intro h
                  rw [(fb_iff st s.M t s.c).2 (h.2 t htl)] at hy0
                  cases hy0)
              clear HT HA HB hy0
              go_wp2
              go_ret2
              exact ⟨⟨false, rfl, HZ.out⟩, hbz⟩
            | true =>
              have HT2 := hide (show ∀ q, q < t + 1 → fb st s.M q s.c = true from fun q hq => by
                rcases (show q < t ∨ q = t by omega) with h | h
                · exact HT.out q h
                · rw [h]; exact hy0)
              clear HT HA hy0
              go_wp2
              exact ⟨⟨t + 1, by omega, by go_num, HT2, trivial⟩, by simp [intOf]; omega⟩
          · obtain rfl : t = k := by omega
            have HZ := hide (show (true = true ↔ Snd st t s l (one l)) from by
              constructor
              · intro _; exact ⟨HA.out, fun q hq => (fb_iff st s.M q s.c).1 (HT.out q hq)⟩
              · intro _; rfl)
            clear HT HA HB htl
            go_wp2
            go_ret2
            exact ⟨⟨true, rfl, by simpa using HZ.out⟩, hbz⟩
end Go.Proofs.Ythilapalgakhhaa

/-
  The specification's PlayNet.
-/
import Derived.Test.YthilapalgakhhaaNetFireS
namespace Go.Proofs.Ythilapalgakhhaa
open Go.RowKit M
open Clk (upd upd_same upd_other)
namespace M
def play (st : Nat → Sp) (l : Nat → Int) (m : Nat → Int) : Nat → (Nat → Int) × Nat
  | 0 => (m, 0)
  | j + 1 => match fire (st (l j).toNat) (play st l m j).1 with
    | none => play st l m j
    | some c => (c, (play st l m j).2 + 1)
theorem play_none {st : Nat → Sp} {l m : Nat → Int} {j : Nat} (h : fire (st (l j).toNat) (play st l m j).1 = none) : play st l m (j + 1) = play st l m j := by simp only [play, h]
theorem play_some {st : Nat → Sp} {l m c : Nat → Int} {j : Nat} (h : fire (st (l j).toNat) (play st l m j).1 = some c) : play st l m (j + 1) = (c, (play st l m j).2 + 1) := by simp only [play, h]
theorem play_ok {p k t : Nat} {st : Nat → Sp} {l m : Nat → Int} (hg : ∀ i, i < k → GoodS p (st i)) (hm : Mk p m) (hl : All t l 0 ((k : Int) - 1)) : ∀ j, j ≤ t → Mk p (play st l m j).1 ∧ (play st l m j).2 ≤ j
  | 0, _ => ⟨hm, Nat.le_refl _⟩
  | j + 1, hj => by
    have h0 := play_ok hg hm hl j (by omega)
    have hlj := hl j (by omega)
    cases e : fire (st (l j).toNat) (play st l m j).1 with
    | none => rw [play_none e]; exact ⟨h0.1, by omega⟩
    | some c => rw [play_some e]; exact ⟨fire_mk (hg _ (by omega)) h0.1 e, by have := h0.2; show (play st l m j).2 + 1 ≤ j + 1; omega⟩
def POk (p : Int) (k : Nat) (st : Nat → Sp) (n : Nat) (f : Nat → Int) (t : Nat) (l : Nat → Int) : Prop := (NOk p k st n f ∧ t ≤ 200) ∧ All t l 0 ((k : Int) - 1)
end M
set_option maxHeartbeats 1000000 in
theorem spec_play_no (p : Int) (v : Value) (k : Nat) (st : Nat → Sp) (u : Value) (n : Nat) (f : Nat → Int) (t : Value) (m : Nat) (cs : Nat → Int) (w : World) (hv : StepsOf w v k st) (hu : IntsOf w u n f) (ht : IntsOf w t m cs) (hs : Short k st) (hn : n ≤ 1048576) (hm : m ≤ 1048576) (h : ¬ (NOk p k st n f ∧ m ≤ 200)) :
    Calls Try.prog 27 #[netV p v, u, t] w fun e w' => e = .returned (.tuple #[.slice none 0 0, .int .i64 0, .bool false]) ∧ Below w.heap.size w w' := by
  have HV := hide hv
  have HU := hide hu
  have HS := hide hs
  obtain ⟨a, cap, rfl⟩ := hv.form
  obtain ⟨a2, cap2, rfl⟩ := hu.form
  obtain ⟨a3, cap3, rfl⟩ := ht.form
  have hk := hs.1
  have hbA := (Below.refl w.heap.size w).alloc (Nat.le_refl _) (.cells #[.int .i64 p, .slice a k cap] 29)
  have hN := Blk.fresh w _ 2 (p2 (.int .i64 p) (.slice a k cap)) 29 rfl
  clear hv hu hs ht
  by_cases hg : GoodN p k st
  · have HGood := hide (show decide (GoodN p k st) = true by rw [decide_eq_true_eq]; exact hg)
    by_cases hm' : MOk n f p
    · have HMk := hide (show decide (MOk n f p) = true by rw [decide_eq_true_eq]; exact hm')
      have hne : ((m : Int) > 200) := by have : ¬ m ≤ 200 := fun e => h ⟨⟨hg, hm'⟩, e⟩; omega
      clear h hg hm'
      go_enter Try.func27, Try.ntmps27
      go_wp2_with fail
      refine (spec_good p _ k st _ _ (HV.out.below hbA) HS.out HGood.out).mono ?_
      rintro e w1 ⟨rfl, hb⟩
      have hb1 := hbA.trans (hb.mono hbA.size)
      have hN1 := hN.down hb
      obtain ⟨d0, d1, -, -⟩ := hN1.pair
      clear hN hb hbA HGood
      go_wp2_with fail
      refine (l3mark_to p _ _ _ _ n f _ _ (HU.out.below hb1) hn HMk.out).mono ?_
      rintro e w2 ⟨rfl, hb⟩
      have hb2 := hb1.trans (hb.mono hb1.size)
      clear hN1 hb hb1 HMk d0 d1 HV HU HS
      go_wp2
      go_ret3
      exact ⟨rfl, hb2⟩
    · have HMk := hide (show decide (MOk n f p) = false by rw [decide_eq_false_iff_not]; exact hm')
      clear h hg hm'
      go_enter Try.func27, Try.ntmps27
      go_wp2_with fail
      refine (spec_good p _ k st _ _ (HV.out.below hbA) HS.out HGood.out).mono ?_
      rintro e w1 ⟨rfl, hb⟩
      have hb1 := hbA.trans (hb.mono hbA.size)
      obtain ⟨d0, d1, -, -⟩ := (hN.down hb).pair
      clear hN hb hbA HGood
      go_wp2_with fail
      refine (l3mark_to p _ _ _ _ n f _ _ (HU.out.below hb1) hn HMk.out).mono ?_
      rintro e w2 ⟨rfl, hb⟩
      have hb2 := hb1.trans (hb.mono hb1.size)
      clear hb hb1 HMk d0 d1 HV HU HS
      go_wp2
      go_ret3
      exact ⟨rfl, hb2⟩
  · have HGood := hide (show decide (GoodN p k st) = false by rw [decide_eq_false_iff_not]; exact hg)
    clear h hg hN
    go_enter Try.func27, Try.ntmps27
    go_wp2_with fail
    refine (spec_good p _ k st _ _ (HV.out.below hbA) HS.out HGood.out).mono ?_
    rintro e w1 ⟨rfl, hb⟩
    have hb1 := hbA.trans (hb.mono hbA.size)
    clear hb hbA HGood HV HU HS
    go_wp2
    go_ret3
    exact ⟨rfl, hb1⟩
set_option maxRecDepth 20000 in
set_option maxHeartbeats 1000000 in
theorem spec_play (v : Value) (k : Nat) (st : Nat → Sp) (u : Value) (n : Nat) (f : Nat → Int) (t : Value) (m : Nat) (l : Nat → Int) (b : Bool) (w : World) (hv : StepsOf w v k st) (hu : IntsOf w u n f) (ht : IntsOf w t m l) (hs : Short k st) (h : NOk (n : Int) k st n f) (hm : m ≤ 200) (hb : decide (All m l 0 ((k : Int) - 1)) = b) :
    Calls Try.prog 27 #[netV (n : Int) v, u, t] w fun e w' => (∃ R, e = .returned (.tuple #[R, .int .i64 (if b = true then (((play st l (pad n f) m).2 : Nat) : Int) else 0), .bool b]) ∧ Fired w' n (if b = true then some (play st l (pad n f) m).1 else none) R) ∧ Below w.heap.size w w' := by
  obtain ⟨i0, hi, hz0, hz1, hz2⟩ := info_parts info_int
  have HV := hide hv
  have HU := hide hu
  have HS := hide hs
  have hk := hs.1
  have hn8 : n ≤ 8 := by have := h.1.1.2; omega
  have hn1 : 1 ≤ n := by have := h.1.1.1; omega
  have HGk := hide h.1.2.2
  have HMk := hide h.mk
  have HGood := hide (show decide (GoodN (n : Int) k st) = true by rw [decide_eq_true_eq]; exact h.1)
  have HMo := hide (show decide (MOk n f (n : Int)) = true by rw [decide_eq_true_eq]; exact h.2)
  have HB := hide hb
  have hle : ¬ ((m : Int) > 200) := by omega
  obtain ⟨a, cap, rfl, hrow⟩ := hv
  obtain ⟨a2, cap2, rfl, hru⟩ := hu
  obtain ⟨bu, ou, rfl, hbu, hrowu⟩ := hru (by omega)
  obtain ⟨a3, cap3, rfl, hrt⟩ := ht
  have HR := hide hrow
  have HRT := hide hrt
  have HRU := hide hrowu
  have hbA := (Below.refl w.heap.size w).alloc (Nat.le_refl _) (.cells #[.int .i64 (n : Int), .slice a k cap] 29)
  have hNb := Blk.fresh w _ 2 (p2 (.int .i64 (n : Int)) (.slice a k cap)) 29 rfl
  clear hs h hrow hrt hru hrowu hb
  go_enter Try.func27, Try.ntmps27
  go_wp2_with fail
  refine (spec_good _ _ k st _ _ (HV.out.below hbA) HS.out HGood.out).mono ?_
  rintro e w1 ⟨rfl, hb⟩
  have hb1 := hbA.trans (hb.mono hbA.size)
  have hN1 := hNb.down hb
  obtain ⟨d0, d1, -, -⟩ := hN1.pair
  clear hNb hb hbA HGood
  go_wp2_with fail
  refine (l3mark_to _ _ _ _ _ n f _ _ (HU.out.below hb1) (by omega) HMo.out).mono ?_
  rintro e w2 ⟨rfl, hb⟩
  have hb2 := hb1.trans (hb.mono hb1.size)
  have hN2 := hN1.down hb
  have hlN := hN2.lt
  clear hN1 hb hb1 HMo d0 d1 HV HU HS
  have hbC := hb2.alloc hb2.size (.cells #[] 3)
  go_wp2_with (at_builtin; refine wpList_append_own _ rfl _ _ 33 rfl w2.heap.size 3 i0 _ 1 8 Try.underlying33 hi hz0 hz1 hz2 rfl (by decide) _ 0 [] rfl ?own ⟨bu, ou, none⟩ n cap2 ((List.range n).map (iv (pad n f))) rfl ?c0 ?c1 ?c2 ?c3 ?c4 ?c5 ?_)
  case own => exact World.ownsRow_made (base := w2.heap.size) (e := 3) (size := 1) w2 #[] 0 (Nat.le_refl _) (Nat.zero_le _) rfl
  case c0 => simp
  case c1 =>
    intro j u hj
    have hjn : j < n := by have := (List.getElem?_eq_some_iff.1 hj).1; simpa using this
    rw [List.getElem?_map, List.getElem?_range hjn] at hj
    simp only [Option.map_some, Option.some.injEq] at hj
    subst hj
    rw [Addr.add_lit]
    refine (hbC.cell (p := ⟨bu, ou + j, none⟩) hbu).trans ((HRU.out j hjn).trans ?_)
    unfold iv; rw [pad_at hjn]
  case c2 => intro u hu; obtain ⟨j, _, rfl⟩ := List.mem_map.1 hu; rfl
  case c3 => unfold maxLen; omega
  case c4 => omega
  case c5 => simp
  intro v' w4 hown4 hgrow _
  obtain ⟨g, capg, rfl, hBg, hOB⟩ := own_b (by simpa using hown4) (by omega)
  have hb4 : Below w.heap.size w w4 := hbC.grown hgrow hbC.size (fun j hj => by simp [Value.ownBlock] at hj; have := hb2.size; omega)
  have hN4 : Blk w4 w.heap.size 2 (p2 (.int .i64 (n : Int)) (.slice a k cap)) 29 := by
    have h0 := hN2.alloc (.cells #[] 3)
    unfold Blk at h0 ⊢
    rw [hgrow.block w.heap.size (by simp; omega) (by simp [Value.ownBlock]; omega)]
    exact h0
  have H4 := hide (And.intro hOB.ints (And.intro hN4 hb4))
  clear hown4 hgrow hOB hN4 hb4 hbC hN2 hb2 HRU hi hz0 hz1 hz2
  go_wp2
  go_loopw [9, 10, 34] (fun xo xm y wr => ∃ (j : Nat) (ao : Option Addr) (co : Nat), j ≤ m ∧ y = .int .i64 j ∧ xo = .slice ao n co ∧ xm = .int .i64 (((play st l (pad n f) j).2 : Nat) : Int) ∧ Hid (All j l 0 ((k : Int) - 1)) ∧ Hid (IntsOf wr (.slice ao n co) n (play st l (pad n f) j).1 ∧ Blk wr w.heap.size 2 (p2 (.int .i64 (n : Int)) (.slice a k cap)) 29 ∧ Below w.heap.size w wr)) (fun _ _ y _ => m - (intOf y).toNat)
  case atStart => exact ⟨0, _, _, Nat.zero_le _, rfl, rfl, rfl, hide (fun j hj => absurd hj (by omega)), H4⟩
  case round =>
    obtain ⟨j, ao, co, hjm, rfl, rfl, rfl, HA, HBo⟩ := hrel
    obtain ⟨hc, hN, hbw⟩ := HBo.out
    have hP := play_ok HGk.out HMk.out HA.out j (Nat.le_refl _)
    have hP2 : (play st l (pad n f) j).2 ≤ 200 := by omega
    by_cases hlt : j < m
    · obtain ⟨b3, o3, rfl, hb3, hrow3⟩ := HRT.out (by omega)
      have hT := (hbw.cell (p := ⟨b3, o3 + j, none⟩) hb3).trans (hrow3 j hlt)
      obtain ⟨e0, e1, -, -⟩ := hN.pair
      by_cases hci : 0 ≤ l j ∧ l j ≤ (k : Int) - 1
      · have HW := hide (show decide (0 ≤ l j ∧ l j ≤ (k : Int) - 1) = true by rw [decide_eq_true_eq]; exact hci)
        have HA2 := hide (show All (j + 1) l 0 ((k : Int) - 1) from fun i hi => by
          rcases (show i < j ∨ i = j by omega) with h | h
          · exact HA.out i h
          · subst h; exact hci)
        obtain ⟨i, hli⟩ := Int.eq_ofNat_of_zero_le hci.1
        have hik : i < k := by omega
        have hlt2 : (l j).toNat = i := by omega
        obtain ⟨bb, off, rfl, hbb, hrow⟩ := HR.out (by omega)
        obtain ⟨x, y, q1, q2, i1, i2⟩ := hrow i hik
        obtain ⟨ax, cx, rfl⟩ := i1.form
        obtain ⟨ay, cy, rfl⟩ := i2.form
        have c0 := (hbw.cell (p := ⟨bb, off + i * 2, none⟩) hbb).trans q1
        have c1 := (hbw.cell (p := ⟨bb, off + i * 2 + 1, none⟩) hbb).trans q2
        have I1 := hide (i1.below hbw)
        have I2 := hide (i2.below hbw)
        have HGS := hide (HGk.out i hik)
        have HPm := hide hP.1
        have HCc := hide hc
        have HNn := hide hN
        have hi0 : (0 : Int) ≤ (i : Int) := by omega
        have hi1 : (i : Int) < (k : Int) := by omega
        rw [hli] at hT HW
        have HPl := hide (show ∀ r, fire (st i) (play st l (pad n f) j).1 = r → play st l (pad n f) (j + 1) = match r with | none => play st l (pad n f) j | some c => (c, (play st l (pad n f) j).2 + 1) from fun r hr => by subst hr; simp only [play, hlt2])
        clear hrow hrow3 q1 q2 i1 i2 HR HRT HGk HMk HA hci hP hc hN HBo H4 HB hli hlt2
        generalize play st l (pad n f) j = pj at *
        obtain ⟨M0, cnt0⟩ := pj
        simp only at hP2 HPm HCc HPl
        go_wp2_with fail
        refine (l1in_to _ _ _ _ _ HW.out).mono ?_
        rintro e w5 ⟨rfl, rfl⟩
        go_wp2_with fail
        refine (l3fire _ _ _ (st i) n M0 _ _ I1.out I2.out HCc.out HGS.out hn1 hn8 HPm.out rfl).mono ?_
        rintro e w6 ⟨⟨R, rfl, hF⟩, hb⟩
        have hb6 := hbw.trans (hb.mono hbw.size)
        have HC6 := hide (HCc.out.below hb)
        have HN6 := hide (HNn.out.down hb)
        rcases hF with ⟨hr, rfl⟩ | ⟨c, hr, hR⟩
        · have hpl := HPl.out none hr
          have HPL := hide hpl
          rw [hr]
          clear hb HW c0 c1 I1 I2 HGS HPm HCc HNn HPl hT e0 e1 hr hpl
          go_wp2
          refine ⟨⟨j + 1, _, _, by omega, by go_num, rfl, by rw [HPL.out], HA2, hide ?_⟩, by simp [intOf]; omega⟩
          rw [HPL.out]; exact ⟨HC6.out, HN6.out, hb6⟩
        · have hpl := HPl.out (some c) hr
          have HPL := hide hpl
          obtain ⟨aR, cR, rfl⟩ := hR.form
          have HRr := hide hR
          rw [hr]
          clear hb HW c0 c1 I1 I2 HGS HPm HCc HNn HPl hT e0 e1 hr hpl HC6 hR
          go_wp2
          refine ⟨⟨j + 1, _, _, by omega, by go_num, rfl, ?_, HA2, hide ?_⟩, by simp [intOf]; omega⟩
          · rw [HPL.out]; go_num
          · rw [HPL.out]; exact ⟨HRr.out, HN6.out, hb6⟩
      · have HW := hide (show decide (0 ≤ l j ∧ l j ≤ (k : Int) - 1) = false by rw [decide_eq_false_iff_not]; exact hci)
        have eb : b = false := by rw [← HB.out, decide_eq_false_iff_not]; exact fun H => hci (H j hlt)
        subst eb
        clear hrow3 HR HRT HGk HMk HA hci H4 HBo hc hN hP
        go_wp2_with fail
        refine (l1in_to _ _ _ _ _ HW.out).mono ?_
        rintro e w5 ⟨rfl, rfl⟩
        go_wp2
        go_ret3
        exact ⟨⟨_, rfl, .inl ⟨rfl, rfl⟩⟩, hbw⟩
    · obtain rfl : j = m := by omega
      have eb : b = true := by rw [← HB.out, decide_eq_true_eq]; exact HA.out
      subst eb
      have HF := hide (show Fired wr n (if true = true then some (play st l (pad n f) j).1 else none) (.slice ao n co) from .inr ⟨_, rfl, hc⟩)
      clear hc hN HBo HB HR HRT HGk HMk HA H4 hP
      go_wp2
      go_ret3
      exact ⟨⟨_, rfl, HF.out⟩, hbw⟩
end Go.Proofs.Ythilapalgakhhaa

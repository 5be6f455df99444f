/-
  GoodTellings in both texts. Condition of the program's: the table knownKinds reads as its text lays it.
-/
import Derived.Test.YtfkeokglifpkoaaDoorJoin38
import Derived.Test.YtfkeokglifpkoaaDoorJoin16
namespace Go.Proofs.YtfkeokglifpkoaaDoor
open Go.RowKit M
open Go.Sort (grow)
namespace M
def IvK (bs : Brs) (k : Nat) : Prop := (∀ i b, i < k → bs[i]? = some b → Tl b) ∧ ∀ i a b, i + 1 < k → bs[i]? = some a → bs[i + 1]? = some b → com a b ≠ a.length
theorem IvK.zero (bs : Brs) : IvK bs 0 := ⟨fun _ _ h => absurd h (Nat.not_lt_zero _), fun _ _ _ h => absurd h (Nat.not_lt_zero _)⟩
theorem IvK.succ {bs : Brs} {k : Nat} {x : Evs} (h : IvK bs k) (hx : bs[k]? = some x) (ht : Tl x) (hp : ∀ j a, j + 1 = k → bs[j]? = some a → com a x ≠ a.length) : IvK bs (k + 1) := by
  refine ⟨fun i b hi hb => ?_, fun i a b hi ha hb => ?_⟩
  · by_cases c : i = k
    · subst c; rw [hx] at hb; simp only [Option.some.injEq] at hb; subst hb; exact ht
    · exact h.1 i b (by omega) hb
  · by_cases c : i + 1 = k
    · subst c; rw [hx] at hb; simp only [Option.some.injEq] at hb; subst hb; exact hp i a rfl ha
    · exact h.2 i a b (by omega) ha hb
theorem lt_ofA {α : Type} {l : List α} {i : Nat} {x : α} (h : l[i]? = some x) : i < l.length := (List.getElem?_eq_some_iff.1 h).1
theorem IvK.good {bs : Brs} (h : IvK bs bs.length) (hl : bs.length ≤ 12) : RsK bs bs.length ↔ GdT bs := by
  constructor
  · intro hr
    refine ⟨hl, fun b hb => ?_, Ups.up (fun i a b ha hb => ⟨hr i a b (lt_ofA hb) ha hb, h.2 i a b (lt_ofA hb) ha hb⟩)⟩
    obtain ⟨i, hi, rfl⟩ := List.mem_iff_getElem.1 hb
    exact h.1 i _ hi (List.getElem?_eq_getElem hi)
  · intro hg i a b hi ha hb
    exact (hg.2.2 i (i + 1) a b (by omega) ha hb).1
theorem gd_tl {bs : Brs} {k : Nat} {x : Evs} (hx : bs[k]? = some x) (ht : ¬ Tl x) : ¬ GdT bs := fun h => ht (h.2.1 x (List.mem_of_getElem? hx))
theorem gd_no {bs : Brs} {i j : Nat} {a b : Evs} (hij : i < j) (ha : bs[i]? = some a) (hb : bs[j]? = some b) (hn : ¬ cL a b < 0 ∨ com a b = a.length) : ¬ GdT bs := fun h => by
  have := h.2.2 i j a b hij ha hb
  rcases hn with hn | hn
  · exact hn this.1
  · exact this.2 hn
/-- The specification's way: each against all ahead of it. -/
def UpK (bs : Brs) (k : Nat) : Prop := (∀ i b, i < k → bs[i]? = some b → Tl b) ∧ ∀ i j a b, i < j → j < k → bs[i]? = some a → bs[j]? = some b → cL a b < 0 ∧ com a b ≠ a.length
def InK (bs : Brs) (x : Evs) (m : Nat) : Prop := ∀ j a, j < m → bs[j]? = some a → cL a x < 0 ∧ com a x ≠ a.length
theorem UpK.zero (bs : Brs) : UpK bs 0 := ⟨fun _ _ h => absurd h (Nat.not_lt_zero _), fun _ _ _ _ _ h => absurd h (Nat.not_lt_zero _)⟩
theorem InK.zero (bs : Brs) (x : Evs) : InK bs x 0 := fun _ _ h => absurd h (Nat.not_lt_zero _)
theorem InK.succ {bs : Brs} {x a : Evs} {m : Nat} (h : InK bs x m) (ha : bs[m]? = some a) (h1 : cL a x < 0) (h2 : com a x ≠ a.length) : InK bs x (m + 1) := fun j b hj hb => by
  by_cases c : j = m
  · subst c; rw [ha] at hb; simp only [Option.some.injEq] at hb; subst hb; exact ⟨h1, h2⟩
  · exact h j b (by omega) hb
theorem UpK.succ {bs : Brs} {k : Nat} {x : Evs} (h : UpK bs k) (hx : bs[k]? = some x) (ht : Tl x) (hi : InK bs x k) : UpK bs (k + 1) := by
  refine ⟨fun i b hi hb => ?_, fun i j a b hij hj ha hb => ?_⟩
  · by_cases c : i = k
    · subst c; rw [hx] at hb; simp only [Option.some.injEq] at hb; subst hb; exact ht
    · exact h.1 i b (by omega) hb
  · by_cases c : j = k
    · subst c; rw [hx] at hb; simp only [Option.some.injEq] at hb; subst hb; exact hi i a hij ha
    · exact h.2 i j a b hij (by omega) ha hb
theorem UpK.good {bs : Brs} (h : UpK bs bs.length) : bs.length ≤ 12 ↔ GdT bs := by
  constructor
  · intro hl
    refine ⟨hl, fun b hb => ?_, fun i j a b hij ha hb => h.2 i j a b hij (lt_ofA hb) ha hb⟩
    obtain ⟨i, hi, rfl⟩ := List.mem_iff_getElem.1 hb
    exact h.1 i _ hi (List.getElem?_eq_getElem hi)
  · exact fun hg => hg.1
end M
set_option maxRecDepth 20000 in
set_option maxHeartbeats 4000000 in
theorem impl_gt (v : Value) (bs : Brs) (b : Bool) (w : World) (hv : BrsOf w v bs) (hf : FineS bs) (hkk : KK w) (hb : BP b (GdT bs)) :
    Calls Tryd.prog 24 #[.agg #[v]] w fun e w' => e = .returned (.bool b) ∧ Below w.heap.size w w' := by
  have HV := hide hv
  have HF := hide hf
  have HK := hide hkk
  have HB := hide hb
  have hn := hf.1
  obtain ⟨a, cap, rfl⟩ := hv.form
  have hal := (Below.refl w.heap.size w).alloc (Nat.le_refl _) (.cells #[.slice a bs.length cap] 31)
  have HX0 := hide (one_new w (.slice a bs.length cap) 31)
  clear hv hf hkk hb
  by_cases h12 : bs.length ≤ 12
  case neg =>
    have hgt : (bs.length : Int) > 12 := by omega
    have hgt2 : 12 < bs.length := by omega
    have HN := hide (HB.out.no (fun h => h12 h.1))
    go_enter Tryd.func24, Tryd.ntmps24
    go_wp2
    go_ret
    exact ⟨ret_bool HN.out.symm, hal⟩
  have hgt : ¬ (bs.length : Int) > 12 := by omega
  have hgt2 : ¬ 12 < bs.length := by omega
  have H12 := hide h12
  go_enter Tryd.func24, Tryd.ntmps24
  go_wp2
  go_loopw [12] (fun i wr => ∃ k : Nat, k ≤ bs.length ∧ i = .int .i64 k ∧ Hid (IvK bs k) ∧ Hid (wr.cell? ⟨w.heap.size, 0, none⟩ = some (.slice a bs.length cap)) ∧ Below w.heap.size w wr) (fun i _ => bs.length - (intOf i).toNat)
  case atStart => exact ⟨0, Nat.zero_le _, rfl, hide (IvK.zero bs), HX0, hal⟩
  case round =>
    obtain ⟨k, hk, rfl, HI, HX, hbw⟩ := hrel
    clear HX0 hal
    have hxl : w.heap.size < wr.heap.size := World.block_lt_of_cell? wr _ HX.out
    by_cases hlt : k < bs.length
    · obtain ⟨es, he⟩ : ∃ e, bs[k]? = some e := ⟨bs[k], List.getElem?_eq_getElem hlt⟩
      obtain ⟨g, off, rfl, hlg, a2, c2, hc, hs⟩ := HV.out.at he
      have hcw := (hbw.cell (p := ⟨g, off + k, none⟩) hlg).trans hc
      have hE0 := hide (HF.out.at he)
      obtain ⟨wq, hwq⟩ : ∃ wq, wr.alloc (.cells #[.slice a2 es.length c2] 43) = wq := ⟨_, rfl⟩
      have hrq : Below wr.heap.size wr wq := by rw [← hwq]; exact (Below.refl _ _).alloc (Nat.le_refl _) _
      have hbq : Below w.heap.size w wq := hbw.trans (hrq.mono hbw.size)
      have k4 := cell_regrown (show wq.cell? ⟨wr.heap.size, 0, none⟩ = some (.slice a2 es.length c2) by rw [← hwq]; exact one_new wr _ _)
      have k1 := cell_regrown ((hrq.cell (p := ⟨w.heap.size, 0, none⟩) hxl).trans HX.out)
      have HX2 := hide ((hrq.cell (p := ⟨w.heap.size, 0, none⟩) hxl).trans HX.out)
      obtain ⟨tb, htb⟩ := bp_ex (Tl es)
      have HTB := hide htb
      have HT := hide (show ∀ dd os, Calls Tryd.prog 31 #[.slice a2 es.length c2] (grow (redrawn wq dd) os) fun e' w'' => e' = .returned (.bool tb) ∧ ∃ p : Regrown, w'' = grow (redrawn wq p.d) p.os from fun dd os => Calls.regrown_of (impl_tl _ es tb _ (hs.below (hbq.trans ((below_regrown wq dd os).mono hbq.size))) hE0.out.1 hE0.out.2 (HK.out.below (Below.trans (hbq.mono (Nat.le_refl _)) ((below_regrown wq dd os).mono hbq.size))) htb))
      have HE := hide he
      have hwq' := hide hwq
      have HS := hide hs
      clear hc hs he htb hwq hrq
      cases tb
      · have HN := hide (HB.out.no (gd_tl HE.out (fun h => by have := HTB.out.yes h; cases this)))
        clear HI HF
        go_upto_region 6 with fail
        rw [hwq'.out]
        refine wp_region_quiet_below (by kernel_rfl) (by kernel_rfl) ?_
        repeat (go_big_quiet_step (with_reducible exact HT.out _ _))
        refine wpQuiet_nil ?_
        intro _ hw'
        obtain ⟨⟨dq, osq⟩, hw''⟩ := hw'
        subst hw''
        have hbw2 := hbq.trans ((below_regrown wq dq osq).mono hbq.size)
        clear HT k4 k1
        go_wp2
        go_ret
        exact ⟨ret_bool HN.out.symm, hbw2⟩
      · have htl := HTB.out.1 rfl
        have HTL := hide htl
        by_cases hk0 : k = 0
        · have hg0 : decide ((k : Int) > 0) = false := decide_eq_false (by omega)
          have hg1 : decide (0 < k) = false := decide_eq_false (by omega)
          have hg2 : decide ((0 : Int) < (k : Int)) = false := decide_eq_false (by omega)
          have HI2 := hide (HI.out.succ HE.out htl (fun j a hj => by omega))
          clear hk0 htl HI
          go_upto_region 6 with fail
          rw [hwq'.out]
          refine wp_region_quiet_below (by kernel_rfl) (by kernel_rfl) ?_
          repeat (go_big_quiet_step (with_reducible exact HT.out _ _))
          refine wpQuiet_nil ?_
          intro _ hw'
          obtain ⟨⟨dq, osq⟩, hw''⟩ := hw'
          subst hw''
          have hbw2 := hbq.trans ((below_regrown wq dq osq).mono hbq.size)
          have HX3 := hide (k1 dq osq)
          clear HT k4 k1 HX2
          go_wp2
          go_roundw
          case rel => exact ⟨k + 1, by omega, by go_num, HI2, HX3, hbw2⟩
          case measure => simp [intOf]; omega
        · obtain ⟨j, hj⟩ : ∃ j, k = j + 1 := ⟨k - 1, by omega⟩
          obtain ⟨d, hd⟩ : ∃ d, bs[j]? = some d := ⟨bs[j], List.getElem?_eq_getElem (by omega)⟩
          obtain ⟨g', off', hgg, -, a3, c3, hc3, hs3⟩ := HV.out.at hd
          simp only [Option.some.injEq, Addr.mk.injEq, and_true] at hgg
          obtain ⟨rfl, rfl⟩ := hgg
          have k7 := cell_regrown ((hbq.cell (p := ⟨g, off + j, none⟩) hlg).trans hc3)
          have hdl := (HI.out.1 j d (by omega) hd)
          have HD := hide (HF.out.at hd)
          have HS3 := hide hs3
          have HBG := hide (show ∀ dd os, Calls Tryd.prog 32 #[.slice a3 d.length c3, .slice a2 es.length c2] (grow (redrawn wq dd) os) fun e' w'' => e' = .returned (.bool (com d es == d.length)) ∧ ∃ p : Regrown, w'' = grow (redrawn wq p.d) p.os from fun dd os => Calls.regrown_of (impl_beg _ _ d es _ (HS3.out.below (hbq.trans ((below_regrown wq dd os).mono hbq.size))) (HS.out.below (hbq.trans ((below_regrown wq dd os).mono hbq.size))) HD.out.1 hE0.out.1 hdl.pl htl.pl))
          have hg0 : decide ((k : Int) > 0) = true := decide_eq_true (by omega)
          have hg1 : decide (0 < k) = true := decide_eq_true (by omega)
          have hg2 : decide ((0 : Int) < (k : Int)) = true := decide_eq_true (by omega)
          have hkj : (k : Int) - 1 = (j : Int) := by omega
          have hj0 : (0 : Int) ≤ (j : Int) := by omega
          have hj1 : (j : Int) < (bs.length : Int) := by omega
          have HJ := hide (And.intro hj hd)
          clear hj hd hk0 hc3 hs3 hdl
          by_cases hz : com d es = d.length
          · have hzb : (com d es == d.length) = true := by simp [hz]
            rw [hzb] at HBG
            have HN := hide (HB.out.no (gd_no (i := j) (j := k) (by have := HJ.out.1; omega) HJ.out.2 HE.out (.inr hz)))
            clear hz hzb htl HI
            go_upto_region 6 with fail
            rw [hwq'.out]
            refine wp_region_quiet_below (by kernel_rfl) (by kernel_rfl) ?_
            repeat (go_big_quiet_step (first | with_reducible exact HT.out _ _ | with_reducible exact HBG.out _ _))
            refine wpQuiet_nil ?_
            intro _ hw'
            obtain ⟨⟨dq, osq⟩, hw''⟩ := hw'
            subst hw''
            have hbw2 := hbq.trans ((below_regrown wq dq osq).mono hbq.size)
            clear HT HBG k4 k1 k7 HX2
            go_wp2
            go_ret
            exact ⟨ret_bool HN.out.symm, hbw2⟩
          · have hzb : (com d es == d.length) = false := by simp [hz]
            rw [hzb] at HBG
            have HI2 := hide (HI.out.succ HE.out htl (fun j' a' hj' ha' => by
              obtain rfl : j' = j := by have := HJ.out.1; omega
              rw [HJ.out.2] at ha'
              simp only [Option.some.injEq] at ha'
              subst ha'; exact hz))
            clear hz hzb htl HI
            go_upto_region 6 with fail
            rw [hwq'.out]
            refine wp_region_quiet_below (by kernel_rfl) (by kernel_rfl) ?_
            repeat (go_big_quiet_step (first | with_reducible exact HT.out _ _ | with_reducible exact HBG.out _ _))
            refine wpQuiet_nil ?_
            intro _ hw'
            obtain ⟨⟨dq, osq⟩, hw''⟩ := hw'
            subst hw''
            have hbw2 := hbq.trans ((below_regrown wq dq osq).mono hbq.size)
            have HX3 := hide (k1 dq osq)
            clear HT HBG k4 k1 k7 HX2
            go_wp2
            go_roundw
            case rel => exact ⟨k + 1, by omega, by go_num, HI2, HX3, hbw2⟩
            case measure => simp [intOf]; omega
    · obtain rfl : k = bs.length := by omega
      have hcx := HX.out
      have HBR := hide (show BP b (RsK bs bs.length) from ⟨fun h => (HI.out.good H12.out).2 (HB.out.1 h), fun h => HB.out.2 ((HI.out.good H12.out).1 h)⟩)
      clear HI HB
      go_wp2_with fail
      refine (in_events _ bs _ (HV.out.below hbw) hn).mono ?_
      rintro e w2 ⟨⟨r, rfl, hr⟩, hb2⟩
      obtain ⟨a5, c5, rfl⟩ := hr.form
      have HR := hide hr
      have hbw2 := hbw.trans (hb2.mono hbw.size)
      clear hr hb2 hcx
      go_wp2_with fail
      refine (stand_rising _ bs b _ HR.out HF.out HBR.out).mono ?_
      rintro e w3 ⟨rfl, hb3⟩
      have hbw3 := hbw2.trans (hb3.mono hbw2.size)
      clear hb3 HR
      go_wp2
      go_ret
      exact ⟨rfl, hbw3⟩
end Go.Proofs.YtfkeokglifpkoaaDoor

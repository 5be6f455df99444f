/-
  The program's CountSteps: what comes of a marking when each step takes and puts as often as counted.
-/
import Derived.Test.YthilapalgakhhaaNetMark
import Derived.Test.YthilapalgakhhaaAns
import Derived.RegionTactic
namespace Go.Proofs.Ythilapalgakhhaa
open Go.RowKit M
open Clk (upd upd_same upd_other)
namespace M
def moves (f : Nat → Int) (d : Int) (m : Nat → Int) : Nat → (Nat → Int)
  | 0 => m
  | j + 1 => upd (moves f d m j) (f j).toNat (moves f d m j (f j).toNat + d)
def cnt (st : Nat → Sp) (cs : Nat → Int) (m : Nat → Int) : Nat → (Nat → Int)
  | 0 => m
  | i + 1 => moves (st i).fo (cs i) (moves (st i).fi (- cs i) (cnt st cs m i) (st i).ni) (st i).no
theorem moves_bd {f : Nat → Int} {d B : Int} {m : Nat → Int} (hd : -100 ≤ d ∧ d ≤ 100) (hm : ∀ q, -B ≤ m q ∧ m q ≤ B) : ∀ (j q : Nat), -(B + 100 * (j : Int)) ≤ moves f d m j q ∧ moves f d m j q ≤ B + 100 * (j : Int)
  | 0, q => by have := hm q; simp only [moves]; omega
  | j + 1, q => by
    have h1 := moves_bd (f := f) hd hm j q
    have h2 := moves_bd (f := f) hd hm j (f j).toNat
    simp only [moves]
    by_cases e : q = (f j).toNat
    · subst e; rw [upd_same]; omega
    · rw [upd_other _ _ _ _ e]; omega
theorem cnt_bd {p : Int} {k : Nat} {st : Nat → Sp} {cs m : Nat → Int} (hp : 0 ≤ p ∧ p ≤ 8) (hg : ∀ i, i < k → GoodS p (st i)) (hc : All k cs 0 100) (hm : ∀ q, 0 ≤ m q ∧ m q ≤ 9) : ∀ i, i ≤ k → ∀ q, -(9 + 1600 * (i : Int)) ≤ cnt st cs m i q ∧ cnt st cs m i q ≤ 9 + 1600 * (i : Int)
  | 0, _, q => by have := hm q; simp only [cnt]; omega
  | i + 1, hi, q => by
    have h0 := cnt_bd hp hg hc hm i (by omega)
    have hs := hg i (by omega)
    have hci := hc i (by omega)
    have l1 := ris_len hs.1 hp.1
    have l2 := ris_len hs.2 hp.1
    have h1 := moves_bd (f := (st i).fi) (d := - cs i) (B := 9 + 1600 * (i : Int)) (by omega) h0 (st i).ni
    have h2 := moves_bd (f := (st i).fo) (d := cs i) (B := 9 + 1600 * (i : Int) + 100 * ((st i).ni : Int)) (by omega) h1 (st i).no q
    simp only [cnt]
    omega
/-- What CountSteps asks. -/
def COk (p : Int) (k : Nat) (st : Nat → Sp) (n : Nat) (f : Nat → Int) (m : Nat) (cs : Nat → Int) : Prop := NOk p k st n f ∧ m = k ∧ All m cs 0 100
end M
set_option maxHeartbeats 2000000 in
theorem impl_cnt (v : Value) (k : Nat) (st : Nat → Sp) (u : Value) (n : Nat) (f : Nat → Int) (t : Value) (cs : Nat → Int) (w : World) (hv : StepsOf w v k st) (hu : IntsOf w u n f) (ht : IntsOf w t k cs) (hs : Short k st) (h : COk (n : Int) k st n f k cs) :
    Calls Try.prog 39 #[netV (n : Int) v, u, t] w fun e w' => (∃ R, e = .returned (.tuple #[R, .bool true]) ∧ AnsI w' w.heap.size R n (cnt st cs (pad n f) k)) ∧ Below w.heap.size w w' := by
  obtain ⟨hok, -, hcs⟩ := h
  have HV := hide hv
  have HU := hide hu
  have HTt := hide ht
  have HS := hide hs
  have HN := hide hok
  have hk := hs.1
  have hk12 : k ≤ 12 := hok.1.2.1
  have hn8 : n ≤ 8 := by have := hok.1.1.2; omega
  have HGk := hide hok.1.2.2
  have HMk := hide hok.mk
  have HC := hide (show decide (All k cs 0 100) = true by rw [decide_eq_true_eq]; exact hcs)
  have HCs := hide hcs
  obtain ⟨a, cap, rfl, hrow⟩ := hv
  obtain ⟨a2, cap2, rfl⟩ := hu.form
  obtain ⟨a3, cap3, rfl, hrt⟩ := ht
  have HR := hide hrow
  have HRT := hide hrt
  have hne : ((k : Int) != (k : Int)) = false := by simp
  have hbA := (Below.refl w.heap.size w).alloc (Nat.le_refl _) (.cells #[.int .i64 (n : Int), .slice a k cap] 29)
  have hNb := Blk.fresh w _ 2 (p2 (.int .i64 (n : Int)) (.slice a k cap)) 29 rfl
  clear hs hok hcs hrow hrt hu
  go_enter Try.func39, Try.ntmps39
  go_wp2_with fail
  refine (marking_in _ _ k st _ n f _ (HV.out.below hbA) (HU.out.below hbA) HS.out HN.out).mono ?_
  rintro e w1 ⟨rfl, hb⟩
  have hb1 := hbA.trans (hb.mono hbA.size)
  have hN1 := hNb.down hb
  have hbB := (Below.refl w1.heap.size w1).alloc (Nat.le_refl _) (.cells (cf 8 (iv (pad n f))) 68)
  have hc2 := Blk.new w1 8 (iv (pad n f)) 68
  have hN2 := hN1.down hbB
  have hb2 := hb1.trans (hbB.mono hb1.size)
  obtain ⟨d0, d1, -, -⟩ := hN1.pair
  have hs1 := hN1.lt
  have H2 := hide (show ∀ W, W = w1.alloc (.cells #[.int .i64 (pad n f 0), .int .i64 (pad n f 1), .int .i64 (pad n f 2), .int .i64 (pad n f 3), .int .i64 (pad n f 4), .int .i64 (pad n f 5), .int .i64 (pad n f 6), .int .i64 (pad n f 7)] 68) → Blk W w1.heap.size 8 (iv (pad n f)) 68 ∧ Blk W w.heap.size 2 (p2 (.int .i64 (n : Int)) (.slice a k cap)) 29 ∧ Below w.heap.size w W from fun W hW => by subst hW; exact ⟨hc2, hN2, hb2⟩)
  clear hbA hNb hb hbB hc2 hN1 hN2 HV HU HS HN
  go_wp2_with fail
  generalize hW : w1.alloc _ = W
  obtain ⟨hc, hN, hbW⟩ := H2.out W hW.symm
  clear H2 hb2
  refine (all_within _ k cs _ _ _ _ (HTt.out.below hbW) hk HC.out).mono ?_
  rintro e w2 ⟨rfl, rfl⟩
  obtain ⟨e0, e1, -, -⟩ := hN.pair
  have HB := hide (And.intro hc (And.intro hN hbW))
  clear HC HTt hW hc hN hbW d0 d1 hb1
  go_wp2
  go_loopw [40] (fun y wr => ∃ i : Nat, i ≤ k ∧ y = .int .i64 i ∧ Hid (Blk wr w1.heap.size 8 (iv (cnt st cs (pad n f) i)) 68 ∧ Blk wr w.heap.size 2 (p2 (.int .i64 (n : Int)) (.slice a k cap)) 29 ∧ Below w.heap.size w wr)) (fun y _ => k - (intOf y).toNat)
  case atStart => exact ⟨0, Nat.zero_le _, rfl, HB⟩
  case round =>
    rename World => wo
    obtain ⟨i, hik, rfl, HBo⟩ := hrel
    obtain ⟨hc, hN, hbw⟩ := HBo.out
    have hcl := hc.lt
    by_cases hlt : i < k
    · obtain ⟨bb, off, rfl, hbb, hrow⟩ := HR.out (by omega)
      obtain ⟨x, y, q1, q2, i1, i2⟩ := hrow i hlt
      obtain ⟨b3, o3, rfl, hb3, hrow3⟩ := HRT.out (by omega)
      have hS := HGk.out i hlt
      have hci := HCs.out i hlt
      have h81 : (st i).ni ≤ 8 := by have := ris_len hS.1 (by omega); omega
      have h82 : (st i).no ≤ 8 := by have := ris_len hS.2 (by omega); omega
      have HF1 := hide hS.1
      have HF2 := hide hS.2
      have HBd := hide (cnt_bd ⟨by omega, by omega⟩ HGk.out HCs.out HMk.out.1 i hik)
      have HCt := hide (show cnt st cs (pad n f) (i + 1) = moves (st i).fo (cs i) (moves (st i).fi (- cs i) (cnt st cs (pad n f) i) (st i).ni) (st i).no from rfl)
      generalize cnt st cs (pad n f) i = M0 at *
      generalize (st i).ni = ni at *
      generalize (st i).fi = fi at *
      generalize (st i).no = no at *
      generalize (st i).fo = fo at *
      obtain ⟨ax, cx, rfl, rx⟩ := i1
      obtain ⟨ay, cy, rfl, ry⟩ := i2
      have RX := hide rx
      have RY := hide ry
      have c0 := (hbw.cell (p := ⟨bb, off + i * 2, none⟩) hbb).trans q1
      have c1 := (hbw.cell (p := ⟨bb, off + i * 2 + 1, none⟩) hbb).trans q2
      have hT := hrow3 i hlt
      have HT := hide hT
      obtain ⟨e0, e1, -, -⟩ := hN.pair
      have hbB := (Below.refl wo.heap.size wo).alloc (Nat.le_refl _) (.cells #[.slice ax ni cx, .slice ay no cy] 60)
      have HB1 := hide (And.intro (hc.down hbB) (And.intro (hN.down hbB) (And.intro (Blk.fresh wo _ 2 (p2 (.slice ax ni cx) (.slice ay no cy)) 60 rfl) (hbw.trans (hbB.mono hbw.size)))))
      have hi0 : (0 : Int) ≤ (i : Int) := by omega
      have hi1 : (i : Int) < (k : Int) := by omega
      have hnc : w.heap.size < w1.heap.size := hs1
      clear hrow hrow3 q1 q2 hS rx ry hT HR HRT HGk HMk HCs HBo HB hc hN hbB
      go_wp2
      go_loopw [48] (fun y wr => ∃ j : Nat, j ≤ ni ∧ y = .int .i64 j ∧ Hid (Blk wr w1.heap.size 8 (iv (moves fi (- cs i) M0 j)) 68 ∧ Blk wr w.heap.size 2 (p2 (.int .i64 (n : Int)) (.slice (some ⟨bb, off, none⟩) k cap)) 29 ∧ Blk wr wo.heap.size 2 (p2 (.slice ax ni cx) (.slice ay no cy)) 60 ∧ Below w.heap.size w wr)) (fun y _ => ni - (intOf y).toNat)
      case atStart => exact ⟨0, Nat.zero_le _, rfl, HB1⟩
      case round =>
        rename World => wq
        obtain ⟨j, hj, rfl, HQ⟩ := hrel
        obtain ⟨hc, hN, hst, hbq⟩ := HQ.out
        obtain ⟨g0, g1, -, -⟩ := hst.pair
        by_cases hlj : j < ni
        · obtain ⟨bs, os, rfl, hbs, hrx⟩ := RX.out (by omega)
          have hfk := (HF1.out j hlj).1
          obtain ⟨z, hz⟩ := Int.eq_ofNat_of_zero_le hfk.1
          have hzt : (fi j).toNat = z := by omega
          have d0 := (hbq.cell (p := ⟨bs, os + j, none⟩) hbs).trans (hrx j hlj)
          rw [hz] at d0
          have hz8 : z < 8 := by omega
          have d1 := hc.cell_ints hz8
          have f1 := hc.thaw z
          have d2 := (hbq.cell (p := ⟨b3, o3 + i, none⟩) hb3).trans HT.out
          have hz0 : (0 : Int) ≤ (z : Int) := by omega
          have hz1 : (z : Int) < 8 := by omega
          have hMb := moves_bd (f := fi) (d := - cs i) (by omega) HBd.out j z
          have n1 : w1.heap.size ≠ b3 := by omega
          have n2 : b3 ≠ w1.heap.size := by omega
          have HNx := hide (show ∀ wz, wz = (wq.setCell ⟨w1.heap.size, z, none⟩ (.int .i64 (moves fi (- cs i) M0 j z - cs i))).drew → Blk wz w1.heap.size 8 (iv (moves fi (- cs i) M0 (j + 1))) 68 ∧ Blk wz w.heap.size 2 (p2 (.int .i64 (n : Int)) (.slice (some ⟨bb, off, none⟩) k cap)) 29 ∧ Blk wz wo.heap.size 2 (p2 (.slice (some ⟨bs, os, none⟩) ni cx) (.slice ay no cy)) 60 ∧ Below w.heap.size w wz from fun wz hwz => by
            subst hwz
            refine ⟨?_, (hN.set_other (by omega) _ _).drew, (hst.set_other (by omega) _ _).drew, (hbq.setCell (by simp; omega) _).drew⟩
            have := (hc.set_int z (moves fi (- cs i) M0 j z - cs i)).drew
            rw [show moves fi (- cs i) M0 (j + 1) = upd (moves fi (- cs i) M0 j) z (moves fi (- cs i) M0 j z - cs i) by simp only [moves]; rw [hzt, Int.sub_eq_add_neg]]
            exact this)
          clear hrx hfk hz hzt hc hN hst HQ RX RY HF1 HF2 HBd HCt HT HB1
          generalize moves fi (- cs i) M0 j z = X at *
          go_wp2
          go_region
          go_wp2
          exact ⟨⟨j + 1, by omega, by go_num, hide (HNx.out _ rfl)⟩, by simp [intOf]; omega⟩
        · obtain rfl : j = ni := by omega
          have HBd2 := hide (moves_bd (f := fi) (d := - cs i) (by omega) HBd.out j)
          generalize moves fi (- cs i) M0 j = M1 at *
          clear hc hN hst RX HF1 HBd HB1
          go_wp2
          go_loopw [65] (fun y wr => ∃ l : Nat, l ≤ no ∧ y = .int .i64 l ∧ Hid (Blk wr w1.heap.size 8 (iv (moves fo (cs i) M1 l)) 68 ∧ Blk wr w.heap.size 2 (p2 (.int .i64 (n : Int)) (.slice (some ⟨bb, off, none⟩) k cap)) 29 ∧ Blk wr wo.heap.size 2 (p2 (.slice ax j cx) (.slice ay no cy)) 60 ∧ Below w.heap.size w wr)) (fun y _ => no - (intOf y).toNat)
          case atStart => exact ⟨0, Nat.zero_le _, rfl, HQ⟩
          case round =>
            rename World => wt
            obtain ⟨l, hl, rfl, HL⟩ := hrel
            obtain ⟨hc, hN, hst, hbt⟩ := HL.out
            obtain ⟨g0, g1, -, -⟩ := hst.pair
            by_cases hll : l < no
            · obtain ⟨bs, os, rfl, hbs, hry⟩ := RY.out (by omega)
              have hfk := (HF2.out l hll).1
              obtain ⟨z, hz⟩ := Int.eq_ofNat_of_zero_le hfk.1
              have hzt : (fo l).toNat = z := by omega
              have d0 := (hbt.cell (p := ⟨bs, os + l, none⟩) hbs).trans (hry l hll)
              rw [hz] at d0
              have hz8 : z < 8 := by omega
              have d1 := hc.cell_ints hz8
              have f1 := hc.thaw z
              have d2 := (hbt.cell (p := ⟨b3, o3 + i, none⟩) hb3).trans HT.out
              have hz0 : (0 : Int) ≤ (z : Int) := by omega
              have hz1 : (z : Int) < 8 := by omega
              have hMb := moves_bd (f := fo) (d := cs i) (by omega) HBd2.out l z
              have n1 : w1.heap.size ≠ b3 := by omega
              have n2 : b3 ≠ w1.heap.size := by omega
              have HNx := hide (show ∀ wz, wz = (wt.setCell ⟨w1.heap.size, z, none⟩ (.int .i64 (moves fo (cs i) M1 l z + cs i))).drew → Blk wz w1.heap.size 8 (iv (moves fo (cs i) M1 (l + 1))) 68 ∧ Blk wz w.heap.size 2 (p2 (.int .i64 (n : Int)) (.slice (some ⟨bb, off, none⟩) k cap)) 29 ∧ Blk wz wo.heap.size 2 (p2 (.slice ax j cx) (.slice (some ⟨bs, os, none⟩) no cy)) 60 ∧ Below w.heap.size w wz from fun wz hwz => by
                subst hwz
                refine ⟨?_, (hN.set_other (by omega) _ _).drew, (hst.set_other (by omega) _ _).drew, (hbt.setCell (by simp; omega) _).drew⟩
                have := (hc.set_int z (moves fo (cs i) M1 l z + cs i)).drew
                rw [show moves fo (cs i) M1 (l + 1) = upd (moves fo (cs i) M1 l) z (moves fo (cs i) M1 l z + cs i) by simp only [moves]; rw [hzt]]
                exact this)
              clear hry hfk hz hzt hc hN hst HL RY HF2 HBd2 HCt HT HQ
              generalize moves fo (cs i) M1 l z = X at *
              go_wp2
              go_region
              go_wp2
              exact ⟨⟨l + 1, by omega, by go_num, hide (HNx.out _ rfl)⟩, by simp [intOf]; omega⟩
            · obtain rfl : l = no := by omega
              have HE := hide (show Blk wt w1.heap.size 8 (iv (cnt st cs (pad n f) (i + 1))) 68 ∧ Blk wt w.heap.size 2 (p2 (.int .i64 (n : Int)) (.slice (some ⟨bb, off, none⟩) k cap)) 29 ∧ Below w.heap.size w wt by rw [HCt.out]; exact ⟨hc, hN, hbt⟩)
              clear hc hN hst HL RY HF2 HBd2 HCt HT HQ
              go_wp2
              exact ⟨⟨i + 1, by omega, by go_num, HE⟩, by simp [intOf]; omega⟩
    · obtain rfl : i = k := by omega
      obtain ⟨e0, e1, -, -⟩ := hN.pair
      obtain ⟨r0, r1, r2, r3, r4, r5, r6, r7⟩ := hc.eight
      have hsz := hbw.size
      clear hc hN HBo HB HR HRT HGk HMk HCs
      go_wp2_with fail
      refine (list_mark _ n _ hn8).mono ?_
      rintro e w5 ⟨⟨rfl, hB⟩, hb⟩
      have hb5 := hbw.trans (hb.mono hbw.size)
      have HBl := hide hB
      clear hb hB r0 r1 r2 r3 r4 r5 r6 r7 e0 e1
      go_wp2
      go_ret2
      exact ⟨⟨_, rfl, .inr ⟨_, n, rfl, by omega, HBl.out⟩⟩, hb5⟩
end Go.Proofs.Ythilapalgakhhaa

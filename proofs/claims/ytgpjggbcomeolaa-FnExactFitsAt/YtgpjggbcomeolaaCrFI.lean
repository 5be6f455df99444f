/-
  The program's closures over a cron's lists: inField and what it makes.
-/
import Derived.Test.YtgpjggbcomeolaaCrG
import Derived.Lib.QuietBelow
import Derived.BigQuiet
import Derived.Laws.EntriesVeiled
namespace Go.Proofs.Ytgpjggbcomeolaa
open Go.RowKit M
open Clk (upd upd_same upd_other)
namespace M
theorem below_drewN {B : Nat} {w0 w : World} (h : Below B w0 w) (m : Nat) : Below B w0 (w.drewN m) := ⟨h.os, h.tape, h.output, h.size, h.block⟩
/-- The closure of inField whose cells lie from block B on. -/
abbrev inF (B : Nat) : Value := .func (Fn.func 39) #[] #[.pointer (some ⟨B + 1 + 1, 0, none⟩), .pointer (some ⟨B, 0, none⟩), .pointer (some ⟨B + 1, 0, none⟩)]
def bt (n : Nat) (f : Nat → Int) : Nat → Value := fun q => .bool (decide (Has n f (q : Int)))
theorem bt_succ {f : Nat → Int} {k m : Nat} (h : f k = (m : Int)) : upd (bt k f) m (.bool true) = bt (k + 1) f := by
  funext q
  unfold upd bt
  by_cases e : q = m
  · rw [if_pos e]
    congr 1
    exact (decide_eq_true (show Has (k + 1) f (q : Int) from ⟨k, by omega, by rw [h, e]⟩)).symm
  · rw [if_neg e]
    congr 1
    rw [Bool.eq_iff_iff, decide_eq_true_eq, decide_eq_true_eq]
    constructor
    · rintro ⟨i, h1, h2⟩; exact ⟨i, by omega, h2⟩
    · rintro ⟨i, h1, h2⟩
      rcases (show i < k ∨ i = k by omega) with h3 | h3
      · exact ⟨i, h3, h2⟩
      · subst h3; rw [h] at h2; omega
theorem bt_zero (f : Nat → Int) : bt 0 f = fun _ => .bool false := by
  funext q
  unfold bt
  rw [decide_eq_false (fun ⟨i, h, _⟩ => by omega)]
/-- A field's cells, from block B on: how long a unit is, how many, and which numbers are there. -/
def Fld (w : World) (B : Nat) (u s : Int) (n : Nat) (f : Nat → Int) : Prop :=
  Blk w B 1 (fun _ => .int .i64 u) 3 ∧ Blk w (B + 1) 1 (fun _ => .int .i64 s) 3 ∧ Blk w (B + 1 + 1) 60 (bt n f) 52
theorem Fld.down {w w' : World} {B n : Nat} {u s : Int} {f : Nat → Int} (h : Fld w B u s n f) (hb : Below w.heap.size w w') : Fld w' B u s n f := ⟨h.1.down hb, h.2.1.down hb, h.2.2.down hb⟩
end M
set_option maxRecDepth 20000 in
set_option maxHeartbeats 1000000 in
theorem in_field (v : Value) (n : Nat) (f : Nat → Int) (u s : Int) (w : World) (hv : IntsOf w v n f) (hn : n ≤ 1048576) (hf : ∀ i, i < n → 0 ≤ f i ∧ f i < 60) :
    Calls Try.prog 36 #[v, .int .i64 u, .int .i64 s] w fun e w' => (e = .returned (inF w.heap.size) ∧ Fld w' w.heap.size u s n f) ∧ Below w.heap.size w w' := by
  obtain ⟨a, cap, rfl, hr⟩ := hv
  have HR := hide hr
  have HF := hide hf
  clear hr hf
  have h1 := Blk.fresh w #[.int .i64 u] 1 (fun _ => .int .i64 u) 3 rfl
  have h2 := Blk.fresh (w.alloc (.cells #[.int .i64 u] 3)) #[.int .i64 s] 1 (fun _ => .int .i64 s) 3 rfl
  have h3 := Blk.new ((w.alloc (.cells #[.int .i64 u] 3)).alloc (.cells #[.int .i64 s] 3)) 60 (bt 0 f) 52
  have hb0 := (((Below.refl w.heap.size w).alloc (Nat.le_refl _) (.cells #[.int .i64 u] 3)).alloc (by simp) (.cells #[.int .i64 s] 3)).alloc (by simp; omega) (.cells (cf 60 (bt 0 f)) 52)
  rw [World.size_alloc] at h2
  rw [World.size_alloc, World.size_alloc] at h3
  have HI := hide (show Fld _ w.heap.size u s 0 f ∧ Below w.heap.size w _ from ⟨⟨(h1.alloc _).alloc _, h2.alloc _, h3⟩, hb0⟩)
  rw [bt_zero] at HI
  clear h1 h2 h3 hb0
  go_enter Try.func36, Try.ntmps36
  go_wp2
  go_loopw [12] (fun y wr => ∃ k : Nat, k ≤ n ∧ y = .int .i64 (k : Int) ∧ Hid (Fld wr w.heap.size u s k f ∧ Below w.heap.size w wr)) (fun y _ => n - (intOf y).toNat)
  case atStart => exact ⟨0, Nat.zero_le _, rfl, HI⟩
  case round =>
    obtain ⟨k, hk, rfl, HX⟩ := hrel
    by_cases hlt : k < n
    · obtain ⟨b, off, rfl, hb, hrow⟩ := HR.out (by omega)
      have c0 := (HX.out.2.cell (p := ⟨b, off + k, none⟩) hb).trans (hrow k hlt)
      obtain ⟨m, hm⟩ : ∃ m : Nat, f k = (m : Int) := ⟨(f k).toNat, by have := (HF.out k hlt).1; omega⟩
      have hm60 : m < 60 := by have := (HF.out k hlt).2; omega
      have hm1 : (m : Int) < 60 := by omega
      have hm0 : (0 : Int) ≤ (m : Int) := by omega
      rw [hm] at c0
      have c1 := HX.out.1.2.2.cell hm60
      have f1 := HX.out.1.2.2.thaw m
      have HX2 := hide (show Fld (wr.setCell ⟨w.heap.size + 1 + 1, m, none⟩ (.bool true)) w.heap.size u s (k + 1) f ∧ Below w.heap.size w (wr.setCell ⟨w.heap.size + 1 + 1, m, none⟩ (.bool true)) from by
        obtain ⟨⟨x1, x2, x3⟩, x4⟩ := HX.out
        refine ⟨⟨x1.set_other (by omega) _ _, x2.set_other (by omega) _ _, ?_⟩, x4.setCell (p := ⟨w.heap.size + 1 + 1, m, none⟩) (show w.heap.size ≤ w.heap.size + 1 + 1 by omega) _⟩
        have := x3.set m (.bool true)
        rw [bt_succ hm] at this
        exact this)
      clear HX HR HF hrow hm HI
      unfold bt at c1
      go_wp2
      exact ⟨⟨k + 1, by omega, by go_num, HX2⟩, by simp [intOf]; omega⟩
    · obtain rfl : k = n := by omega
      clear HR HF HI
      go_wp2
      go_ret
      exact ⟨⟨rfl, HX.out.1⟩, HX.out.2⟩
set_option maxRecDepth 20000 in
set_option maxHeartbeats 1000000 in
theorem in_field_in (t B n : Nat) (f : Nat → Int) (u s : Nat) (b : Bool) (w : World) (hF : Fld w B (u : Int) (s : Int) n f) (ht : t ≤ 1100000) (hu : 0 < u) (hs : 0 < s) (hs60 : s ≤ 60) (hb : decide (Has n f ((t / u % s : Nat) : Int)) = b) :
    Calls Try.prog 39 #[.int .i64 (t : Int), .pointer (some ⟨B + 1 + 1, 0, none⟩), .pointer (some ⟨B, 0, none⟩), .pointer (some ⟨B + 1, 0, none⟩)] w fun e w' => e = .returned (.bool b) ∧ Below w.heap.size w w' := by
  obtain ⟨q, hq⟩ : ∃ q, t / u = q := ⟨_, rfl⟩
  obtain ⟨r, hr⟩ : ∃ r, q % s = r := ⟨_, rfl⟩
  have hqt : q ≤ t := by rw [← hq]; exact Nat.div_le_self _ _
  have hrs : r < s := by rw [← hr]; exact Nat.mod_lt _ hs
  have e1 : (t : Int).tdiv (u : Int) = (q : Int) := by rw [← hq]; rfl
  have e2 : IntKind.i64.wrap (q : Int) = (q : Int) := by rw [IntKind.wrap_i64]; omega
  have e3 : (q : Int).tmod (s : Int) = (r : Int) := by rw [← hr]; rfl
  have hu0 : ((u : Int) == 0) = false := by simp; omega
  have hs0 : ((s : Int) == 0) = false := by simp; omega
  have hu1 : ¬ (u : Int) = 0 := by omega
  have hs1 : ¬ (s : Int) = 0 := by omega
  have hr0 : (0 : Int) ≤ (r : Int) := by omega
  have hr1 : (r : Int) < 60 := by omega
  rw [hq, hr] at hb
  have c0 := hF.1.cell (show 0 < 1 by omega)
  have c1 := hF.2.1.cell (show 0 < 1 by omega)
  have c2 : w.cell? ⟨B + 1 + 1, r, none⟩ = some (.bool b) := by rw [← hb]; exact hF.2.2.cell (show r < 60 by omega)
  clear hq hr hb hF
  go_enter Try.func39, Try.ntmps39
  go_wp2
  go_big_quiet (fail)
  go_wp2
  go_ret
  exact ⟨rfl, below_drewN (Below.refl _ _) _⟩
theorem next_unit (t u : Nat) (w : World) (ht : t ≤ 1100000) (hu : 0 < u) (hu2 : u ≤ 1440) :
    Calls Try.prog 38 #[.int .i64 (t : Int), .int .i64 (u : Int)] w fun e w' => e = .returned (.int .i64 ((t - t % u + u : Nat) : Int)) ∧ Below w.heap.size w w' := by
  obtain ⟨r, hr⟩ : ∃ r, t % u = r := ⟨_, rfl⟩
  have hrt : r ≤ t := by rw [← hr]; exact Nat.mod_le _ _
  have e1 : (t : Int).tmod (u : Int) = (r : Int) := by rw [← hr]; rfl
  have hu1 : ¬ (u : Int) = 0 := by omega
  have hu0 : ((u : Int) == 0) = false := by simp; omega
  rw [hr]
  have HE := hide (show (t : Int) - (r : Int) + (u : Int) = ((t - r + u : Nat) : Int) from by omega)
  clear hr
  go_enter Try.func38, Try.ntmps38
  go_wp2
  go_ret
  exact ⟨by rw [← HE.out]; rfl, Below.refl _ _⟩
namespace M
/-- The closure of fitting whose three cells lie in the blocks p, q, r. -/
abbrev fitF (p q r : Nat) : Value := .func (Fn.func 37) #[] #[.pointer (some ⟨p, 0, none⟩), .pointer (some ⟨q, 0, none⟩), .pointer (some ⟨r, 0, none⟩)]
structure FitW (w : World) (p q r : Nat) (c : Crn) (Bm Bh Bd : Nat) : Prop where
  pd : Blk w p 1 (fun _ => inF Bd) 47
  ph : Blk w q 1 (fun _ => inF Bh) 47
  pm : Blk w r 1 (fun _ => inF Bm) 47
  fm : Fld w Bm ((1 : Nat) : Int) ((60 : Nat) : Int) c.nm c.fm
  fh : Fld w Bh ((60 : Nat) : Int) ((24 : Nat) : Int) c.nh c.fh
  fd : Fld w Bd ((1440 : Nat) : Int) ((7 : Nat) : Int) c.nd c.fd
theorem FitW.down {w w' : World} {p q r Bm Bh Bd : Nat} {c : Crn} (h : FitW w p q r c Bm Bh Bd) (hb : Below w.heap.size w w') : FitW w' p q r c Bm Bh Bd := ⟨h.pd.down hb, h.ph.down hb, h.pm.down hb, h.fm.down hb, h.fh.down hb, h.fd.down hb⟩
theorem GoodC.m60 {c : Crn} (h : GoodC c) : ∀ i, i < c.nm → 0 ≤ c.fm i ∧ c.fm i < 60 := fun i hi => by have := (h.1.1 i hi).1; omega
theorem GoodC.h60 {c : Crn} (h : GoodC c) : ∀ i, i < c.nh → 0 ≤ c.fh i ∧ c.fh i < 60 := fun i hi => by have := (h.2.1.1 i hi).1; omega
theorem GoodC.d60 {c : Crn} (h : GoodC c) : ∀ i, i < c.nd → 0 ≤ c.fd i ∧ c.fd i < 60 := fun i hi => by have := (h.2.2.1 i hi).1; omega
end M
set_option maxRecDepth 20000 in
set_option maxHeartbeats 1000000 in
theorem fitting (v0 v1 v2 : Value) (c : Crn) (w : World) (hv : CronOf w v0 v1 v2 c) (hs : ShortC c) (hg : GoodC c) :
    Calls Try.prog 32 #[.agg #[v0, v1, v2]] w fun e w' => (∃ p q r Bm Bh Bd, e = .returned (fitF p q r) ∧ FitW w' p q r c Bm Bh Bd) ∧ Below w.heap.size w w' := by
  have hb0 := (Below.refl w.heap.size w).alloc (Nat.le_refl _) (.cells #[v0, v1, v2] 27)
  have HN0 := hide (new3 w v0 v1 v2 27)
  obtain ⟨a0, p0, rfl⟩ := hv.1.form
  obtain ⟨a1, p1, rfl⟩ := hv.2.1.form
  obtain ⟨a2, p2, rfl⟩ := hv.2.2.form
  have HV := hide hv
  have HS := hide hs
  have HG := hide hg
  clear hv hs hg
  go_enter Try.func32, Try.ntmps32
  go_wp2_with fail
  refine (in_field _ _ _ ((1 : Nat) : Int) ((60 : Nat) : Int) _ (HV.out.1.below hb0) HS.out.1 HG.out.m60).mono ?_
  rintro e w1 ⟨⟨rfl, hf1⟩, hb⟩
  obtain ⟨B1, hB1⟩ : ∃ B1, (w.alloc (.cells #[.slice a0 c.nm p0, .slice a1 c.nh p1, .slice a2 c.nd p2] 27)).heap.size = B1 := ⟨_, rfl⟩
  have hb1 := hb0.trans (hb.mono hb0.size)
  have HN1 := hide (HN0.out.down hb)
  rw [hB1] at hf1 ⊢
  clear hb hb0 HN0 hB1
  have hbA := (Below.refl w1.heap.size w1).alloc (Nat.le_refl _) (.cells #[inF B1] 47)
  have hb2 := hb1.trans (hbA.mono hb1.size)
  have HP2 := hide (show Blk _ w1.heap.size 1 (fun _ => inF B1) 47 from Blk.fresh w1 #[inF B1] 1 (fun _ => inF B1) 47 rfl)
  have HF2 := hide (hf1.down hbA)
  have HN2 := hide (HN1.out.down hbA)
  clear hf1 hb1 HN1 hbA
  obtain ⟨⟨d0, d1, d2⟩, -⟩ := HN2.out.tri
  go_wp2_with fail
  refine (in_field _ _ _ ((60 : Nat) : Int) ((24 : Nat) : Int) _ (HV.out.2.1.below hb2) HS.out.2.1 HG.out.h60).mono ?_
  rintro e w3 ⟨⟨rfl, hf3⟩, hb⟩
  obtain ⟨B2, hB2⟩ : ∃ B2, (w1.alloc (.cells #[inF B1] 47)).heap.size = B2 := ⟨_, rfl⟩
  have hb3 := hb2.trans (hb.mono hb2.size)
  have HN3 := hide (HN2.out.down hb)
  have HP3 := hide (HP2.out.down hb)
  have HF3 := hide (HF2.out.down hb)
  rw [hB2] at hf3 ⊢
  clear hb hb2 HN2 HP2 HF2 hB2 d0 d1 d2
  have hbA := (Below.refl w3.heap.size w3).alloc (Nat.le_refl _) (.cells #[inF B2] 47)
  have hb4 := hb3.trans (hbA.mono hb3.size)
  have HQ4 := hide (show Blk _ w3.heap.size 1 (fun _ => inF B2) 47 from Blk.fresh w3 #[inF B2] 1 (fun _ => inF B2) 47 rfl)
  have HH4 := hide (hf3.down hbA)
  have HN4 := hide (HN3.out.down hbA)
  have HP4 := hide (HP3.out.down hbA)
  have HF4 := hide (HF3.out.down hbA)
  clear hf3 hb3 HN3 HP3 HF3 hbA
  obtain ⟨⟨d0, d1, d2⟩, -⟩ := HN4.out.tri
  go_wp2_with fail
  refine (in_field _ _ _ ((1440 : Nat) : Int) ((7 : Nat) : Int) _ (HV.out.2.2.below hb4) HS.out.2.2 HG.out.d60).mono ?_
  rintro e w5 ⟨⟨rfl, hf5⟩, hb⟩
  obtain ⟨B3, hB3⟩ : ∃ B3, (w3.alloc (.cells #[inF B2] 47)).heap.size = B3 := ⟨_, rfl⟩
  have hb5 := hb4.trans (hb.mono hb4.size)
  have HP5 := hide (HP4.out.down hb)
  have HF5 := hide (HF4.out.down hb)
  have HQ5 := hide (HQ4.out.down hb)
  have HH5 := hide (HH4.out.down hb)
  rw [hB3] at hf5 ⊢
  clear hb hb4 HN4 HP4 HF4 HQ4 HH4 hB3 d0 d1 d2 HV HS HG
  have hbA := (Below.refl w5.heap.size w5).alloc (Nat.le_refl _) (.cells #[inF B3] 47)
  have hb6 := hb5.trans (hbA.mono hb5.size)
  have HFin := hide (show FitW (w5.alloc (.cells #[inF B3] 47)) w5.heap.size w3.heap.size w1.heap.size c B1 B2 B3 from
    ⟨Blk.fresh w5 #[inF B3] 1 (fun _ => inF B3) 47 rfl, HQ5.out.down hbA, HP5.out.down hbA, HF5.out.down hbA, HH5.out.down hbA, hf5.down hbA⟩)
  clear hf5 hb5 HP5 HF5 HQ5 HH5 hbA
  go_wp2
  go_ret
  exact ⟨⟨_, _, _, _, _, _, rfl, HFin.out⟩, hb6⟩
set_option maxRecDepth 20000 in
set_option maxHeartbeats 2000000 in
theorem fitting_in (t R p q r Bm Bh Bd : Nat) (c : Crn) (w : World) (hF : FitW w p q r c Bm Bh Bd) (ht : t ≤ 1000001) (hR : Lst c t R) :
    Calls Try.prog 37 #[.int .i64 (t : Int), .pointer (some ⟨p, 0, none⟩), .pointer (some ⟨q, 0, none⟩), .pointer (some ⟨r, 0, none⟩)] w fun e w' => e = .returned (.int .i64 (R : Int)) ∧ Below w.heap.size w w' := by
  have HF := hide hF
  have HR := hide hR
  have hRb : R ≤ 1050000 := by have := hR.2.1; omega
  clear hF hR
  go_enter Try.func37, Try.ntmps37
  go_wp2_with fail
  go_loopw [0] (fun x wr => ∃ s : Nat, x = .int .i64 (s : Int) ∧ t ≤ s ∧ s ≤ R ∧ Hid (∀ j, t ≤ j → j < s → ¬ Fits c j) ∧ Hid (Below w.heap.size w wr)) (fun x _ => R - (intOf x).toNat)
  case atStart => exact ⟨t, rfl, Nat.le_refl _, HR.out.1, hide (fun j h1 h2 => by omega), hide (Below.refl _ _)⟩
  case round =>
    rename World => wo
    obtain ⟨s, rfl, hs1, hs2, HP, HBo⟩ := hrel
    have HFo := hide (HF.out.down HBo.out)
    have c0 := HFo.out.pd.cell (show 0 < 1 by omega)
    by_cases hd : Has c.nd c.fd ((s / 1440 % 7 : Nat) : Int)
    · have HD := hide (show decide (Has c.nd c.fd ((s / 1440 % 7 : Nat) : Int)) = true from decide_eq_true hd)
      go_wp2_with fail
      refine (in_field_in s _ _ _ 1440 7 true _ HFo.out.fd (by omega) (by decide) (by decide) (by decide) HD.out).mono ?_
      rintro e w1 ⟨rfl, hb⟩
      have HB1 := hide (HBo.out.trans (hb.mono HBo.out.size))
      have HF1 := hide (HFo.out.down hb)
      clear hb HFo c0
      have c0 := HF1.out.ph.cell (show 0 < 1 by omega)
      by_cases hh : Has c.nh c.fh ((s / 60 % 24 : Nat) : Int)
      · have HH := hide (show decide (Has c.nh c.fh ((s / 60 % 24 : Nat) : Int)) = true from decide_eq_true hh)
        go_wp2_with fail
        refine (in_field_in s _ _ _ 60 24 true _ HF1.out.fh (by omega) (by decide) (by decide) (by decide) HH.out).mono ?_
        rintro e w2 ⟨rfl, hb⟩
        have HB2 := hide (HB1.out.trans (hb.mono HB1.out.size))
        have HF2 := hide (HF1.out.down hb)
        clear hb HF1 c0
        have c0 := HF2.out.pm.cell (show 0 < 1 by omega)
        by_cases hm : Has c.nm c.fm ((s % 60 : Nat) : Int)
        · have HM := hide (show decide (Has c.nm c.fm ((s / 1 % 60 : Nat) : Int)) = true from decide_eq_true (by rw [Nat.div_one]; exact hm))
          have HE := hide (HR.out.same hs1 ⟨hm, hh, hd⟩ HP.out)
          go_wp2_with fail
          refine (in_field_in s _ _ _ 1 60 true _ HF2.out.fm (by omega) (by decide) (by decide) (by decide) HM.out).mono ?_
          rintro e w3 ⟨rfl, hb⟩
          have HB3 := hide (HB2.out.trans (hb.mono HB2.out.size))
          clear hb HF2 c0 HM HH HD hm hh hd HP HBo HB1 HB2 HR HF
          go_wp2
          go_ret
          exact ⟨by rw [← HE.out]; rfl, HB3.out⟩
        · have HM := hide (show decide (Has c.nm c.fm ((s / 1 % 60 : Nat) : Int)) = false from decide_eq_false (by rw [Nat.div_one]; exact hm))
          have HP2 := hide (show ∀ j, t ≤ j → j < s - s % 1 + 1 → ¬ Fits c j from by rw [Nat.mod_one]; exact skip_min HP.out hm)
          have hle := HR.out.ge HP2.out
          go_wp2_with fail
          refine (in_field_in s _ _ _ 1 60 false _ HF2.out.fm (by omega) (by decide) (by decide) (by decide) HM.out).mono ?_
          rintro e w3 ⟨rfl, hb⟩
          have HB3 := hide (HB2.out.trans (hb.mono HB2.out.size))
          clear hb HF2 c0 HM HH HD hm hh hd HP HBo HB1 HB2
          go_wp2_with fail
          refine (next_unit s 1 _ (by omega) (by decide) (by decide)).mono ?_
          rintro e w4 ⟨rfl, hb⟩
          have HB4 := hide (HB3.out.trans (hb.mono HB3.out.size))
          obtain ⟨z, hz⟩ : ∃ z, s - s % 1 + 1 = z := ⟨_, rfl⟩
          have hsz : s < z := by omega
          rw [hz] at HP2 hle ⊢
          clear hb HB3 hz
          go_wp2
          exact ⟨⟨z, rfl, by omega, hle, HP2, HB4⟩, by simp [intOf]; omega⟩
      · have HH := hide (show decide (Has c.nh c.fh ((s / 60 % 24 : Nat) : Int)) = false from decide_eq_false hh)
        have HP2 := hide (skip_hour HP.out hh)
        have hle := HR.out.ge HP2.out
        go_wp2_with fail
        refine (in_field_in s _ _ _ 60 24 false _ HF1.out.fh (by omega) (by decide) (by decide) (by decide) HH.out).mono ?_
        rintro e w3 ⟨rfl, hb⟩
        have HB3 := hide (HB1.out.trans (hb.mono HB1.out.size))
        clear hb HF1 c0 HH HD hh hd HP HBo HB1
        go_wp2_with fail
        refine (next_unit s 60 _ (by omega) (by decide) (by decide)).mono ?_
        rintro e w4 ⟨rfl, hb⟩
        have HB4 := hide (HB3.out.trans (hb.mono HB3.out.size))
        obtain ⟨z, hz⟩ : ∃ z, s - s % 60 + 60 = z := ⟨_, rfl⟩
        have hsz : s < z := by omega
        rw [hz] at HP2 hle ⊢
        clear hb HB3 hz
        go_wp2
        exact ⟨⟨z, rfl, by omega, hle, HP2, HB4⟩, by simp [intOf]; omega⟩
    · have HD := hide (show decide (Has c.nd c.fd ((s / 1440 % 7 : Nat) : Int)) = false from decide_eq_false hd)
      have HP2 := hide (skip_day HP.out hd)
      have hle := HR.out.ge HP2.out
      go_wp2_with fail
      refine (in_field_in s _ _ _ 1440 7 false _ HFo.out.fd (by omega) (by decide) (by decide) (by decide) HD.out).mono ?_
      rintro e w3 ⟨rfl, hb⟩
      have HB3 := hide (HBo.out.trans (hb.mono HBo.out.size))
      clear hb HFo c0 HD hd HP HBo
      go_wp2_with fail
      refine (next_unit s 1440 _ (by omega) (by decide) (by decide)).mono ?_
      rintro e w4 ⟨rfl, hb⟩
      have HB4 := hide (HB3.out.trans (hb.mono HB3.out.size))
      obtain ⟨z, hz⟩ : ∃ z, s - s % 1440 + 1440 = z := ⟨_, rfl⟩
      have hsz : s < z := by omega
      rw [hz] at HP2 hle ⊢
      clear hb HB3 hz
      go_wp2
      exact ⟨⟨z, rfl, by omega, hle, HP2, HB4⟩, by simp [intOf]; omega⟩
end Go.Proofs.Ytgpjggbcomeolaa

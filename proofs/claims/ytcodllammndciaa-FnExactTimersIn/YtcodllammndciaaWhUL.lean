/-
  The law of TimersIn, walked: it returns true and turns nothing that was there, wherever both texts tell the same.
-/
import Derived.Test.YtcodllammndciaaWhLD
namespace Go.Proofs.Ytcodllammndciaa
open Go.RowKit M
open Clk (upd upd_same upd_other)
namespace M
/-- A list of timers of the call's own: nil, or timers at the head of a block from B on. -/
def AnsT (w : World) (B : Nat) (r : Value) (n : Nat) (f : Nat → Int) : Prop := (r = .slice none 0 0 ∧ n = 0) ∨ ∃ b c, r = .slice (some ⟨b, 0, none⟩) n c ∧ B ≤ b ∧ OwnT w b n c f
theorem AnsT.tims {w : World} {B n : Nat} {r : Value} {f : Nat → Int} (h : AnsT w B r n f) : TimersOf w r n f := by
  rcases h with ⟨rfl, rfl⟩ | ⟨b, c, rfl, _, hb⟩
  · exact ⟨none, 0, rfl, fun h => absurd h (Nat.lt_irrefl _)⟩
  · exact hb.timers
theorem AnsT.down {w w' : World} {B n : Nat} {r : Value} {f : Nat → Int} (h : AnsT w B r n f) (hb : Below w.heap.size w w') : AnsT w' B r n f := by
  rcases h with h | ⟨b, c, hr, hB, hk⟩
  · exact .inl h
  · exact .inr ⟨b, c, hr, hB, hk.down hb⟩
theorem AnsT.kept {w w' : World} {B n lo hi : Nat} {r : Value} {f : Nat → Int} (h : AnsT w B r n f) (hk : Kept lo hi w w') (hB : hi ≤ B) : AnsT w' B r n f := by
  rcases h with h | ⟨b, c, hr, hBb, hc, k, hb, he⟩
  · exact .inl h
  · exact .inr ⟨b, c, hr, hBb, hc, k, hk.blk hb (.inr (by omega)), he⟩
def T7 (w A W : World) (x : Int) (v : Value) (H : Nat) (ux : Value) (k : Nat) (rs : Nat → Rw) : Prop :=
  LC w W x v ∧ Blk W H 2 (p2 (.int .i64 x) ux) 24 ∧ AnsX W A.heap.size H ux k rs ∧ Below A.heap.size A W ∧ H + 1 ≤ W.heap.size ∧ w.heap.size + 1 ≤ A.heap.size ∧ A.heap.size ≤ H
theorem T7.down {w A W W' : World} {x : Int} {v : Value} {H : Nat} {ux : Value} {k : Nat} {rs : Nat → Rw} (h : T7 w A W x v H ux k rs) (hb : Below W.heap.size W W') : T7 w A W' x v H ux k rs :=
  ⟨h.1.down hb, h.2.1.down hb, h.2.2.1.down hb, h.2.2.2.1.trans (hb.mono h.2.2.2.1.size), Nat.le_trans h.2.2.2.2.1 hb.size, h.2.2.2.2.2⟩
def TF (w A W : World) (x : Int) (v : Value) (H : Nat) (ux : Value) (k : Nat) (rs : Nat → Rw) (Bg : Nat) (r1 : Value) (q : Nat) (f : Nat → Int) : Prop :=
  T7 w A W x v H ux k rs ∧ AnsT W Bg r1 q f ∧ H + 1 ≤ Bg
theorem TF.down {w A W W' : World} {x : Int} {v : Value} {H : Nat} {ux : Value} {k : Nat} {rs : Nat → Rw} {Bg : Nat} {r1 : Value} {q : Nat} {f : Nat → Int} (h : TF w A W x v H ux k rs Bg r1 q f) (hb : Below W.heap.size W W') : TF w A W' x v H ux k rs Bg r1 q f :=
  ⟨h.1.down hb, h.2.1.down hb, h.2.2⟩
theorem TF.s {w A W : World} {x : Int} {v : Value} {H : Nat} {ux : Value} {k : Nat} {rs : Nat → Rw} {Bg : Nat} {r1 : Value} {q : Nat} {f : Nat → Int} (h : TF w A W x v H ux k rs Bg r1 q f) : W.cell? ⟨H, 0, none⟩ = some (.int .i64 x) ∧ W.cell? ⟨H, 1, none⟩ = some ux ∧ W.cell? ⟨w.heap.size, 0, none⟩ = some (.int .i64 x) ∧ W.cell? ⟨w.heap.size, 1, none⟩ = some v := ⟨h.1.2.1.pair.1, h.1.2.1.pair.2.1, h.1.1.1.pair.1, h.1.1.1.pair.2.1⟩
/-- Behind the first marks. -/
def T8 (w A W : World) (x : Int) (v : Value) (Bg : Nat) (r1 : Value) (q : Nat) (f : Nat → Int) : Prop :=
  LC w W x v ∧ AnsT W Bg r1 q f ∧ Below A.heap.size A W ∧ w.heap.size + 1 ≤ A.heap.size ∧ A.heap.size ≤ Bg
theorem T8.down {w A W W' : World} {x : Int} {v : Value} {Bg : Nat} {r1 : Value} {q : Nat} {f : Nat → Int} (h : T8 w A W x v Bg r1 q f) (hb : Below W.heap.size W W') : T8 w A W' x v Bg r1 q f :=
  ⟨h.1.down hb, h.2.1.down hb, h.2.2.1.trans (hb.mono h.2.2.1.size), h.2.2.2⟩
theorem T8.marked {w A W W' : World} {x : Int} {v : Value} {Bg : Nat} {r1 : Value} {q : Nat} {f f2 : Nat → Int} (h : T8 w A W x v Bg r1 q f) (hb : Below Bg W W') (hc : AnsT W' Bg r1 q f2) : T8 w A W' x v Bg r1 q f2 :=
  have h9 := h.2.2.2
  ⟨⟨h.1.1.below hb (by omega), h.1.2.1.trans (hb.mono (by omega)), Nat.le_trans h.1.2.2 hb.size⟩, hc, h.2.2.1.trans (hb.mono h9.2), h9⟩
theorem TF.k8 {w A W W' : World} {x : Int} {v : Value} {H : Nat} {ux : Value} {k : Nat} {rs : Nat → Rw} {Bg : Nat} {r1 : Value} {q : Nat} {f : Nat → Int} (h : TF w A W x v H ux k rs Bg r1 q f) (hk : Kept A.heap.size H W W') : T8 w A W' x v Bg r1 q f :=
  have h9 := h.1.2.2.2.2
  have h8 := h.2.2
  ⟨⟨hk.blk h.1.1.1 (.inl (by omega)), h.1.1.2.1.trans (hk.below (by omega) h.1.1.2.1.size), Nat.le_trans h.1.1.2.2 hk.size⟩, h.2.1.kept hk (by omega), h.1.2.2.2.1.trans (hk.below (Nat.le_refl _) h.1.2.2.2.1.size), by omega, by omega⟩
end M
/-- The list is marked; all below stays. -/
theorem mark_ansT (B n k0 : Nat) (r : Value) (f : Nat → Int) (w : World) (h : AnsT w B r n f) (hn : n ≤ 1048576) (hk0 : k0 ≤ 1000000000) :
    Calls Try.prog 35 #[r, .int .i64 (k0 : Nat)] w fun e w' => e = .returned (.int .i64 ((k0 + n * 2 : Nat) : Int)) ∧ AnsT w' B r n (mkT k0) ∧ Below B w w' := by
  rcases h with ⟨rfl, rfl⟩ | ⟨b, c, rfl, hB, hk⟩
  · refine (mark_none none 0 (k0 : Nat) w).mono ?_
    rintro e w' ⟨rfl, rfl⟩
    exact ⟨rfl, .inl ⟨rfl, rfl⟩, Below.refl _ _⟩
  · refine (mark_timers b n c k0 f w hk hn hk0).mono ?_
    rintro e w' ⟨rfl, hk', ho⟩
    exact ⟨rfl, .inr ⟨b, c, rfl, hB, hk'⟩, ho.below hB⟩
set_option maxRecDepth 20000 in
set_option maxHeartbeats 8000000 in
theorem law_timers_run (x : Int) (v : Value) (k : Nat) (rs : Nat → Rw) (w : World) (hv : RowsOf w v k rs) (hl : Lens k rs)
    (hC : Small k rs → ∃ (q : Nat) (f : Nat → Int) (b : Bool), q ≤ 1048576 ∧
      (∀ (v : Value) (W : World), RowsOf W v k rs → Calls Try.prog 32 #[.agg #[.int .i64 x, v]] W fun e w' => (∃ r, e = .returned (.tuple #[r, .bool b]) ∧ TimersOf w' r q f) ∧ Below W.heap.size W w') ∧
      (∀ (v : Value) (W : World), RowsOf W v k rs → Calls Try.prog 33 #[.agg #[.int .i64 x, v]] W fun e w' => (∃ r, e = .returned (.tuple #[r, .bool b]) ∧ AnsT w' W.heap.size r q f) ∧ Below W.heap.size W w')) :
    Calls Try.prog 9 #[.agg #[.int .i64 x, v]] w fun e w' => e = .returned (.bool true) ∧ Below w.heap.size w w' := by
  have HV := hide hv
  have HC := hide hC
  obtain ⟨a, cap, rfl⟩ := hv.form
  have HL := hide hl
  have HL0 := hide (show LC w (w.alloc (.cells #[.int .i64 x, .slice a k cap] 31)) x (.slice a k cap) from ⟨Blk.fresh w #[.int .i64 x, .slice a k cap] 2 (p2 (.int .i64 x) (.slice a k cap)) 31 rfl, (Below.refl w.heap.size w).alloc (Nat.le_refl _) _, by simp⟩)
  clear hv hl hC
  go_enter Try.func9, Try.ntmps9
  go_wp2_with fail
  refine (sz_wheel x _ k rs _ (HV.out.below HL0.out.2.1) HL.out).mono ?_
  rintro e w1 ⟨⟨r, rfl, hr⟩, hb⟩
  have HL1 := hide (HL0.out.down hb)
  clear hb HL0
  by_cases hrn : r < 0
  · have hbf := HL1.out.2.1
    clear hr HL1
    go_wp2
    go_ret
    exact ⟨rfl, hbf⟩
  · have hsm : Small k rs := by
      rcases hr with h | ⟨_, h⟩
      · omega
      · exact h
    have HSm := hide hsm
    have HS := hide hsm.short
    obtain ⟨q, f, b, hq, hSp, hIm⟩ := HC.out hsm
    have hbb : (b != b) = false := by cases b <;> rfl
    obtain ⟨m, hm⟩ : ∃ m, 1 + q * 2 = m := ⟨_, rfl⟩
    have hmn : ¬ ((m : Int) < 0) := by omega
    have hmm : ((m : Int) != (m : Int)) = false := by simp
    have HM := hide hm
    have HSp := hide hSp
    have HIm := hide hIm
    clear hr hsm HC HL hSp hIm hm
    obtain ⟨d0, d1, -, -⟩ := HL1.out.1.pair
    go_wp2_with fail
    refine (to_wheel x _ k rs _ (HV.out.below HL1.out.2.1) HS.out).mono ?_
    rintro e w2 ⟨⟨_, rfl, g2, β2, X2, rfl, hg2, hX2⟩, hb⟩
    have HL2 := hide (HL1.out.down hb)
    clear d0 d1 hb HL1
    go_wp2_with fail
    refine (HSp.out _ _ (hX2.rows (cap' := k))).mono ?_
    rintro e wA ⟨⟨r3, rfl, hR3⟩, hb⟩
    obtain ⟨aS, cS, rfl⟩ := hR3.form
    have HLA := hide (HL2.out.down hb)
    have HR0 := hide hR3
    clear hb hR3 HL2 hX2
    obtain ⟨d0, d1, -, -⟩ := HLA.out.1.pair
    go_wp2_with fail
    refine (to_wheel x _ k rs _ (HV.out.below HLA.out.2.1) HS.out).mono ?_
    rintro e w6 ⟨⟨_, rfl, gx, βx, Xx, rfl, hgx, hXx⟩, hb6⟩
    obtain ⟨w7, hw7⟩ : ∃ w7, w6.alloc (.cells #[.int .i64 x, sl gx k] 24) = w7 := ⟨_, rfl⟩
    have HM7 := hide (show T7 w wA w7 x (.slice a k cap) w6.heap.size (sl gx k) k rs from by
      subst hw7
      have hdn := (Below.refl w6.heap.size w6).alloc (Nat.le_refl _) (.cells #[.int .i64 x, sl gx k] 24)
      have hAn : AnsW w6 wA.heap.size (sl gx k) k rs := .inr ⟨gx, k, k, βx, Xx, rfl, hXx⟩
      exact ⟨(HLA.out.down hb6).down hdn, Blk.fresh w6 #[.int .i64 x, sl gx k] 2 (p2 (.int .i64 x) (sl gx k)) 24 rfl, hAn.x.down hdn, hb6.trans (hdn.mono hb6.size), by simp, HLA.out.2.2, hb6.size⟩)
    have Hw7 := hide hw7
    clear hXx hb6 hw7 HLA d0 d1
    obtain ⟨d0, d1, -, -⟩ := HM7.out.2.1.pair
    rw [← Hw7.out] at d0 d1
    go_wp2_with fail
    rw [Hw7.out]
    refine (HIm.out _ _ HM7.out.2.2.1.rows).mono ?_
    rintro e w8 ⟨⟨r8, rfl, hA8⟩, hb⟩
    obtain ⟨aG, cG, rfl⟩ := hA8.tims.form
    have HF9 := hide (show TF w wA w8 x (.slice a k cap) w6.heap.size (sl gx k) k rs w7.heap.size (.slice aG q cG) q f from ⟨HM7.out.down hb, hA8, HM7.out.2.2.2.2.1⟩)
    clear hb hA8 HM7 d0 d1 Hw7
    go_wp2_with fail
    refine (eq_timers _ _ q f _ HF9.out.2.1.tims (HR0.out.below HF9.out.1.2.2.2.1) hq).mono ?_
    rintro e w10 ⟨rfl, hb⟩
    have hF10 := HF9.out.down hb
    clear hb HF9
    go_upto_region 10 with fail
    have hF10d := hF10.down (Below.refl w10.heap.size w10).drew
    have HTW10 := hide (show ∀ W, TF w wA W x (.slice a k cap) w6.heap.size (sl gx k) k rs w7.heap.size (.slice aG q cG) q f → Calls Try.prog 18 #[.agg #[.int .i64 x, .slice a k cap]] W fun e w' => (∃ u, e = .returned (.agg #[.int .i64 x, u]) ∧ ∃ g β X, u = sl g k ∧ W.heap.size ≤ g ∧ AW 52 w' W.heap.size g k k rs β X) ∧ TF w wA w' x (.slice a k cap) w6.heap.size (sl gx k) k rs w7.heap.size (.slice aG q cG) q f ∧ Below W.heap.size W w' from fun W hW => (to_wheel x _ k rs W (HV.out.below hW.1.1.2.1) HS.out).mono fun e w' ⟨h1, h2⟩ => ⟨h1, hW.down h2, h2⟩)
    go_cut [45] from 41 (fun bb wx => bb = .bool false ∧ Hid (TF w wA wx x (.slice a k cap) w6.heap.size (sl gx k) k rs w7.heap.size (.slice aG q cG) q f))
    case first =>
      go_region_held (fun W => W.cell? ⟨w6.heap.size, 0, none⟩ = some (.int .i64 x) ∧ W.cell? ⟨w6.heap.size, 1, none⟩ = some (sl gx k) ∧ W.cell? ⟨w.heap.size, 0, none⟩ = some (.int .i64 x) ∧ W.cell? ⟨w.heap.size, 1, none⟩ = some (.slice a k cap)) (first | exact TF.s hFe | exact TF.s hFj | exact TF.s hF10d) (first
        | (go_at_call 18; refine Calls.mono (HTW10.out _ (by assumption)) ?_; rintro e wj ⟨⟨_, rfl, gj, βj, Xj, rfl, hgj, hXj⟩, hFj, hbj⟩)
        | (go_at_call 13; refine Calls.mono (eq_wheel x _ _ k rs _ hFj.1.2.2.1.rows (hXj.rows (cap' := k)) HS.out) ?_; rintro e we ⟨rfl, hbe⟩; have hFe := hFj.down hbe))
      all_goals
        go_wp2_with fail
        go_meet
        exact ⟨rfl, hide hFe⟩
    case rest =>
      rename World => wC
      obtain ⟨rfl, HF11⟩ := hcut
      clear hF10 hF10d HTW10
      obtain ⟨d0, d1, -, -⟩ := HF11.out.1.2.1.pair
      go_wp2_with fail
      refine (mark_wheel x wA.heap.size w6.heap.size k 1 _ rs _ HF11.out.1.2.2.1 HSm.out (by omega)).mono ?_
      rintro e w12 ⟨rfl, -, hk⟩
      have HK9 := hide (HF11.out.k8 hk)
      have hknn : ¬ (((1 + tot rs k * 2 : Nat) : Int) < 0) := by omega
      clear hk HF11 d0 d1
      go_wp2_with fail
      refine (eq_timers _ _ q f _ HK9.out.2.1.tims (HR0.out.below HK9.out.2.2.1) hq).mono ?_
      rintro e w13 ⟨rfl, hb⟩
      have HK10 := hide (HK9.out.down hb)
      clear hb HK9 hknn
      go_wp2_with fail
      refine (mark_ansT w7.heap.size q 1 _ f _ HK10.out.2.1 hq (by omega)).mono ?_
      rintro e w14 ⟨rfl, hC, hb⟩
      have HK11 := hide (HK10.out.marked hb hC)
      clear hb hC HK10
      rw [HM.out]
      go_wp2_with fail
      refine (held_timers _ q 1 _ HK11.out.2.1.tims hq (by omega)).mono ?_
      rintro e w15 ⟨rfl, rfl⟩
      rw [HM.out]
      have HN := hide HK11.out
      clear HK11
      obtain ⟨d0, d1, -, -⟩ := HN.out.1.1.pair
      go_wp2_with fail
      refine (to_wheel x _ k rs _ (HV.out.below HN.out.1.2.1) HS.out).mono ?_
      rintro e w16 ⟨⟨_, rfl, g16, β16, X16, rfl, hg16, hX16⟩, hb⟩
      have HN16 := hide (HN.out.down hb)
      clear d0 d1 hb HN
      go_wp2_with fail
      refine (HIm.out _ _ (hX16.rows (cap' := k))).mono ?_
      rintro e w17 ⟨⟨r17, rfl, hA17⟩, hb⟩
      obtain ⟨aH, cH, rfl⟩ := hA17.tims.form
      have HN17 := hide (HN16.out.down hb)
      have HA17 := hide hA17.tims
      clear hb hA17 hX16 HN16
      go_wp2_with fail
      refine (eq_timers _ _ q f _ HA17.out (HR0.out.below HN17.out.2.2.1) hq).mono ?_
      rintro e w18 ⟨rfl, hb⟩
      have HK12 := hide (HN17.out.down hb)
      clear hb HN17 HA17
      go_wp2_with fail
      refine (held_timers _ q 1 _ HK12.out.2.1.tims hq (by omega)).mono ?_
      rintro e w19 ⟨rfl, rfl⟩
      have hbz := HK12.out.1.2.1
      rw [HM.out]
      clear HK12 HR0 HV HS HSm HM
      go_wp2
      go_ret
      exact ⟨rfl, hbz⟩
end Go.Proofs.Ytcodllammndciaa

/-
  The law of DropTimer, walked: it returns true and turns nothing that was there, wherever both texts tell the same.
-/
import Derived.Test.YtcodllammndciaaWhLQ
namespace Go.Proofs.Ytcodllammndciaa
open Go.RowKit M
open Clk (upd upd_same upd_other)
namespace M
/-- The box of the law's wheel. -/
def LC (w W : World) (x : Int) (v : Value) : Prop := Blk W w.heap.size 2 (p2 (.int .i64 x) v) 31 ∧ Below w.heap.size w W ∧ w.heap.size + 1 ≤ W.heap.size
theorem LC.down {w W W' : World} {x : Int} {v : Value} (h : LC w W x v) (hb : Below W.heap.size W W') : LC w W' x v :=
  ⟨h.1.down hb, h.2.1.trans (hb.mono (Nat.le_trans (Nat.le_succ _) h.2.2)), Nat.le_trans h.2.2 hb.size⟩
def D7 (w A W : World) (x : Int) (v : Value) (g0 : Nat) (x' : Int) (us : Value) (H : Nat) (ux : Value) (k : Nat) (rs : Nat → Rw) : Prop :=
  LC w W x v ∧ Blk W g0 2 (p2 (.int .i64 x') us) 24 ∧ Blk W H 2 (p2 (.int .i64 x) ux) 24 ∧ AnsX W A.heap.size H ux k rs ∧ Below A.heap.size A W ∧ H + 1 ≤ W.heap.size ∧ g0 < A.heap.size ∧ w.heap.size + 1 ≤ A.heap.size ∧ A.heap.size ≤ H
theorem D7.down {w A W : World} {x : Int} {v : Value} {g0 : Nat} {x' : Int} {us : Value} {H : Nat} {ux : Value} {k : Nat} {rs : Nat → Rw} {W' : World} (h : D7 w A W x v g0 x' us H ux k rs) (hb : Below W.heap.size W W') : D7 w A W' x v g0 x' us H ux k rs :=
  ⟨h.1.down hb, h.2.1.down hb, h.2.2.1.down hb, h.2.2.2.1.down hb, h.2.2.2.2.1.trans (hb.mono h.2.2.2.2.1.size), Nat.le_trans h.2.2.2.2.2.1 hb.size, h.2.2.2.2.2.2⟩
def DF (w A W : World) (x : Int) (v : Value) (g0 : Nat) (x' : Int) (us : Value) (H : Nat) (ux : Value) (k : Nat) (rs : Nat → Rw) (gG Bg hg : Nat) (u1 : Value) (k' : Nat) (rs' : Nat → Rw) : Prop :=
  D7 w A W x v g0 x' us H ux k rs ∧ Blk W gG 2 (p2 (.int .i64 x') u1) 24 ∧ AnsX W Bg hg u1 k' rs' ∧ H + 1 ≤ Bg ∧ H + 1 ≤ gG ∧ hg ≤ gG
theorem DF.down {w A W : World} {x : Int} {v : Value} {g0 : Nat} {x' : Int} {us : Value} {H : Nat} {ux : Value} {k : Nat} {rs : Nat → Rw} {W' : World} {gG Bg hg : Nat} {u1 : Value} {k' : Nat} {rs' : Nat → Rw} (h : DF w A W x v g0 x' us H ux k rs gG Bg hg u1 k' rs') (hb : Below W.heap.size W W') : DF w A W' x v g0 x' us H ux k rs gG Bg hg u1 k' rs' :=
  ⟨h.1.down hb, h.2.1.down hb, h.2.2.1.down hb, h.2.2.2⟩
theorem DF.al {w A W : World} {x : Int} {v : Value} {g0 : Nat} {x' : Int} {us : Value} {H : Nat} {ux : Value} {k : Nat} {rs : Nat → Rw} {B : Nat} {u1 : Value} {k' : Nat} {rs' : Nat → Rw} (h : D7 w A W x v g0 x' us H ux k rs) (ha : AnsW W B u1 k' rs') (hB : H + 1 ≤ B) : DF w A (W.alloc (.cells #[.int .i64 x', u1] 24)) x v g0 x' us H ux k rs W.heap.size B W.heap.size u1 k' rs' :=
  have hd := (Below.refl W.heap.size W).alloc (Nat.le_refl _) (.cells #[.int .i64 x', u1] 24)
  ⟨h.down hd, Blk.fresh W #[.int .i64 x', u1] 2 (p2 (.int .i64 x') u1) 24 rfl, ha.x.down hd, hB, h.2.2.2.2.2.1, Nat.le_refl _⟩
theorem DF.s {w A W : World} {x : Int} {v : Value} {g0 : Nat} {x' : Int} {us : Value} {H : Nat} {ux : Value} {k : Nat} {rs : Nat → Rw} {gG Bg hg : Nat} {u1 : Value} {k' : Nat} {rs' : Nat → Rw} (h : DF w A W x v g0 x' us H ux k rs gG Bg hg u1 k' rs') : W.cell? ⟨H, 0, none⟩ = some (.int .i64 x) ∧ W.cell? ⟨H, 1, none⟩ = some ux ∧ W.cell? ⟨w.heap.size, 0, none⟩ = some (.int .i64 x) ∧ W.cell? ⟨w.heap.size, 1, none⟩ = some v := ⟨h.1.2.2.1.pair.1, h.1.2.2.1.pair.2.1, h.1.1.1.pair.1, h.1.1.1.pair.2.1⟩
/-- Behind the first marks. -/
def D8 (w A W : World) (x : Int) (v : Value) (g0 gG Bg hg : Nat) (x' : Int) (us u1 : Value) (k' : Nat) (rs1 : Nat → Rw) : Prop :=
  LC w W x v ∧ Blk W g0 2 (p2 (.int .i64 x') us) 24 ∧ Blk W gG 2 (p2 (.int .i64 x') u1) 24 ∧ AnsX W Bg hg u1 k' rs1 ∧ Below A.heap.size A W ∧ w.heap.size + 1 ≤ A.heap.size ∧ A.heap.size ≤ Bg ∧ g0 < A.heap.size ∧ hg ≤ gG
theorem D8.down {w A W : World} {x : Int} {v : Value} {g0 gG Bg hg : Nat} {x' : Int} {us u1 : Value} {k' : Nat} {rs1 : Nat → Rw} {W' : World} (h : D8 w A W x v g0 gG Bg hg x' us u1 k' rs1) (hb : Below W.heap.size W W') : D8 w A W' x v g0 gG Bg hg x' us u1 k' rs1 :=
  ⟨h.1.down hb, h.2.1.down hb, h.2.2.1.down hb, h.2.2.2.1.down hb, h.2.2.2.2.1.trans (hb.mono h.2.2.2.2.1.size), h.2.2.2.2.2⟩
theorem D8.marked {w A W : World} {x : Int} {v : Value} {g0 gG Bg hg : Nat} {x' : Int} {us u1 : Value} {k' : Nat} {rs1 : Nat → Rw} {W' : World} {rs2 : Nat → Rw} (h : D8 w A W x v g0 gG Bg hg x' us u1 k' rs1) (hk : Kept Bg hg W W') (ha : AnsX W' Bg hg u1 k' rs2) : D8 w A W' x v g0 gG Bg hg x' us u1 k' rs2 :=
  have h9 := h.2.2.2.2.2
  ⟨⟨hk.blk h.1.1 (.inl (by omega)), h.1.2.1.trans (hk.below (by omega) h.1.2.1.size), Nat.le_trans h.1.2.2 hk.size⟩, hk.blk h.2.1 (.inl (by omega)), hk.blk h.2.2.1 (.inr h9.2.2.2), ha, h.2.2.2.2.1.trans (hk.below (by omega) h.2.2.2.2.1.size), h9⟩
theorem DF.k8 {w A W : World} {x : Int} {v : Value} {g0 : Nat} {x' : Int} {us : Value} {H : Nat} {ux : Value} {k : Nat} {rs : Nat → Rw} {W' : World} {gG Bg hg : Nat} {u1 : Value} {k' : Nat} {rs' : Nat → Rw} (h : DF w A W x v g0 x' us H ux k rs gG Bg hg u1 k' rs') (hk : Kept A.heap.size H W W') : D8 w A W' x v g0 gG Bg hg x' us u1 k' rs' :=
  have h9 := h.1.2.2.2.2.2
  have h8 := h.2.2.2
  ⟨⟨hk.blk h.1.1.1 (.inl (by omega)), h.1.1.2.1.trans (hk.below (by omega) h.1.1.2.1.size), Nat.le_trans h.1.1.2.2 hk.size⟩, hk.blk h.1.2.1 (.inl (by omega)), hk.blk h.2.1 (.inr (by omega)), h.2.2.1.kept hk (by omega), h.1.2.2.2.2.1.trans (hk.below (Nat.le_refl _) h.1.2.2.2.2.1.size), by omega, by omega, by omega, h8.2.2⟩
end M
set_option maxRecDepth 20000 in
set_option maxHeartbeats 8000000 in
theorem law_drop_run (x : Int) (v : Value) (k : Nat) (rs : Nat → Rw) (id : Int) (w : World) (hv : RowsOf w v k rs) (hl : Lens k rs)
    (hC : Small k rs → ∃ (x' : Int) (k' : Nat) (rs' : Nat → Rw) (b : Bool), Small k' rs' ∧
      (∀ (v : Value) (W : World), RowsOf W v k rs → Calls Try.prog 23 #[.agg #[.int .i64 x, v], .int .i64 id] W fun e w' => (∃ u, e = .returned (.tuple #[.agg #[.int .i64 x', u], .bool b]) ∧ RowsK W.heap.size w' u k' rs') ∧ Below W.heap.size W w') ∧
      (∀ (v : Value) (W : World), RowsOf W v k rs → Calls Try.prog 24 #[.agg #[.int .i64 x, v], .int .i64 id] W fun e w' => (∃ u, e = .returned (.tuple #[.agg #[.int .i64 x', u], .bool b]) ∧ AnsW w' W.heap.size u k' rs') ∧ Below W.heap.size W w')) :
    Calls Try.prog 6 #[.agg #[.int .i64 x, v], .int .i64 id] w fun e w' => e = .returned (.bool true) ∧ Below w.heap.size w w' := by
  have HV := hide hv
  have HC := hide hC
  obtain ⟨a, cap, rfl⟩ := hv.form
  have HL := hide hl
  have HL0 := hide (show LC w (w.alloc (.cells #[.int .i64 x, .slice a k cap] 31)) x (.slice a k cap) from ⟨Blk.fresh w #[.int .i64 x, .slice a k cap] 2 (p2 (.int .i64 x) (.slice a k cap)) 31 rfl, (Below.refl w.heap.size w).alloc (Nat.le_refl _) _, by simp⟩)
  clear hv hl hC
  go_enter Try.func6, Try.ntmps6
  go_wp2_with fail
  refine (sz_wheel x _ k rs _ (HV.out.below HL0.out.2.1) HL.out).mono ?_
  rintro e w1 ⟨⟨r, rfl, hr⟩, hb⟩
  have HL1 := hide (HL0.out.down hb)
  clear hb HL0
  by_cases hrn : r < 0
  · have hbf := HL1.out.2.1
    clear hr HL1
    go_wp2
    go_ret
    exact ⟨rfl, hbf⟩
  · have hsm : Small k rs := by
      rcases hr with h | ⟨_, h⟩
      · omega
      · exact h
    have HSm := hide hsm
    have HS := hide hsm.short
    obtain ⟨x', k', rs', b, hs', hSp, hIm⟩ := HC.out hsm
    have HS' := hide hs'
    have hbb : (b != b) = false := by cases b <;> rfl
    have HSp := hide hSp
    have HIm := hide hIm
    clear hr hsm HC HL hSp hIm hs'
    obtain ⟨d0, d1, -, -⟩ := HL1.out.1.pair
    go_wp2_with fail
    refine (to_wheel x _ k rs _ (HV.out.below HL1.out.2.1) HS.out).mono ?_
    rintro e w2 ⟨⟨_, rfl, g2, β2, X2, rfl, hg2, hX2⟩, hb⟩
    have HL2 := hide (HL1.out.down hb)
    clear d0 d1 hb HL1
    go_wp2_with fail
    refine (HSp.out _ _ (hX2.rows (cap' := k))).mono ?_
    rintro e w3 ⟨⟨u3, rfl, hR3⟩, hb⟩
    obtain ⟨aS, cS, rfl⟩ := hR3.rows.form
    have hdn := (Below.refl w3.heap.size w3).alloc (Nat.le_refl _) (.cells #[.int .i64 x', .slice aS k' cS] 24)
    obtain ⟨wA, hwA⟩ : ∃ wA, w3.alloc (.cells #[.int .i64 x', .slice aS k' cS] 24) = wA := ⟨_, rfl⟩
    have HLA := hide (show LC w wA x (.slice a k cap) from hwA ▸ (HL2.out.down hb).down hdn)
    have HR0 := hide (show RowsOf wA (.slice aS k' cS) k' rs' from hwA ▸ (hR3.down hdn).rows)
    have HW0 := hide (show Blk wA w3.heap.size 2 (p2 (.int .i64 x') (.slice aS k' cS)) 24 from hwA ▸ Blk.fresh w3 #[.int .i64 x', .slice aS k' cS] 2 (p2 (.int .i64 x') (.slice aS k' cS)) 24 rfl)
    have HwA := hide hwA
    clear hb hdn hR3 HL2 hX2 hwA
    obtain ⟨d0, d1, -, -⟩ := HLA.out.1.pair
    rw [← HwA.out] at d0 d1
    go_wp2_with fail
    rw [HwA.out]
    refine (to_wheel x _ k rs _ (HV.out.below HLA.out.2.1) HS.out).mono ?_
    rintro e w6 ⟨⟨_, rfl, gx, βx, Xx, rfl, hgx, hXx⟩, hb6⟩
    obtain ⟨w7, hw7⟩ : ∃ w7, w6.alloc (.cells #[.int .i64 x, sl gx k] 24) = w7 := ⟨_, rfl⟩
    have HM7 := hide (show D7 w wA w7 x (.slice a k cap) w3.heap.size x' (.slice aS k' cS) w6.heap.size (sl gx k) k rs from by
      subst hw7
      have hdn := (Below.refl w6.heap.size w6).alloc (Nat.le_refl _) (.cells #[.int .i64 x, sl gx k] 24)
      have hAn : AnsW w6 wA.heap.size (sl gx k) k rs := .inr ⟨gx, k, k, βx, Xx, rfl, hXx⟩
      exact ⟨(HLA.out.down hb6).down hdn, (HW0.out.down hb6).down hdn, Blk.fresh w6 #[.int .i64 x, sl gx k] 2 (p2 (.int .i64 x) (sl gx k)) 24 rfl, hAn.x.down hdn, hb6.trans (hdn.mono hb6.size), by simp, HW0.out.lt, HLA.out.2.2, hb6.size⟩)
    have Hw7 := hide hw7
    clear hXx hb6 hw7 HLA HW0 d0 d1 HwA
    obtain ⟨d0, d1, -, -⟩ := HM7.out.2.2.1.pair
    rw [← Hw7.out] at d0 d1
    go_wp2_with fail
    rw [Hw7.out]
    refine (HIm.out _ _ HM7.out.2.2.2.1.rows).mono ?_
    rintro e w8 ⟨⟨u8, rfl, hA8⟩, hb⟩
    obtain ⟨aG, cG, rfl⟩ := hA8.rows.form
    obtain ⟨w9, hw9⟩ : ∃ w9, w8.alloc (.cells #[.int .i64 x', .slice aG k' cG] 24) = w9 := ⟨_, rfl⟩
    have HF9 := hide (show DF w wA w9 x (.slice a k cap) w3.heap.size x' (.slice aS k' cS) w6.heap.size (sl gx k) k rs w8.heap.size w7.heap.size w8.heap.size (.slice aG k' cG) k' rs' from hw9 ▸ DF.al (HM7.out.down hb) hA8 HM7.out.2.2.2.2.2.1)
    have Hw9 := hide hw9
    clear hb hA8 hw9 HM7 d0 d1 Hw7
    obtain ⟨d0, d1, -, -⟩ := HF9.out.2.1.pair
    obtain ⟨d2, d3, -, -⟩ := HF9.out.1.2.1.pair
    rw [← Hw9.out] at d0 d1 d2 d3
    go_wp2_with fail
    rw [Hw9.out]
    refine (eq_wheel x' _ _ k' rs' _ HF9.out.2.2.1.rows (HR0.out.below HF9.out.1.2.2.2.2.1) HS'.out.short).mono ?_
    rintro e w10 ⟨rfl, hb⟩
    have hF10 := HF9.out.down hb
    clear hb HF9 d0 d1 d2 d3 Hw9
    go_upto_region 10 with fail
    have hF10d := hF10.down (Below.refl w10.heap.size w10).drew
    have HTW10 := hide (show ∀ W, DF w wA W x (.slice a k cap) w3.heap.size x' (.slice aS k' cS) w6.heap.size (sl gx k) k rs w8.heap.size w7.heap.size w8.heap.size (.slice aG k' cG) k' rs' → Calls Try.prog 18 #[.agg #[.int .i64 x, .slice a k cap]] W fun e w' => (∃ u, e = .returned (.agg #[.int .i64 x, u]) ∧ ∃ g β X, u = sl g k ∧ W.heap.size ≤ g ∧ AW 52 w' W.heap.size g k k rs β X) ∧ DF w wA w' x (.slice a k cap) w3.heap.size x' (.slice aS k' cS) w6.heap.size (sl gx k) k rs w8.heap.size w7.heap.size w8.heap.size (.slice aG k' cG) k' rs' ∧ Below W.heap.size W w' from fun W hW => (to_wheel x _ k rs W (HV.out.below hW.1.1.2.1) HS.out).mono fun e w' ⟨h1, h2⟩ => ⟨h1, hW.down h2, h2⟩)
    go_cut [49] from 45 (fun bb wx => bb = .bool false ∧ Hid (DF w wA wx x (.slice a k cap) w3.heap.size x' (.slice aS k' cS) w6.heap.size (sl gx k) k rs w8.heap.size w7.heap.size w8.heap.size (.slice aG k' cG) k' rs'))
    case first =>
      go_region_held (fun W => W.cell? ⟨w6.heap.size, 0, none⟩ = some (.int .i64 x) ∧ W.cell? ⟨w6.heap.size, 1, none⟩ = some (sl gx k) ∧ W.cell? ⟨w.heap.size, 0, none⟩ = some (.int .i64 x) ∧ W.cell? ⟨w.heap.size, 1, none⟩ = some (.slice a k cap)) (first | exact DF.s hFe | exact DF.s hFj | exact DF.s hF10d) (first
        | (go_at_call 18; refine Calls.mono (HTW10.out _ (by assumption)) ?_; rintro e wj ⟨⟨_, rfl, gj, βj, Xj, rfl, hgj, hXj⟩, hFj, hbj⟩)
        | (go_at_call 13; refine Calls.mono (eq_wheel x _ _ k rs _ hFj.1.2.2.2.1.rows (hXj.rows (cap' := k)) HS.out) ?_; rintro e we ⟨rfl, hbe⟩; have hFe := hFj.down hbe))
      all_goals
        go_wp2_with fail
        go_meet
        exact ⟨rfl, hide hFe⟩
    case rest =>
      rename World => wC
      obtain ⟨rfl, HF11⟩ := hcut
      clear hF10 hF10d HTW10
      obtain ⟨d0, d1, -, -⟩ := HF11.out.1.2.2.1.pair
      go_wp2_with fail
      refine (mark_wheel x wA.heap.size w6.heap.size k 1 _ rs _ HF11.out.1.2.2.2.1 HSm.out (by omega)).mono ?_
      rintro e w12 ⟨rfl, -, hk⟩
      have HK9 := hide (HF11.out.k8 hk)
      have hknn : ¬ (((1 + tot rs k * 2 : Nat) : Int) < 0) := by omega
      clear hk HF11 d0 d1
      obtain ⟨d0, d1, -, -⟩ := HK9.out.2.2.1.pair
      obtain ⟨d2, d3, -, -⟩ := HK9.out.2.1.pair
      go_wp2_with fail
      refine (eq_wheel x' _ _ k' rs' _ HK9.out.2.2.2.1.rows (HR0.out.below HK9.out.2.2.2.2.1) HS'.out.short).mono ?_
      rintro e w13 ⟨rfl, hb⟩
      have HK10 := hide (HK9.out.down hb)
      clear hb HK9 d0 d1 d2 d3 hknn
      obtain ⟨d0, d1, -, -⟩ := HK10.out.2.2.1.pair
      go_wp2_with fail
      refine (mark_wheel x' w7.heap.size w8.heap.size k' 1 _ rs' _ HK10.out.2.2.2.1 HS'.out (by omega)).mono ?_
      rintro e w14 ⟨rfl, hA, hk⟩
      have HK11 := hide (HK10.out.marked hk hA)
      clear hk hA HK10 d0 d1
      obtain ⟨d0, d1, -, -⟩ := HK11.out.2.2.1.pair
      go_wp2_with fail
      refine (held_wheel x' k' 1 _ rs' _ HK11.out.2.2.2.1.rows HS'.out (by omega)).mono ?_
      rintro e w15 ⟨rfl, hb⟩
      have HN := hide (HK11.out.down hb)
      have hq1 : ¬ (((1 + tot rs' k' * 2 : Nat) : Int) < 0) := by omega
      have hq2 : (((1 + tot rs' k' * 2 : Nat) : Int) != ((1 + tot rs' k' * 2 : Nat) : Int)) = false := by simp
      clear hb HK11 d0 d1
      obtain ⟨d0, d1, -, -⟩ := HN.out.1.1.pair
      go_wp2_with fail
      refine (to_wheel x _ k rs _ (HV.out.below HN.out.1.2.1) HS.out).mono ?_
      rintro e w16 ⟨⟨_, rfl, g16, β16, X16, rfl, hg16, hX16⟩, hb⟩
      have HN16 := hide (HN.out.down hb)
      clear d0 d1 hb HN
      go_wp2_with fail
      refine (HIm.out _ _ (hX16.rows (cap' := k))).mono ?_
      rintro e w17 ⟨⟨u17, rfl, hA17⟩, hb⟩
      obtain ⟨aH, cH, rfl⟩ := hA17.rows.form
      have hdn := (Below.refl w17.heap.size w17).alloc (Nat.le_refl _) (.cells #[.int .i64 x', .slice aH k' cH] 24)
      have HN17 := hide ((HN16.out.down hb).down hdn)
      have HB17 := hide (Blk.fresh w17 #[.int .i64 x', .slice aH k' cH] 2 (p2 (.int .i64 x') (.slice aH k' cH)) 24 rfl)
      have HA17 := hide ((hA17.x.down hdn).rows)
      clear hb hdn hA17 hX16 HN16
      obtain ⟨d0, d1, -, -⟩ := HB17.out.pair
      obtain ⟨d2, d3, -, -⟩ := HN17.out.2.1.pair
      go_wp2_with fail
      refine (eq_wheel x' _ _ k' rs' _ HA17.out (HR0.out.below HN17.out.2.2.2.2.1) HS'.out.short).mono ?_
      rintro e w18 ⟨rfl, hb⟩
      have HK12 := hide (HN17.out.down hb)
      clear hb HN17 HA17 HB17 d0 d1 d2 d3
      obtain ⟨d0, d1, -, -⟩ := HK12.out.2.2.1.pair
      go_wp2_with fail
      refine (held_wheel x' k' 1 _ rs' _ HK12.out.2.2.2.1.rows HS'.out (by omega)).mono ?_
      rintro e w19 ⟨rfl, hb⟩
      have hbz := (HK12.out.down hb).1.2.1
      clear hb HK12 d0 d1 HR0 HV HS HSm HS'
      go_wp2
      go_ret
      exact ⟨rfl, hbz⟩
end Go.Proofs.Ytcodllammndciaa

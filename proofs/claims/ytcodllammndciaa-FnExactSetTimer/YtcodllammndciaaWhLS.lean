/-
  The law of SetTimer, walked: it returns true and turns nothing that was there, wherever both texts tell the same.
-/
import Derived.Test.YtcodllammndciaaWhLQ
namespace Go.Proofs.Ytcodllammndciaa
open Go.RowKit M
open Clk (upd upd_same upd_other)
set_option maxRecDepth 20000 in
set_option maxHeartbeats 8000000 in
theorem law_set_run (x : Int) (v : Value) (k : Nat) (rs : Nat → Rw) (tm id : Int) (w : World) (hv : RowsOf w v k rs) (hl : Lens k rs)
    (hC : Small k rs → ∃ (x' : Int) (k' : Nat) (rs' : Nat → Rw) (b : Bool), Small k' rs' ∧
      (∀ (v : Value) (W : World), RowsOf W v k rs → Calls Try.prog 20 #[.agg #[.int .i64 x, v], .agg #[.int .i64 tm, .int .i64 id]] W fun e w' => (∃ u, e = .returned (.tuple #[.agg #[.int .i64 x', u], .bool b]) ∧ RowsK W.heap.size w' u k' rs') ∧ Below W.heap.size W w') ∧
      (∀ (v : Value) (W : World), RowsOf W v k rs → Calls Try.prog 22 #[.agg #[.int .i64 x, v], .agg #[.int .i64 tm, .int .i64 id]] W fun e w' => (∃ u, e = .returned (.tuple #[.agg #[.int .i64 x', u], .bool b]) ∧ AnsW w' W.heap.size u k' rs') ∧ Below W.heap.size W w')) :
    Calls Try.prog 5 #[.agg #[.int .i64 x, v], .agg #[.int .i64 tm, .int .i64 id]] w fun e w' => e = .returned (.bool true) ∧ Below w.heap.size w w' := by
  have HV := hide hv
  have HC := hide hC
  obtain ⟨a, cap, rfl⟩ := hv.form
  have HL := hide hl
  have hb0 := ((Below.refl w.heap.size w).alloc (Nat.le_refl _) (.cells #[.int .i64 x, .slice a k cap] 31)).alloc (by simp) (.cells #[.int .i64 tm, .int .i64 id] 37)
  have hN0 := (Blk.fresh w #[.int .i64 x, .slice a k cap] 2 (p2 (.int .i64 x) (.slice a k cap)) 31 rfl).alloc (.cells #[.int .i64 tm, .int .i64 id] 37)
  have hT0 := Blk.fresh (w.alloc (.cells #[.int .i64 x, .slice a k cap] 31)) #[.int .i64 tm, .int .i64 id] 2 (p2 (.int .i64 tm) (.int .i64 id)) 37 rfl
  rw [World.size_alloc] at hT0
  have hL0 : LB w ((w.alloc (.cells #[.int .i64 x, .slice a k cap] 31)).alloc (.cells #[.int .i64 tm, .int .i64 id] 37)) x (.slice a k cap) tm id := ⟨hN0, hT0, hb0, by simp⟩
  clear hv hl hC hb0 hN0 hT0
  go_enter Try.func5, Try.ntmps5
  go_wp2_with fail
  refine (sz_wheel x _ k rs _ (HV.out.below hL0.2.2.1) HL.out).mono ?_
  rintro e w1 ⟨⟨r, rfl, hr⟩, hb⟩
  have hL1 := hL0.down hb hL0.2.2.2
  clear hb hL0
  by_cases hrn : r < 0
  · have hbf := hL1.2.2.1
    clear hr hL1
    go_wp2
    go_ret
    exact ⟨rfl, hbf⟩
  · have hsm : Small k rs := by
      rcases hr with h | ⟨_, h⟩
      · omega
      · exact h
    have HSm := hide hsm
    have HS := hide hsm.short
    obtain ⟨x', k', rs', b, hs', hSp, hIm⟩ := HC.out hsm
    have HS' := hide hs'
    have hbb : (b != b) = false := by cases b <;> rfl
    have HTW := hide (show ∀ W, LB w W x (.slice a k cap) tm id → Calls Try.prog 18 #[.agg #[.int .i64 x, .slice a k cap]] W fun e w' => (∃ u, e = .returned (.agg #[.int .i64 x, u]) ∧ ∃ g β X, u = sl g k ∧ W.heap.size ≤ g ∧ AW 52 w' W.heap.size g k k rs β X) ∧ LB w w' x (.slice a k cap) tm id ∧ Below W.heap.size W w' from fun W hW => (to_wheel x _ k rs W (HV.out.below hW.2.2.1) HS.out).mono fun e w' ⟨h1, h2⟩ => ⟨h1, hW.down h2 hW.2.2.2, h2⟩)
    have HTT := hide (show ∀ W, LB w W x (.slice a k cap) tm id → Calls Try.prog 21 #[.agg #[.int .i64 tm, .int .i64 id]] W fun e w' => e = .returned (.agg #[.int .i64 tm, .int .i64 id]) ∧ LB w w' x (.slice a k cap) tm id ∧ Below W.heap.size W w' from fun W hW => (to_timer tm id W).mono fun e w' ⟨h1, h2⟩ => ⟨h1, hW.down h2 hW.2.2.2, h2⟩)
    have HSp := hide hSp
    have HIm := hide hIm
    clear hr hsm HC HL hSp hIm hs'
    have hL1d := hL1.drew
    have hL1a := hL1d.alloc o0
    have hL1b := (hL1.alloc o0).drew
    obtain ⟨db0, db1, -, -⟩ := hL1b.1.pair
    obtain ⟨db2, db3, -, -⟩ := hL1b.2.1.pair
    obtain ⟨d0, d1, -, -⟩ := hL1d.1.pair
    obtain ⟨d2, d3, -, -⟩ := hL1d.2.1.pair
    obtain ⟨da0, da1, -, -⟩ := hL1a.1.pair
    obtain ⟨da2, da3, -, -⟩ := hL1a.2.1.pair
    go_upto_region 5 with fail
    go_cut [6, 7] from 21 (fun g bb wx => ∃ (g0 : Nat) (aS : Option Addr) (cS : Nat), g = .pointer (some ⟨g0, 0, none⟩) ∧ bb = .bool b ∧ Hid (F5 w wx x (.slice a k cap) tm id g0 x' (.slice aS k' cS) k' rs'))
    case first =>
      go_region_held (fun W => W.cell? ⟨w.heap.size, 0, none⟩ = some (.int .i64 x) ∧ W.cell? ⟨w.heap.size, 1, none⟩ = some (.slice a k cap) ∧ W.cell? ⟨w.heap.size + 1, 0, none⟩ = some (.int .i64 tm) ∧ W.cell? ⟨w.heap.size + 1, 1, none⟩ = some (.int .i64 id)) (first | exact LB.s hLs | exact LB.s (hLs.alloc _) | exact LB.s ((hLs.set (by first | exact hL1d.2.2.2 | exact hLj.2.2.2 | exact hLt.2.2.2) _ _).set (by first | exact hL1d.2.2.2 | exact hLj.2.2.2 | exact hLt.2.2.2) _ _) | exact LB.s hLt | exact LB.s hLta | exact LB.s hLj | exact LB.s hLja | exact LB.s hL1d | exact LB.s hL1a | exact LB.s hL1b) (first
        | (go_at_call 18; refine Calls.mono (HTW.out _ (by assumption)) ?_; rintro e wj ⟨⟨_, rfl, gj, βj, Xj, rfl, hgj, hXj⟩, hLj, hbj⟩; have hRj := hXj.rows (cap' := k); have hRja := hRj.below ((Below.refl wj.heap.size wj).alloc (Nat.le_refl _) o0); have hLja := hLj.alloc o0; obtain ⟨pj0, pj1, -, -⟩ := hLj.1.pair; obtain ⟨pj2, pj3, -, -⟩ := hLj.2.1.pair; obtain ⟨pa0, pa1, -, -⟩ := hLja.1.pair; obtain ⟨pa2, pa3, -, -⟩ := hLja.2.1.pair ; (try (have hzj : Blk wj w1.heap.size 2 (p2 (.int .i64 0) (.slice none 0 0)) 24 := (Blk.fresh w1.drew #[.int .i64 0, .slice none 0 0] 2 (p2 (.int .i64 0) (.slice none 0 0)) 24 rfl).down hbj)) ; (try (have hzj : Blk wj w1.heap.size 2 (p2 (.int .i64 0) (.slice none 0 0)) 24 := ((Blk.fresh w1 #[.int .i64 0, .slice none 0 0] 2 (p2 (.int .i64 0) (.slice none 0 0)) 24 rfl).drew).down hbj)) ; (try (have hzj := (Blk.fresh wt #[.int .i64 0, .slice none 0 0] 2 (p2 (.int .i64 0) (.slice none 0 0)) 24 rfl).down hbj)) ; (try (have hzj := hzt.down hbj)) ; (try (obtain ⟨zj0, zj1, zj2, zj3⟩ := hzj.pair)))
        | (go_at_call 21; refine Calls.mono (HTT.out _ (by assumption)) ?_; rintro e wt ⟨rfl, hLt, hbt⟩; have hLta := hLt.alloc o0; obtain ⟨q0, q1, -, -⟩ := hLt.1.pair; obtain ⟨q2, q3, -, -⟩ := hLt.2.1.pair; obtain ⟨qa0, qa1, -, -⟩ := hLta.1.pair; obtain ⟨qa2, qa3, -, -⟩ := hLta.2.1.pair ; (try (have hRt := hRj.below hbt)) ; (try (have hRt := hRja.below hbt)) ; (try (have hzt : Blk wt w1.heap.size 2 (p2 (.int .i64 0) (.slice none 0 0)) 24 := (Blk.fresh w1.drew #[.int .i64 0, .slice none 0 0] 2 (p2 (.int .i64 0) (.slice none 0 0)) 24 rfl).down hbt)) ; (try (have hzt : Blk wt w1.heap.size 2 (p2 (.int .i64 0) (.slice none 0 0)) 24 := ((Blk.fresh w1 #[.int .i64 0, .slice none 0 0] 2 (p2 (.int .i64 0) (.slice none 0 0)) 24 rfl).drew).down hbt)) ; (try (have hzt := (Blk.fresh wj #[.int .i64 0, .slice none 0 0] 2 (p2 (.int .i64 0) (.slice none 0 0)) 24 rfl).down hbt)) ; (try (have hzt := hzj.down hbt)) ; (try (obtain ⟨zt0, zt1, zt2, zt3⟩ := hzt.pair)))
        | (go_at_call 20; refine Calls.mono (HSp.out _ _ (by first | exact hRt | exact hRt.below ((Below.refl _ _).alloc (Nat.le_refl _) _) | exact hRj | exact hRja)) ?_; rintro e ws ⟨⟨us, rfl, hRs⟩, hbs⟩; obtain ⟨aS, cS, rfl⟩ := hRs.rows.form; have hLs : LB w ws x (.slice a k cap) tm id := (by first | exact hLt.down hbs hLt.2.2.2 | exact hLta.down hbs hLta.2.2.2 | exact hLj.down hbs hLj.2.2.2 | exact hLja.down hbs hLja.2.2.2) ; (try (have hzW := Blk.fresh wj #[.int .i64 0, .slice none 0 0] 2 (p2 (.int .i64 0) (.slice none 0 0)) 24 rfl; have hzs := hzW.down hbs; have hzl := hzW.lt)) ; (try (have hzW := Blk.fresh wt #[.int .i64 0, .slice none 0 0] 2 (p2 (.int .i64 0) (.slice none 0 0)) 24 rfl; have hzs := hzW.down hbs; have hzl := hzW.lt)) ; (try (have hzs := hzj.down hbs; have hzl := hzj.lt)) ; (try (have hzs := hzt.down hbs; have hzl := hzt.lt)) ; (try (obtain ⟨zs0, zs1, zs2, zs3⟩ := hzs.pair))))
      all_goals
        go_wp2_with fail
        go_meet
        first
        | exact ⟨_, _, _, rfl, rfl, hide (F5.al hLs hRs)⟩
        | exact ⟨_, _, _, rfl, rfl, hide (F5.st hLs hRs hzs hzl (by first | exact hL1d.2.2.2 | exact hLj.2.2.2 | exact hLt.2.2.2))⟩
    case rest =>
      rename World => wA
      obtain ⟨g0, aS, cS, rfl, rfl, HF5⟩ := hcut
      obtain ⟨hLc, hW0, hR0, hg0⟩ := HF5.out
      have HR0 := hide hR0
      have hsA := hLc.2.2.2
      have hg0A := hW0.lt
      have HW0 := hide hW0
      clear hR0 HF5 hL1 hL1d hL1a hL1b d0 d1 d2 d3 da0 da1 da2 da3 db0 db1 db2 db3 hW0
      obtain ⟨d0, d1, -, -⟩ := hLc.1.pair
      go_wp2_with fail
      refine (HTW.out _ hLc).mono ?_
      rintro e w6 ⟨⟨_, rfl, gx, βx, Xx, rfl, hgx, hXx⟩, hL6, hb6⟩
      have hM7 : L7 w wA (w6.alloc (.cells #[.int .i64 x, sl gx k] 24)) x (.slice a k cap) tm id g0 x' (.slice aS k' cS) w6.heap.size w6.heap.size (sl gx k) k rs := by
        have hdn := (Below.refl w6.heap.size w6).alloc (Nat.le_refl _) (.cells #[.int .i64 x, sl gx k] 24)
        have hAn : AnsW w6 wA.heap.size (sl gx k) k rs := .inr ⟨gx, k, k, βx, Xx, rfl, hXx⟩
        exact ⟨hL6.alloc _, (HW0.out.down hb6).alloc _, Blk.fresh w6 #[.int .i64 x, sl gx k] 2 (p2 (.int .i64 x) (sl gx k)) 24 rfl, hAn.x.down hdn, hb6.trans (hdn.mono hb6.size), by simp, hg0A, rfl, hsA, hb6.size⟩
      clear hXx hL6 hLc d0 d1 HW0
      obtain ⟨H, hH⟩ : ∃ H, w6.heap.size = H := ⟨_, rfl⟩
      go_upto_region 7 with fail
      rw [hH] at hM7
      generalize w6.alloc _ = w7 at *
      clear hH hb6
      have hM1d := hM7.drew
      have hM1a := hM1d.alloc o0
      have hM1b := (hM7.alloc o0).drew
      have HTT7 := hide (show ∀ W, L7 w wA W x (.slice a k cap) tm id g0 x' (.slice aS k' cS) H H (sl gx k) k rs → Calls Try.prog 21 #[.agg #[.int .i64 tm, .int .i64 id]] W fun e w' => e = .returned (.agg #[.int .i64 tm, .int .i64 id]) ∧ L7 w wA w' x (.slice a k cap) tm id g0 x' (.slice aS k' cS) H H (sl gx k) k rs ∧ Below W.heap.size W w' from fun W hW => (to_timer tm id W).mono fun e w' ⟨h1, h2⟩ => ⟨h1, hW.down h2, h2⟩)
      have HIm7 := hide (show ∀ W, L7 w wA W x (.slice a k cap) tm id g0 x' (.slice aS k' cS) H H (sl gx k) k rs → Calls Try.prog 22 #[.agg #[.int .i64 x, sl gx k], .agg #[.int .i64 tm, .int .i64 id]] W fun e w' => (∃ u, e = .returned (.tuple #[.agg #[.int .i64 x', u], .bool b]) ∧ AnsW w' W.heap.size u k' rs') ∧ L7 w wA w' x (.slice a k cap) tm id g0 x' (.slice aS k' cS) H H (sl gx k) k rs ∧ Below W.heap.size W w' from fun W hW => (HIm.out _ W hW.2.2.2.1.rows).mono fun e w' ⟨h1, h2⟩ => ⟨h1, hW.down h2, h2⟩)
      go_cut [9, 10] from 31 (fun g bb wx => ∃ (gG Bg hg : Nat) (aG : Option Addr) (cG : Nat), g = .pointer (some ⟨gG, 0, none⟩) ∧ bb = .bool b ∧ Hid (F7 w wA wx x (.slice a k cap) tm id g0 x' (.slice aS k' cS) H H (sl gx k) k rs gG Bg hg (.slice aG k' cG) k' rs'))
      case first =>
        go_region_held (fun W => W.cell? ⟨H, 0, none⟩ = some (.int .i64 x) ∧ W.cell? ⟨H, 1, none⟩ = some (sl gx k) ∧ W.cell? ⟨w.heap.size + 1, 0, none⟩ = some (.int .i64 tm) ∧ W.cell? ⟨w.heap.size + 1, 1, none⟩ = some (.int .i64 id)) (first | exact L7.s hLs | exact L7.s (hLs.alloc _) | exact L7.s ((hLs.set hzs (by first | exact hM7.2.2.2.2.2.1 | exact hLt.2.2.2.2.2.1) _ _).set (hzs.set 0 _) (by first | exact hM7.2.2.2.2.2.1 | exact hLt.2.2.2.2.2.1) _ _) | exact L7.s hLt | exact L7.s (hLt.alloc _) | exact L7.s hM1d | exact L7.s hM1a | exact L7.s hM1b) (first
          | (go_at_call 21; refine Calls.mono (HTT7.out _ (by assumption)) ?_; rintro e wt ⟨rfl, hLt, hbt⟩; have hLta := hLt.alloc o0 ; (try (have hzt : Blk wt w7.heap.size 2 (p2 (.int .i64 0) (.slice none 0 0)) 24 := (Blk.fresh w7.drew #[.int .i64 0, .slice none 0 0] 2 (p2 (.int .i64 0) (.slice none 0 0)) 24 rfl).down hbt)) ; (try (have hzt : Blk wt w7.heap.size 2 (p2 (.int .i64 0) (.slice none 0 0)) 24 := ((Blk.fresh w7 #[.int .i64 0, .slice none 0 0] 2 (p2 (.int .i64 0) (.slice none 0 0)) 24 rfl).drew).down hbt)) ; (try (obtain ⟨zt0, zt1, zt2, zt3⟩ := hzt.pair)))
          | (go_at_call 22; refine Calls.mono (HIm7.out _ (by assumption)) ?_; rintro e ws ⟨⟨us, rfl, hAs⟩, hLs, hbs⟩; obtain ⟨aG, cG, rfl⟩ := hAs.rows.form ; (try (have hzW := Blk.fresh wt #[.int .i64 0, .slice none 0 0] 2 (p2 (.int .i64 0) (.slice none 0 0)) 24 rfl; have hzs := hzW.down hbs; have hzl := hzW.lt)) ; (try (have hzs := hzt.down hbs; have hzl := hzt.lt)) ; (try (obtain ⟨zs0, zs1, zs2, zs3⟩ := hzs.pair))))
        all_goals
          go_wp2_with fail
          go_meet
          first
          | exact ⟨_, _, _, _, _, rfl, rfl, hide (F7.al hLs hAs (by first | exact hLt.2.2.2.2.2.1 | exact hLta.2.2.2.2.2.1))⟩
          | (obtain ⟨hg, hF⟩ := F7.st hLs hAs (by first | exact hLt.2.2.2.2.2.1 | exact hLta.2.2.2.2.2.1) hzs hzl (by first | exact hM7.2.2.2.2.2.1 | exact hLt.2.2.2.2.2.1); exact ⟨_, _, hg, _, _, rfl, rfl, hide hF⟩)
      case rest =>
        rename World => wB
        obtain ⟨gG, Bg, hg, aG, cG, rfl, rfl, HF7⟩ := hcut
        clear hM7 hM1d hM1a hM1b HTT7 HIm7
        obtain ⟨d0, d1, -, -⟩ := HF7.out.2.1.pair
        obtain ⟨d2, d3, -, -⟩ := HF7.out.1.2.1.pair
        go_wp2_with fail
        refine (eq_wheel x' _ _ k' rs' _ HF7.out.2.2.1.rows (HR0.out.below HF7.out.1.2.2.2.2.1) HS'.out.short).mono ?_
        rintro e w8 ⟨rfl, hb⟩
        have hF8 := HF7.out.down hb
        clear hb HF7 d0 d1 d2 d3
        go_upto_region 10 with fail
        have hF8d := hF8.drew
        have HTW10 := hide (show ∀ W, F7 w wA W x (.slice a k cap) tm id g0 x' (.slice aS k' cS) H H (sl gx k) k rs gG Bg hg (.slice aG k' cG) k' rs' → Calls Try.prog 18 #[.agg #[.int .i64 x, .slice a k cap]] W fun e w' => (∃ u, e = .returned (.agg #[.int .i64 x, u]) ∧ ∃ g β X, u = sl g k ∧ W.heap.size ≤ g ∧ AW 52 w' W.heap.size g k k rs β X) ∧ F7 w wA w' x (.slice a k cap) tm id g0 x' (.slice aS k' cS) H H (sl gx k) k rs gG Bg hg (.slice aG k' cG) k' rs' ∧ Below W.heap.size W w' from fun W hW => (to_wheel x _ k rs W (HV.out.below hW.1.1.2.2.1) HS.out).mono fun e w' ⟨h1, h2⟩ => ⟨h1, hW.down h2, h2⟩)
        go_cut [51] from 47 (fun bb wx => bb = .bool false ∧ Hid (F7 w wA wx x (.slice a k cap) tm id g0 x' (.slice aS k' cS) H H (sl gx k) k rs gG Bg hg (.slice aG k' cG) k' rs'))
        case first =>
          go_region_held (fun W => W.cell? ⟨H, 0, none⟩ = some (.int .i64 x) ∧ W.cell? ⟨H, 1, none⟩ = some (sl gx k) ∧ W.cell? ⟨w.heap.size, 0, none⟩ = some (.int .i64 x) ∧ W.cell? ⟨w.heap.size, 1, none⟩ = some (.slice a k cap)) (first | exact F7.s hFe | exact F7.s hFj | exact F7.s hF8d) (first
            | (go_at_call 18; refine Calls.mono (HTW10.out _ (by assumption)) ?_; rintro e wj ⟨⟨_, rfl, gj, βj, Xj, rfl, hgj, hXj⟩, hFj, hbj⟩)
            | (go_at_call 13; refine Calls.mono (eq_wheel x _ _ k rs _ hFj.1.2.2.2.1.rows (hXj.rows (cap' := k)) HS.out) ?_; rintro e we ⟨rfl, hbe⟩; have hFe := hFj.down hbe))
          all_goals
            go_wp2_with fail
            go_meet
            exact ⟨rfl, hide hFe⟩
        case rest =>
          rename World => wC
          obtain ⟨rfl, HF10⟩ := hcut
          clear hF8 hF8d HTW10
          obtain ⟨d0, d1, -, -⟩ := HF10.out.1.2.2.1.pair
          go_wp2_with fail
          refine (mark_wheel x wA.heap.size H k 1 _ rs _ HF10.out.1.2.2.2.1 HSm.out (by omega)).mono ?_
          rintro e w9 ⟨rfl, -, hk⟩
          have HK9 := hide (HF10.out.k8 hk)
          have hknn : ¬ (((1 + tot rs k * 2 : Nat) : Int) < 0) := by omega
          clear hk HF10 d0 d1
          obtain ⟨d0, d1, -, -⟩ := HK9.out.2.2.1.pair
          obtain ⟨d2, d3, -, -⟩ := HK9.out.2.1.pair
          go_wp2_with fail
          refine (eq_wheel x' _ _ k' rs' _ HK9.out.2.2.2.1.rows (HR0.out.below HK9.out.2.2.2.2.1) HS'.out.short).mono ?_
          rintro e w10 ⟨rfl, hb⟩
          have HK10 := hide (HK9.out.down hb)
          clear hb HK9 d0 d1 d2 d3 hknn
          obtain ⟨d0, d1, -, -⟩ := HK10.out.2.2.1.pair
          go_wp2_with fail
          refine (mark_wheel x' Bg hg k' 1 _ rs' _ HK10.out.2.2.2.1 HS'.out (by omega)).mono ?_
          rintro e w11 ⟨rfl, hA, hk⟩
          have HK11 := hide (HK10.out.marked hk hA)
          clear hk hA HK10 d0 d1
          obtain ⟨d0, d1, -, -⟩ := HK11.out.2.2.1.pair
          go_wp2_with fail
          refine (held_wheel x' k' 1 _ rs' _ HK11.out.2.2.2.1.rows HS'.out (by omega)).mono ?_
          rintro e wE ⟨rfl, hb⟩
          have hN := HK11.out.down hb
          have hq1 : ¬ (((1 + tot rs' k' * 2 : Nat) : Int) < 0) := by omega
          have hq2 : (((1 + tot rs' k' * 2 : Nat) : Int) != ((1 + tot rs' k' * 2 : Nat) : Int)) = false := by simp
          clear hb HK11 d0 d1
          go_upto_region 24 with fail
          have hNd := hN.drew
          have hNa := hNd.alloc o0
          have hNb := (hN.alloc o0).drew
          have HTW24 := hide (show ∀ W, K8 w wA W x (.slice a k cap) tm id g0 gG Bg hg x' (.slice aS k' cS) (.slice aG k' cG) k' (mkR 1 rs') → Calls Try.prog 18 #[.agg #[.int .i64 x, .slice a k cap]] W fun e w' => (∃ u, e = .returned (.agg #[.int .i64 x, u]) ∧ ∃ g β X, u = sl g k ∧ W.heap.size ≤ g ∧ AW 52 w' W.heap.size g k k rs β X) ∧ K8 w wA w' x (.slice a k cap) tm id g0 gG Bg hg x' (.slice aS k' cS) (.slice aG k' cG) k' (mkR 1 rs') ∧ Below W.heap.size W w' from fun W hW => (to_wheel x _ k rs W (HV.out.below hW.1.2.2.1) HS.out).mono fun e w' ⟨h1, h2⟩ => ⟨h1, hW.down h2, h2⟩)
          have HTT24 := hide (show ∀ W, K8 w wA W x (.slice a k cap) tm id g0 gG Bg hg x' (.slice aS k' cS) (.slice aG k' cG) k' (mkR 1 rs') → Calls Try.prog 21 #[.agg #[.int .i64 tm, .int .i64 id]] W fun e w' => e = .returned (.agg #[.int .i64 tm, .int .i64 id]) ∧ K8 w wA w' x (.slice a k cap) tm id g0 gG Bg hg x' (.slice aS k' cS) (.slice aG k' cG) k' (mkR 1 rs') ∧ Below W.heap.size W w' from fun W hW => (to_timer tm id W).mono fun e w' ⟨h1, h2⟩ => ⟨h1, hW.down h2, h2⟩)
          go_cut [14, 15] from 79 (fun g bb wx => ∃ (gH : Nat) (aH : Option Addr) (cH : Nat), g = .pointer (some ⟨gH, 0, none⟩) ∧ bb = .bool b ∧ Hid (F24 w wA wx x (.slice a k cap) tm id g0 gG Bg hg x' (.slice aS k' cS) (.slice aG k' cG) k' (mkR 1 rs') gH (.slice aH k' cH) rs'))
          case first =>
            go_region_held (fun W => W.cell? ⟨w.heap.size, 0, none⟩ = some (.int .i64 x) ∧ W.cell? ⟨w.heap.size, 1, none⟩ = some (.slice a k cap) ∧ W.cell? ⟨w.heap.size + 1, 0, none⟩ = some (.int .i64 tm) ∧ W.cell? ⟨w.heap.size + 1, 1, none⟩ = some (.int .i64 id)) (first | exact K8.s hLs | exact K8.s (hLs.alloc _) | exact K8.s ((hLs.set hzs hNd rfl _ _).set (hzs.set 0 _) hNd rfl _ _) | exact K8.s ((hLs.set hzs hLj rfl _ _).set (hzs.set 0 _) hLj rfl _ _) | exact K8.s ((hLs.set hzs hLt rfl _ _).set (hzs.set 0 _) hLt rfl _ _) | exact K8.s hLt | exact K8.s hLta | exact K8.s hLj | exact K8.s hLja | exact K8.s hNd | exact K8.s hNa | exact K8.s hNb) (first
              | (go_at_call 18; refine Calls.mono (HTW24.out _ (by assumption)) ?_; rintro e wj ⟨⟨_, rfl, gj, βj, Xj, rfl, hgj, hXj⟩, hLj, hbj⟩; have hRj := hXj.rows (cap' := k); have hRja := hRj.below ((Below.refl wj.heap.size wj).alloc (Nat.le_refl _) o0); have hLja := hLj.alloc o0 ; (try (have hzj : Blk wj wE.heap.size 2 (p2 (.int .i64 0) (.slice none 0 0)) 24 := (Blk.fresh wE.drew #[.int .i64 0, .slice none 0 0] 2 (p2 (.int .i64 0) (.slice none 0 0)) 24 rfl).down hbj)) ; (try (have hzj : Blk wj wE.heap.size 2 (p2 (.int .i64 0) (.slice none 0 0)) 24 := ((Blk.fresh wE #[.int .i64 0, .slice none 0 0] 2 (p2 (.int .i64 0) (.slice none 0 0)) 24 rfl).drew).down hbj)) ; (try (have hzj := (Blk.fresh wt #[.int .i64 0, .slice none 0 0] 2 (p2 (.int .i64 0) (.slice none 0 0)) 24 rfl).down hbj)) ; (try (have hzj := hzt.down hbj)) ; (try (obtain ⟨zj0, zj1, zj2, zj3⟩ := hzj.pair)))
              | (go_at_call 21; refine Calls.mono (HTT24.out _ (by assumption)) ?_; rintro e wt ⟨rfl, hLt, hbt⟩; have hLta := hLt.alloc o0 ; (try (have hRt := hRj.below hbt)) ; (try (have hRt := hRja.below hbt)) ; (try (have hzt : Blk wt wE.heap.size 2 (p2 (.int .i64 0) (.slice none 0 0)) 24 := (Blk.fresh wE.drew #[.int .i64 0, .slice none 0 0] 2 (p2 (.int .i64 0) (.slice none 0 0)) 24 rfl).down hbt)) ; (try (have hzt : Blk wt wE.heap.size 2 (p2 (.int .i64 0) (.slice none 0 0)) 24 := ((Blk.fresh wE #[.int .i64 0, .slice none 0 0] 2 (p2 (.int .i64 0) (.slice none 0 0)) 24 rfl).drew).down hbt)) ; (try (have hzt := (Blk.fresh wj #[.int .i64 0, .slice none 0 0] 2 (p2 (.int .i64 0) (.slice none 0 0)) 24 rfl).down hbt)) ; (try (have hzt := hzj.down hbt)) ; (try (obtain ⟨zt0, zt1, zt2, zt3⟩ := hzt.pair)))
              | (go_at_call 22; refine Calls.mono (HIm.out _ _ (by first | exact hRt | exact hRt.below ((Below.refl _ _).alloc (Nat.le_refl _) _) | exact hRj | exact hRja)) ?_; rintro e ws ⟨⟨us, rfl, hAs⟩, hbs⟩; have hRs := hAs.k; obtain ⟨aH, cH, rfl⟩ := hRs.rows.form; have hLs : K8 w wA ws x (.slice a k cap) tm id g0 gG Bg hg x' (.slice aS k' cS) (.slice aG k' cG) k' (mkR 1 rs') := (by first | exact hLt.down hbs | exact hLta.down hbs | exact hLj.down hbs | exact hLja.down hbs) ; (try (have hzW := Blk.fresh wj #[.int .i64 0, .slice none 0 0] 2 (p2 (.int .i64 0) (.slice none 0 0)) 24 rfl; have hzs := hzW.down hbs; have hzl := hzW.lt)) ; (try (have hzW := Blk.fresh wt #[.int .i64 0, .slice none 0 0] 2 (p2 (.int .i64 0) (.slice none 0 0)) 24 rfl; have hzs := hzW.down hbs; have hzl := hzW.lt)) ; (try (have hzs := hzj.down hbs; have hzl := hzj.lt)) ; (try (have hzs := hzt.down hbs; have hzl := hzt.lt)) ; (try (obtain ⟨zs0, zs1, zs2, zs3⟩ := hzs.pair))))
            all_goals
              go_wp2_with fail
              go_meet
              first
              | exact ⟨_, _, _, rfl, rfl, hide (F24.al hLs hRs)⟩
              | exact ⟨_, _, _, rfl, rfl, hide (F24.st hLs hRs hzs hzl hNd rfl)⟩
              | exact ⟨_, _, _, rfl, rfl, hide (F24.st hLs hRs hzs hzl hLj rfl)⟩
              | exact ⟨_, _, _, rfl, rfl, hide (F24.st hLs hRs hzs hzl hLt rfl)⟩
          case rest =>
            rename World => wF
            obtain ⟨gH, aH, cH, rfl, rfl, HF24⟩ := hcut
            clear hN hNd hNa hNb HTW24 HTT24
            obtain ⟨d0, d1, -, -⟩ := HF24.out.2.1.pair
            obtain ⟨d2, d3, -, -⟩ := HF24.out.1.2.1.pair
            go_wp2_with fail
            refine (eq_wheel x' _ _ k' rs' _ HF24.out.2.2 (HR0.out.below HF24.out.1.2.2.2.2.1) HS'.out.short).mono ?_
            rintro e w12 ⟨rfl, hb⟩
            have HK12 := hide (HF24.out.1.down hb)
            clear hb HF24 d0 d1 d2 d3
            obtain ⟨d0, d1, -, -⟩ := HK12.out.2.2.1.pair
            go_wp2_with fail
            refine (held_wheel x' k' 1 _ rs' _ HK12.out.2.2.2.1.rows HS'.out (by omega)).mono ?_
            rintro e w13 ⟨rfl, hb⟩
            have hbz := (HK12.out.down hb).1.2.2.1
            clear hb HK12 d0 d1 HR0 HV HS HSm HS'
            go_wp2
            go_ret
            exact ⟨rfl, hbz⟩
end Go.Proofs.Ytcodllammndciaa

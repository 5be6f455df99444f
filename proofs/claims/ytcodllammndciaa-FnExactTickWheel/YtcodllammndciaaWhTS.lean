/-
  The specification's TickWheel.
-/
import Derived.Test.YtcodllammndciaaWhST
import Derived.Test.YtcodllammndciaaWhTI
namespace Go.Proofs.Ytcodllammndciaa
open Go.RowKit M
open Clk (upd upd_same upd_other)
open Go.Sort (grow)
set_option maxRecDepth 20000 in
set_option maxHeartbeats 8000000 in
theorem spec_tickw (now : Int) (v : Value) (k : Nat) (rs : Nat → Rw) (w : World) (hv : RowsOf w v k rs) (hs : Small k rs) :
    Calls Try.prog 25 #[.agg #[.int .i64 now, v]] w fun e w' => ((TickOk now k rs ∧ ∃ u r, e = .returned (.tuple #[.agg #[.int .i64 (now + 1), u], r, .bool true]) ∧ RowsK w.heap.size w' u 24 (tickR (now + 1) rs).1 ∧ w'.ownsRow w.heap.size 3 1 r (srt (tickR (now + 1) rs).2).length (pvi (srt (tickR (now + 1) rs).2))) ∨ (¬ TickOk now k rs ∧ e = .returned (.tuple #[.agg #[.int .i64 0, .slice none 0 0], .slice none 0 0, .bool false]))) ∧ Below w.heap.size w w' := by
  have HV := hide hv
  have HS := hide hs
  obtain ⟨a, cap, rfl⟩ := hv.form
  clear hv hs
  obtain ⟨bg, hbg⟩ : ∃ b, decide (GoodW now k rs) = b := ⟨_, rfl⟩
  have HBg := hide hbg
  have hX0 : By w ((w.alloc (.cells #[.int .i64 now, .slice a k cap] 24)).alloc (.cells #[.int .i64 0, .slice none 0 0] 24)) now (.slice a k cap) := by
    have h2 := Blk.fresh (w.alloc (.cells #[.int .i64 now, .slice a k cap] 24)) #[.int .i64 0, .slice none 0 0] 2 (p2 (.int .i64 0) (.slice none 0 0)) 24 rfl
    rw [World.size_alloc] at h2
    exact ⟨(Blk.fresh w #[.int .i64 now, .slice a k cap] 2 (p2 (.int .i64 now) (.slice a k cap)) 24 rfl).alloc _, h2, ((Below.refl w.heap.size w).alloc (Nat.le_refl _) _).alloc (by simp) _, by simp⟩
  go_enter Try.func25, Try.ntmps25
  go_wp2_with fail
  refine (spec_good now _ k rs bg _ (HV.out.below hX0.2.2.1) HS.out HBg.out).mono ?_
  rintro e w1 ⟨rfl, hb⟩
  have hX1 := hX0.down hb hX0.2.2.2
  clear hb hX0
  cases bg with
  | false =>
    obtain ⟨y0, y1, y2, y3⟩ := hX1.2.1.pair
    have hbf := (hX1.2.2.1.setCell (p := ⟨w.heap.size + 1, 0, none⟩) (show w.heap.size ≤ w.heap.size + 1 by omega) (.int .i64 0)).setCell (p := ⟨w.heap.size + 1, 1, none⟩) (show w.heap.size ≤ w.heap.size + 1 by omega) (.slice none 0 0)
    have HNo := hide (show ¬ TickOk now k rs from fun h => of_decide_eq_false hbg h.1)
    clear HV HS HBg hX1 hbg
    go_wp2
    exact bodyPost_ret (v := .tuple #[.agg #[.int .i64 0, .slice none 0 0], .slice none 0 0, .bool false]) (by simp [results, Try.results25, go_sem, y0, y1]) rfl ⟨.inr ⟨HNo.out, rfl⟩, hbf⟩
  | true =>
    have hG := of_decide_eq_true hbg
    obtain rfl : k = 24 := hG.2.1
    have HG := hide hG
    have hn0 : 0 ≤ now ∧ now ≤ 100000 := hG.1
    clear hbg HBg hG
    obtain ⟨x0, x1, x2, x3⟩ := hX1.1.pair
    by_cases he : now = 100000
    · have hd : (now == 100000) = true := by simp [he]
      obtain ⟨y0, y1, y2, y3⟩ := hX1.2.1.pair
      have hbf := (hX1.2.2.1.setCell (p := ⟨w.heap.size + 1, 0, none⟩) (show w.heap.size ≤ w.heap.size + 1 by omega) (.int .i64 0)).setCell (p := ⟨w.heap.size + 1, 1, none⟩) (show w.heap.size ≤ w.heap.size + 1 by omega) (.slice none 0 0)
      have HNo := hide (show ¬ TickOk now 24 rs from fun h => by have := h.2; omega)
      clear HV HS hX1 he
      go_wp2
      exact bodyPost_ret (v := .tuple #[.agg #[.int .i64 0, .slice none 0 0], .slice none 0 0, .bool false]) (by simp [results, Try.results25, go_sem, y0, y1]) rfl ⟨.inr ⟨HNo.out, rfl⟩, hbf⟩
    · have hd : (now == 100000) = false := by simp [he]
      have HOk := hide (show TickOk now 24 rs from ⟨HG.out, by omega⟩)
      have hn1 : 0 ≤ now ∧ now + 1 ≤ 100000 := by omega
      have HSh := hide HS.out.short
      clear he
      go_wp2_with fail
      refine (l5_own now _ rs _ (HV.out.below hX1.2.2.1) HSh.out).mono ?_
      rintro e w5 ⟨⟨u, X, rfl, hO5⟩, hb⟩
      have hX5 := hX1.down hb hX1.2.2.2
      have hs1 := hX1.2.2.2
      have hs5 := hb.size
      obtain ⟨gH, cH, rfl⟩ := ow_form hO5
      have HTk := hide (l5_tick w1.heap.size gH cH rs X now w5 hO5 HG.out.lies HG.out.2.2.2 hn1 hs5)
      clear hb hX1 x0 x1 x2 x3 hO5
      go_wp2_with fail
      refine HTk.out.mono ?_
      rintro e w6 ⟨r, X6, rfl, hO6, hR6, -, hb6⟩
      have hX6 := hX5.down hb6 hs1
      obtain ⟨ar, cr, hr⟩ := own_form hR6
      have hR6' : w6.ownsRow w5.heap.size 3 1 r (srt (tickR (now + 1) rs).2).length (pvi (srt (tickR (now + 1) rs).2)) := by rw [srt_len]; exact hR6
      obtain ⟨L, hL⟩ : ∃ L, (tickR (now + 1) rs).2.length = L := ⟨_, rfl⟩
      rw [hL] at hr
      subst hr
      have hbA := (Below.refl w6.heap.size w6).alloc (Nat.le_refl _) (.cells #[.int .i64 (now + 1), .slice (some ⟨gH, 0, none⟩) 24 cH] 24)
      have hX7 := hX6.alloc (.cells #[.int .i64 (now + 1), .slice (some ⟨gH, 0, none⟩) 24 cH] 24)
      have hO7 := hO6.down hbA
      have hR7 := owns_below hR6' hbA
      obtain ⟨y0, y1, y2, y3⟩ := hX7.2.1.pair
      have hbf := (hX7.2.2.1.setCell (p := ⟨w.heap.size + 1, 0, none⟩) (show w.heap.size ≤ w.heap.size + 1 by omega) (.int .i64 (now + 1))).setCell (p := ⟨w.heap.size + 1, 1, none⟩) (show w.heap.size ≤ w.heap.size + 1 by omega) (.slice (some ⟨gH, 0, none⟩) 24 cH)
      have HRk := hide (((hO7.kept hX7.2.1 0 (.int .i64 (now + 1))).kept (hX7.2.1.set 0 _) 1 (.slice (some ⟨gH, 0, none⟩) 24 cH)).k (L := w.heap.size) (by omega))
      have HRi := hide (owns_mono (owns_set (owns_set hR7 hX7.2.1 (by decide) 0 (.int .i64 (now + 1))) (hX7.2.1.set 0 _) (by decide) 1 (.slice (some ⟨gH, 0, none⟩) 24 cH)) (show w.heap.size ≤ w5.heap.size by omega))
      clear hX5 hX6 hX7 hO6 hO7 hR6 hR6' hR7 hbA HTk HV HS hL
      go_wp2
      exact bodyPost_ret (v := .tuple #[.agg #[.int .i64 (now + 1), .slice (some ⟨gH, 0, none⟩) 24 cH], .slice ar L cr, .bool true]) (by simp [results, Try.results25, go_sem, y0, y1]) rfl ⟨.inl ⟨HOk.out, _, _, rfl, HRk.out, HRi.out⟩, hbf⟩
end Go.Proofs.Ytcodllammndciaa

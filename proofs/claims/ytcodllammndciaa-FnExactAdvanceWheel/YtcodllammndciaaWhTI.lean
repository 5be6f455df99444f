/-
  The program's TickWheel.
-/
import Derived.Test.YtcodllammndciaaWhAd
namespace Go.Proofs.Ytcodllammndciaa
open Go.RowKit M
open Clk (upd upd_same upd_other)
open Go.Sort (grow)
namespace M
def TickOk (now : Int) (k : Nat) (rs : Nat → Rw) : Prop := GoodW now k rs ∧ now + 1 ≤ 100000
theorem adv_one (now : Int) (rs : Nat → Rw) : advS now rs 1 = ((tickR (now + 1) rs).1, srt (tickR (now + 1) rs).2, tickW (now + 1) rs) := by
  show ((tickR (now + ((0 : Nat) : Int) + 1) rs).1, [] ++ srt (tickR (now + ((0 : Nat) : Int) + 1) rs).2, 0 + tickW (now + ((0 : Nat) : Int) + 1) rs) = _
  rw [show now + ((0 : Nat) : Int) + 1 = now + 1 by omega, List.nil_append, Nat.zero_add]
end M
set_option maxRecDepth 20000 in
set_option maxHeartbeats 8000000 in
theorem impl_tickw (now : Int) (v : Value) (k : Nat) (rs : Nat → Rw) (w : World) (hv : RowsOf w v k rs) (hs : Small k rs) :
    Calls Try.prog 26 #[.agg #[.int .i64 now, v]] w fun e w' => ((TickOk now k rs ∧ ∃ u r, e = .returned (.tuple #[.agg #[.int .i64 (now + 1), u], r, .bool true]) ∧ AnsW w' w.heap.size u 24 (tickR (now + 1) rs).1 ∧ w'.ownsRow w.heap.size 3 1 r (srt (tickR (now + 1) rs).2).length (pvi (srt (tickR (now + 1) rs).2))) ∨ (¬ TickOk now k rs ∧ e = .returned (.tuple #[.agg #[.int .i64 0, .slice none 0 0], .slice none 0 0, .bool false]))) ∧ Below w.heap.size w w' := by
  have HV := hide hv
  have HS := hide hs
  obtain ⟨a, cap, rfl⟩ := hv.form
  clear hv hs
  have hX0 : By w ((w.alloc (.cells #[.int .i64 now, .slice a k cap] 24)).alloc (.cells #[.int .i64 0, .slice none 0 0] 24)) now (.slice a k cap) := by
    have h2 := Blk.fresh (w.alloc (.cells #[.int .i64 now, .slice a k cap] 24)) #[.int .i64 0, .slice none 0 0] 2 (p2 (.int .i64 0) (.slice none 0 0)) 24 rfl
    rw [World.size_alloc] at h2
    exact ⟨(Blk.fresh w #[.int .i64 now, .slice a k cap] 2 (p2 (.int .i64 now) (.slice a k cap)) 24 rfl).alloc _, h2, ((Below.refl w.heap.size w).alloc (Nat.le_refl _) _).alloc (by simp) _, by simp⟩
  obtain ⟨to, hto⟩ : ∃ to, IntKind.i64.wrap (now + 1) = to := ⟨_, rfl⟩
  have HTo := hide (show AdvOk now k rs to ↔ TickOk now k rs ∧ to = now + 1 from by
    constructor
    · intro h
      have h0 : 0 ≤ now ∧ now ≤ 100000 := h.1.1
      have e : to = now + 1 := by rw [← hto, IntKind.wrap_i64]; omega
      exact ⟨⟨h.1, by have := h.2.2.2; omega⟩, e⟩
    · rintro ⟨⟨h1, h2⟩, h3⟩
      have h0 : 0 ≤ now ∧ now ≤ 100000 := h1.1
      exact ⟨h1, by omega, by omega, by omega⟩)
  have HTt := hide (show TickOk now k rs → to = now + 1 from fun h => by
    have h0 : 0 ≤ now ∧ now ≤ 100000 := h.1.1
    have := h.2
    rw [← hto, IntKind.wrap_i64]; omega)
  have HAd := hide (fun W (hW : RowsOf W (.slice a k cap) k rs) => impl_adv now _ k rs to W hW HS.out)
  go_enter Try.func26, Try.ntmps26
  go_wp2_with fail
  refine (HAd.out _ (HV.out.below hX0.2.2.1)).mono ?_
  rintro e w1 ⟨h1, hb⟩
  have hX1 := hX0.down hb hX0.2.2.2
  have hsz := hX0.2.2.2
  have hB : w.heap.size + 2 ≤ ((w.alloc (.cells #[.int .i64 now, .slice a k cap] 24)).alloc (.cells #[.int .i64 0, .slice none 0 0] 24)).heap.size := hX0.2.2.2
  rcases h1 with ⟨hok, u, r, rfl, hA, hR⟩ | ⟨hno, rfl⟩
  · obtain ⟨hT, e⟩ := HTo.out.1 hok
    obtain ⟨au, cu, rfl⟩ := hA.rows.form
    obtain ⟨ar, cr, hr⟩ := own_form hR
    have hn1 : (to - now).toNat = 1 := by omega
    rw [hn1, adv_one] at hA hR hr
    simp only at hA hR hr
    subst hr
    obtain ⟨L, hL⟩ : ∃ L, (srt (tickR (now + 1) rs).2).length = L := ⟨_, rfl⟩
    have hbA := (Below.refl w1.heap.size w1).alloc (Nat.le_refl _) (.cells #[.int .i64 to, .slice au 24 cu] 24)
    have hX2 := hX1.alloc (.cells #[.int .i64 to, .slice au 24 cu] 24)
    have hA2 := hA.down hbA
    have hR2 := owns_below hR hbA
    obtain ⟨y0, y1, y2, y3⟩ := hX2.2.1.pair
    have hbf := (hX2.2.2.1.setCell (p := ⟨w.heap.size + 1, 0, none⟩) (show w.heap.size ≤ w.heap.size + 1 by omega) (.int .i64 to)).setCell (p := ⟨w.heap.size + 1, 1, none⟩) (show w.heap.size ≤ w.heap.size + 1 by omega) (.slice au 24 cu)
    have HA := hide (((hA2.set_low (b := w.heap.size + 1) (by omega) 0 (.int .i64 to)).set_low (b := w.heap.size + 1) (by omega) 1 (.slice au 24 cu)).mono (B' := w.heap.size) (by omega))
    have HR := hide (owns_mono (owns_set (owns_set hR2 hX2.2.1 (by decide) 0 (.int .i64 to)) (hX2.2.1.set 0 _) (by decide) 1 (.slice au 24 cu)) (show w.heap.size ≤ _ from Nat.le_trans (by omega) hB))
    have HT := hide hT
    have HE := hide e
    have HL := hide hL
    rw [hL]
    clear hb hA hR hX1 hX2 hA2 hR2 hbA HAd HV HS HTo HTt hX0 hT e hn1 hok hL hto
    go_wp2
    refine bodyPost_ret (v := .tuple #[.agg #[.int .i64 to, .slice au 24 cu], .slice ar L cr, .bool true]) (by simp [results, Try.results26, go_sem, y0, y1]) rfl ⟨.inl ⟨HT.out, .slice au 24 cu, .slice ar L cr, by rw [HE.out], HA.out, ?_⟩, hbf⟩
    have h := HR.out
    rw [HL.out] at h ⊢
    exact h
  · have HNo := hide (show ¬ TickOk now k rs from fun h => hno (HTo.out.2 ⟨h, HTt.out h⟩))
    have hX2 := hX1.alloc (.cells #[.int .i64 0, .slice none 0 0] 24)
    obtain ⟨y0, y1, y2, y3⟩ := hX2.2.1.pair
    have hbf := (hX2.2.2.1.setCell (p := ⟨w.heap.size + 1, 0, none⟩) (show w.heap.size ≤ w.heap.size + 1 by omega) (.int .i64 0)).setCell (p := ⟨w.heap.size + 1, 1, none⟩) (show w.heap.size ≤ w.heap.size + 1 by omega) (.slice none 0 0)
    clear hb hX1 hX2 HAd HV HS HTo HTt hX0 hno hto
    go_wp2
    exact bodyPost_ret (v := .tuple #[.agg #[.int .i64 0, .slice none 0 0], .slice none 0 0, .bool false]) (by simp [results, Try.results26, go_sem, y0, y1]) rfl ⟨.inr ⟨HNo.out, rfl⟩, hbf⟩
end Go.Proofs.Ytcodllammndciaa

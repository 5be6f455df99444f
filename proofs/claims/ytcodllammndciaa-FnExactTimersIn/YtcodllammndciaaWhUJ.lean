/-
  The program's TimersIn.
-/
import Derived.Test.YtcodllammndciaaWhUI
import Derived.Test.YtcodllammndciaaWhGI
namespace Go.Proofs.Ytcodllammndciaa
open Go.RowKit M
open Clk (upd upd_same upd_other)
open Go.Sort (grow)
theorem sort_timers (B0 : Nat) (v : Value) (D : List Tp) (w : World) (hv : w.ownsRow B0 40 2 v D.length (pvi (flat D))) (hD : D.length ≤ 100000) :
    Calls Try.prog 64 #[v, .func (.func 65) #[] #[]] w fun e w' => (e = .returned (.tuple #[]) ∧ w'.ownsRow B0 40 2 v D.length (pvi (flat (srtT D)))) ∧ w.grownBy w' v.ownBlock := by
  rcases hv.2 with ⟨rfl, h0⟩ | ⟨g, cap, cur, rfl, hB, hg, hn, hc, hs, ht⟩
  · have hD0 : D = [] := List.length_eq_zero_iff.1 h0
    subst hD0
    have hcon := AnyF.slices_SortFunc_none Try.sortT none 0 (.func (.func 65) #[] #[]) w
    refine Calls.mono (show Calls Try.prog 64 _ _ _ from hcon) ?_
    rintro e w' ⟨rfl, rfl⟩
    have e : srtT [] = [] := List.length_eq_zero_iff.1 (srtT_len [])
    exact ⟨⟨rfl, by rw [e]; exact World.ownsRow_nil _ _ _ _⟩, ⟨rfl, rfl, rfl, Nat.le_refl _, fun _ _ _ => rfl⟩⟩
  · have hlt : g < w.heap.size := (Array.getElem?_eq_some_iff.1 hg).1
    have eg : ∀ args w, (callFunc 65 args).run Try.prog w = .ok (.enter 65 args) w := enters_of Try.func65 (by kernel_rfl) rfl
    have hcon := AnyQ.slices_SortFunc_total Try.sortT 2 Try.isAgg40 Try.sizeOf40 encT (fun _ => rfl) (fun x v hv => by simp [encT] at hv; rcases hv with rfl | rfl <;> rfl) cfT (by rw [cfT_lt]; exact ltP_swo) 65 #[] g 0 cap D.toArray w eg (fun _ _ _ _ x y => cmp_timers x y _) (holds_T hg ht) hlt (by simp; omega) (fun x y h1 h2 => by rw [cfT_lt] at h1 h2; exact ltP_eq h1 h2)
    refine Calls.mono (show Calls Try.prog 64 _ _ _ from hcon) ?_
    rintro e w' ⟨rfl, n, os, rfl⟩
    have hq : (D.toArray.toList.mergeSort fun x y => !(ltOf cfT) y x) = srtT D := by rw [cfT_lt]; rfl
    rw [hq]
    obtain ⟨h1, h2⟩ := owns_sortedT (w := w) (n := n) (os := os) (srtT_len D) hB hg hn hc hs
    exact ⟨⟨rfl, h1⟩, h2⟩
set_option maxRecDepth 20000 in
set_option maxHeartbeats 2000000 in
theorem impl_timers (now : Int) (v : Value) (k : Nat) (rs : Nat → Rw) (w : World) (hv : RowsOf w v k rs) (hs : Small k rs) :
    Calls Try.prog 33 #[.agg #[.int .i64 now, v]] w fun e w' => ((GoodW now k rs ∧ ∃ r, e = .returned (.tuple #[r, .bool true]) ∧ w'.ownsRow w.heap.size 40 2 r (srtT (prs rs 24)).length (pvi (flat (srtT (prs rs 24))))) ∨ (¬ GoodW now k rs ∧ e = .returned (.tuple #[.slice none 0 0, .bool false]))) ∧ Below w.heap.size w w' := by
  have HV := hide hv
  have HS := hide hs
  obtain ⟨a, cap, rfl⟩ := hv.form
  clear hv hs
  obtain ⟨bg, hbg⟩ : ∃ b, decide (GoodW now k rs) = b := ⟨_, rfl⟩
  have HBg := hide hbg
  have hB0 := (Below.refl w.heap.size w).alloc (Nat.le_refl _) (.cells #[.int .i64 now, .slice a k cap] 24)
  have HK0 := hide (Blk.fresh w #[.int .i64 now, .slice a k cap] 2 (p2 (.int .i64 now) (.slice a k cap)) 24 rfl)
  go_enter Try.func33, Try.ntmps33
  go_wp2_with fail
  refine (impl_good now _ k rs bg _ (HV.out.below hB0) HS.out HBg.out).mono ?_
  rintro e w1 ⟨rfl, hb⟩
  have hB1 := hB0.trans (hb.mono (by simp))
  have HK1 := hide (HK0.out.down hb)
  clear hb hB0 HK0
  cases bg with
  | false =>
    have HNo := hide (show ¬ GoodW now k rs from of_decide_eq_false hbg)
    clear HV HS HBg hbg HK1
    go_wp2
    exact bodyPost_ret (v := .tuple #[.slice none 0 0, .bool false]) (by simp [results, Try.results33, go_sem]) rfl ⟨.inr ⟨HNo.out, rfl⟩, hB1⟩
  | true =>
    have hG := of_decide_eq_true hbg
    obtain rfl : k = 24 := hG.2.1
    have HG := hide hG
    have ht := hG.2.2.2
    clear hbg HBg hG
    obtain ⟨d0, d1, -, -⟩ := HK1.out.pair
    go_wp2_with fail
    refine (concat_rows _ rs _ (HV.out.below hB1) ht).mono ?_
    rintro e w2 ⟨⟨R, rfl, hR⟩, hb⟩
    rw [← flat_prs, ← prs_len rs 24] at hR
    have hB2 := hB1.trans (hb.mono hB1.size)
    have hsz := hB1.size
    have HR := hide (hR)
    obtain ⟨aR, cR, rfl⟩ := own_form hR
    have hlen : (prs rs 24).length ≤ 60 := by rw [prs_len]; exact ht
    clear hR hb d0 d1 HK1 HS HV
    go_wp2_with fail
    refine (sort_timers w1.heap.size _ (prs rs 24) _ HR.out (by omega)).mono ?_
    rintro e w3 ⟨⟨rfl, hR3⟩, hgr⟩
    have hB3 : Below w.heap.size w w3 := hB2.grown hgr hB2.size (fun q hq => Nat.le_trans hsz (HR.out.lt q hq).1)
    have HR3 := hide (show w3.ownsRow w.heap.size 40 2 (.slice aR (prs rs 24).length cR) (srtT (prs rs 24)).length (pvi (flat (srtT (prs rs 24)))) from by rw [srtT_len]; exact owns_mono hR3 hsz)
    clear hR3 hgr HR
    go_wp2
    exact bodyPost_ret (v := .tuple #[.slice aR (prs rs 24).length cR, .bool true]) (by simp [results, Try.results33, go_sem]) rfl ⟨.inl ⟨HG.out, _, rfl, HR3.out⟩, hB3⟩
end Go.Proofs.Ytcodllammndciaa

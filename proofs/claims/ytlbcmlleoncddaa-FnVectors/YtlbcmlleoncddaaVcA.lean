/-
  Vectors that are drawn.
-/
import Derived.Test.YtlbcmlleoncddaaCw
import Derived.Test.YtlbcmlleoncddaaCmp2
namespace Go.Proofs.Ytlbcmlleoncddaa
open Go.RowKit M
open Clk (upd upd_same upd_other)
namespace M
/-- A vector that was drawn: read in every world that keeps all but the reader. -/
structure DV (cb : Nat) (w : World) (m : Nat) (e : Ending) : Prop where
  h : ∃ a cap f, e = .returned (.slice a m cap) ∧ ∀ W, But cb w W → IntsOf W (.slice a m cap) m f
end M
set_option maxRecDepth 20000 in
set_option maxHeartbeats 4000000 in
theorem cur_vec (B cb N m : Nat) (w : World) (h : CurAt w B cb N) (hN : N ≤ 900000) (hm : m ≤ 20) :
    Calls Try.prog 65 #[.pointer (some ⟨cb, 0, none⟩), .int .i64 (m : Int)] w fun e w' => DV cb w' m e ∧ CurAt w' B cb (N + 20) ∧ But cb w w' := by
  obtain ⟨i0, hi, hz0, hz1, hz2⟩ := info_parts info_int
  have hcl := h.lt
  have HC := hide h
  clear h
  go_enter Try.func65, Try.ntmps65
  go_wp2
  go_loopw [1, 5] (fun ci li wr => ∃ (i cnt : Nat) (f : Nat → Int) (ao : Option Addr) (cp N' : Nat), i + cnt = m ∧ N' + cnt ≤ N + 20 ∧ ci = .int .i64 (cnt : Int) ∧ li = .slice ao i cp ∧ Hid (wr.ownsRow w.heap.size 3 1 (.slice ao i cp) i ((List.range i).map (iv f))) ∧ Hid (CurAt wr B cb N') ∧ But cb w wr) (fun c _ _ => (intOf c).toNat)
  case atStart => exact ⟨0, m, fun _ => 0, none, 0, N, by omega, by omega, rfl, rfl, hide (World.ownsRow_nil _ _ _ _), HC, But.refl _ _⟩
  case round =>
    rename World => wo
    obtain ⟨i, cnt, f, ao, cp, N', hic, hNc, rfl, rfl, HO, HCr, hbt⟩ := hrel
    have HIC := hide hic
    clear hic HC
    by_cases hcn : 0 < cnt
    · obtain ⟨cn, rfl⟩ : ∃ cn, cnt = cn + 1 := ⟨cnt - 1, by omega⟩
      have hgt : ((cn + 1 : Nat) : Int) > 0 := by omega
      have hi20 : i ≤ 20 := by have := HIC.out; omega
      go_wp2_with fail
      refine (cur_pick B cb N' 4 _ HCr.out (by omega) (by omega)).mono ?_
      rintro e w5 ⟨⟨x5, hx5, rfl⟩, hc5, ho5⟩
      have hbt5 := hbt.trans ho5
      have hsz5 := hbt5.size
      have hown := ho5.owns HO.out hcl
      have HC5 := hide hc5
      clear HO HCr hc5 ho5 hbt
      go_wp2_with (at_builtin; refine wpList_append_own _ rfl _ _ 29 rfl w.heap.size 3 i0 _ 1 8 Try.underlying29 hi hz0 hz1 hz2 rfl (by decide) _ i _ rfl (hown.alloc _) ⟨w5.heap.size, 0, none⟩ 1 1 [.int .i64 (x5 : Int)] rfl rfl (news1 w5 _ _) (by intro u hu; simp at hu; subst hu; rfl) (by unfold maxLen; omega) (by omega) (by simp; omega) ?_)
      intro v' w6 hown6 hgrow _
      have hbt6 : But cb w w6 := (hbt5.trans (But.of_below ((Below.refl _ _).alloc (Nat.le_refl _) _))).grown hgrow (fun k hk => (hown.lt k hk).1)
      have HC6 := hide ((HC5.out.below ((Below.refl _ _).alloc (Nat.le_refl _) _)).grown (hown.alloc _) hcl hgrow)
      obtain ⟨a6, c6, rfl⟩ := own_form hown6
      have HO6 := hide (show w6.ownsRow w.heap.size 3 1 (.slice a6 (i + 1) c6) (i + 1) ((List.range (i + 1)).map (iv (upd f i (x5 : Int)))) from by
        rw [range_snoc]
        have e1 : (List.range i).map (iv (upd f i (x5 : Int))) = (List.range i).map (iv f) := List.map_congr_left fun j hj => by
          have := List.mem_range.1 hj
          unfold iv; rw [upd_other _ _ _ _ (by omega)]
        rw [e1]
        have e2 : iv (upd f i (x5 : Int)) i = .int .i64 (x5 : Int) := by unfold iv; rw [upd_same]
        rw [e2]
        exact hown6)
      have HIC6 := hide (show i + 1 + cn = m by have := HIC.out; omega)
      clear hown6 hgrow hown HC5 hbt5 HIC
      go_wp2
      exact ⟨⟨i + 1, cn, _, a6, c6, N' + 1, HIC6.out, by omega, by go_num, rfl, HO6, HC6, hbt6⟩, by simp [intOf]⟩
    · obtain rfl : cnt = 0 := by omega
      obtain rfl : i = m := by have := HIC.out; omega
      have HF := hide (fun W (hW : But cb wo W) => own_ints (hW.owns HO.out hcl))
      clear HO
      go_wp2
      go_ret
      exact ⟨⟨⟨_, _, f, rfl, HF.out⟩⟩, HCr.out.more (by omega), hbt⟩
set_option maxRecDepth 20000 in
set_option maxHeartbeats 4000000 in
theorem draw_cmp (v : Value) (nb : Nat) (fb : Nat → Nat) (w : World) (hv : OctetsOf w v nb fb) (hnb : nb ≤ 1048576) :
    Calls Try.prog 62 #[v] w fun e w' => (∃ a1 c1 n f a2 c2 m g, e = .returned (.tuple #[.slice a1 n c1, .slice a2 m c2]) ∧ n ≤ 10 ∧ m ≤ 10 ∧ IntsOf w' (.slice a1 n c1) n f ∧ IntsOf w' (.slice a2 m c2) m g) ∧ Below w.heap.size w w' := by
  obtain ⟨av, cv, rfl⟩ := hv.form
  have hal := (Below.refl w.heap.size w).alloc (Nat.le_refl _) (.cells #[.slice av nb cv, .int .i64 0, .int .u64 0] 81)
  have hC : CurAt (w.alloc (.cells #[.slice av nb cv, .int .i64 0, .int .u64 0] 81)) w.heap.size w.heap.size 0 := by
    have hb := Blk.fresh w #[.slice av nb cv, .int .i64 0, .int .u64 0] 3 (cu (.slice av nb cv) (0 : Nat) 0) 81 rfl
    exact ⟨_, nb, fb, 0, 0, Nat.le_refl _, hnb, Nat.le_refl _, hb, w, rfl, hv, hal⟩
  have HC := hide hC
  have HS0 := hide (show (w.alloc (.cells #[.slice av nb cv, .int .i64 0, .int .u64 0] 81)).heap.size = w.heap.size + 1 by simp)
  clear hC hv
  go_enter Try.func62, Try.ntmps62
  go_wp2_with fail
  refine (cur_pick w.heap.size w.heap.size 0 8 _ HC.out (by omega) (by omega)).mono ?_
  rintro e w1 ⟨⟨n, hn, rfl⟩, hc1, ho1⟩
  have HC1 := hide hc1
  have hB1 := hal.trans (ho1.below (Nat.le_refl _) (by rw [HS0.out]; omega))
  clear HC hc1 ho1 hal
  go_wp2_with fail
  refine (cur_one w.heap.size w.heap.size 1 12 _ HC1.out (by omega) (by omega)).mono ?_
  rintro e w2 ⟨⟨b2, rfl⟩, hc2, ho2⟩
  have HC2 := hide hc2
  have hB2 := hB1.trans (ho2.below (Nat.le_refl _) hB1.size)
  clear HC1 hc2 ho2 hB1
  cases b2 with
  | false =>
    go_wp2_with fail
    refine (cur_vec w.heap.size w.heap.size 2 n _ HC2.out (by omega) (by omega)).mono ?_
    rintro e w3 ⟨⟨⟨a1, c1, f, rfl, hf⟩⟩, hc3, ho3⟩
    have HC3 := hide hc3
    have HF3 := hide hf
    have hB3 := hB2.trans (ho3.below (Nat.le_refl _) hB2.size)
    clear HC2 hc3 ho3 hB2 hf
    go_wp2_with fail
    refine (cur_vec w.heap.size w.heap.size 22 n _ HC3.out (by omega) (by omega)).mono ?_
    rintro e w4 ⟨⟨⟨a2, c2, g, rfl, hg⟩⟩, hc4, ho4⟩
    have HF4 := hide (And.intro (HF3.out _ ho4) (hg _ (But.refl _ _)))
    have hB4 := hB3.trans (ho4.below (Nat.le_refl _) hB3.size)
    clear HC3 hc4 ho4 hB3 hg HF3
    go_wp2
    go_ret2
    exact ⟨⟨_, _, n, f, _, _, n, g, rfl, by omega, by omega, HF4.out.1, HF4.out.2⟩, hB4⟩
  | true =>
    go_wp2_with fail
    refine (cur_vec w.heap.size w.heap.size 2 n _ HC2.out (by omega) (by omega)).mono ?_
    rintro e w3 ⟨⟨⟨a1, c1, f, rfl, hf⟩⟩, hc3, ho3⟩
    have HC3 := hide hc3
    have HF3 := hide hf
    have hB3 := hB2.trans (ho3.below (Nat.le_refl _) hB2.size)
    clear HC2 hc3 ho3 hB2 hf
    go_wp2_with fail
    rw [show (n : Int) + 1 = ((n + 1 : Nat) : Int) by omega]
    refine (cur_vec w.heap.size w.heap.size 22 (n + 1) _ HC3.out (by omega) (by omega)).mono ?_
    rintro e w4 ⟨⟨⟨a2, c2, g, rfl, hg⟩⟩, hc4, ho4⟩
    have HF4 := hide (And.intro (HF3.out _ ho4) (hg _ (But.refl _ _)))
    have hB4 := hB3.trans (ho4.below (Nat.le_refl _) hB3.size)
    clear HC3 hc4 ho4 hB3 hg HF3
    go_wp2
    go_ret2
    exact ⟨⟨_, _, n, f, _, _, n + 1, g, rfl, by omega, by omega, HF4.out.1, HF4.out.2⟩, hB4⟩
set_option maxHeartbeats 2000000 in
theorem draw_join (v : Value) (nb : Nat) (fb : Nat → Nat) (w : World) (hv : OctetsOf w v nb fb) (hnb : nb ≤ 1048576) :
    Calls Try.prog 43 #[v] w fun e w' => (∃ a1 c1 n f a2 c2 m g, e = .returned (.tuple #[.slice a1 n c1, .slice a2 m c2]) ∧ n ≤ 10 ∧ m ≤ 10 ∧ IntsOf w' (.slice a1 n c1) n f ∧ IntsOf w' (.slice a2 m c2) m g) ∧ Below w.heap.size w w' := by
  have HV := hide hv
  obtain ⟨av, cv, rfl⟩ := hv.form
  clear hv
  go_enter Try.func43, Try.ntmps43
  go_wp2_with fail
  refine (draw_cmp _ nb fb _ HV.out hnb).mono ?_
  rintro e w1 ⟨⟨a1, c1, n, f, a2, c2, m, g, rfl, hn, hm, hf, hg⟩, hb⟩
  have HF := hide (And.intro hf hg)
  clear HV hf hg
  go_wp2
  go_ret2
  exact ⟨⟨_, _, n, f, _, _, m, g, rfl, hn, hm, HF.out.1, HF.out.2⟩, hb⟩
end Go.Proofs.Ytlbcmlleoncddaa

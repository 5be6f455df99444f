/-
  Two lists of items that are drawn.
-/
import Derived.Test.YtbajiamkgffhkaaIcA
import Derived.Test.YtbajiamkgffhkaaItT
namespace Go.Proofs.Ytbajiamkgffhkaa
open Go.RowKit M
open Clk (upd upd_same upd_other)
namespace M
/-- Two lists of items that were drawn. -/
structure DT (w : World) (e : Ending) : Prop where
  h : ∃ a1 c1 n l a2 c2 m k, e = .returned (.tuple #[.slice a1 n c1, .slice a2 m c2]) ∧ n ≤ 30 ∧ n ≤ c1 ∧ m ≤ 30 ∧ m ≤ c2 ∧ ItemsOf w (.slice a1 n c1) n l ∧ ItemsOf w (.slice a2 m c2) m k
theorem cm_lst {n c : Nat} {l : Nat → Im} {x : Int} (h : Beg n l x c) (hr : Ris n l) (hx : 0 ≤ x) : 0 ≤ ah (cm l x) c ∧ ah (cm l x) c ≤ 1000 ∧ 0 ≤ (lst (cm l x) c).v ∧ (lst (cm l x) c).v ≤ 1000000 := by
  cases c with
  | zero => simp [ah, lst, im0]
  | succ k =>
    have h1 := hr.at (show k < n by have := h.1; omega)
    show 0 ≤ min (l k).u x ∧ min (l k).u x ≤ 1000 ∧ 0 ≤ (l k).v ∧ (l k).v ≤ 1000000
    omega
/-- What is held while the second list is made. -/
structure TD (w W : World) (B cb N : Nat) (ra : Value) (n : Nat) (l : Nat → Im) (rb : Value) (m : Nat) (k : Nat → Im) : Prop where
  c : CurAt W B cb N
  b : But cb w W
  x : AnsT W w.heap.size ra n l
  y : AnsT W w.heap.size rb m k
theorem TD.down {w W W' : World} {B cb N : Nat} {ra : Value} {n : Nat} {l : Nat → Im} {rb : Value} {m : Nat} {k : Nat → Im} (h : TD w W B cb N ra n l rb m k) (hb : Below W.heap.size W W') : TD w W' B cb N ra n l rb m k :=
  ⟨h.c.below hb, h.b.trans (But.of_below hb), h.x.down hb, h.y.down hb⟩
theorem TD.draw {w W W' : World} {B cb N N' : Nat} {ra : Value} {n : Nat} {l : Nat → Im} {rb : Value} {m : Nat} {k : Nat → Im} (h : TD w W B cb N ra n l rb m k) (hlt : cb < w.heap.size) (hc : CurAt W' B cb N') (hb : But cb W W') : TD w W' B cb N' ra n l rb m k :=
  ⟨hc, h.b.trans hb, h.x.but hb hlt, h.y.but hb hlt⟩
end M
set_option maxRecDepth 20000 in
set_option maxHeartbeats 8000000 in
theorem cur_two (B cb N : Nat) (w : World) (h : CurAt w B cb N) (hN : N ≤ 800000) :
    Calls Try.prog 47 #[.pointer (some ⟨cb, 0, none⟩)] w fun e w' => DT w' e ∧ But cb w w' := by
  have hcl := h.lt
  have HC := hide h
  clear h
  go_enter Try.func47, Try.ntmps47
  go_wp2_with fail
  refine (cur_items B cb N _ HC.out (by omega)).mono ?_
  rintro e w1 ⟨⟨⟨a1, c1, n, l, rfl, hn, hnc, hA, -⟩⟩, hc1, hb1⟩
  have HA := hide hA
  have HC1 := hide hc1
  clear hA hc1 HC
  go_wp2_with fail
  refine (cur_one B cb (N + 100) 4 _ HC1.out (by omega) (by omega)).mono ?_
  rintro e w2 ⟨⟨b2, rfl⟩, hc2, ho2⟩
  have HT2 := hide (show TD w w2 B cb (N + 101) (.slice a1 n c1) n l (.slice a1 n c1) n l from ⟨hc2, hb1.trans ho2, HA.out.but ho2 hcl, HA.out.but ho2 hcl⟩)
  clear HA HC1 hc2 hb1 ho2
  cases b2 with
  | true =>
    go_wp2_with fail
    refine (cur_items B cb (N + 101) _ HT2.out.c (by omega)).mono ?_
    rintro e w3 ⟨⟨⟨a2, c2, m, k, rfl, hm, hmc, hA2, -⟩⟩, hc3, hb3⟩
    have HF := hide (And.intro (And.intro (HT2.out.x.but hb3 hcl).items hA2.items) (HT2.out.b.trans hb3))
    clear HT2 hA2 hc3 hb3
    go_wp2
    go_ret2
    exact ⟨⟨⟨_, _, n, l, _, _, m, k, rfl, by omega, hnc, by omega, hmc, HF.out.1.1, HF.out.1.2⟩⟩, HF.out.2⟩
  | false =>
    go_wp2_with fail
    refine (spec_goodI _ n l _ HT2.out.x.items (by omega)).mono ?_
    rintro e w3 ⟨rfl, hb⟩
    have HT3 := hide (HT2.out.down hb)
    clear HT2 hb
    cases hg : decide (GoodI n l)
    · have HF := hide (And.intro HT3.out.x.items HT3.out.b)
      clear HT3
      go_wp2
      go_ret2
      exact ⟨⟨⟨_, _, n, l, _, _, n, l, rfl, by omega, hnc, by omega, hnc, HF.out.1, HF.out.1⟩⟩, HF.out.2⟩
    · have HG := hide (of_decide_eq_true hg)
      have ha := HG.out.2.ah_le (Nat.le_refl n)
      obtain ⟨t, ht⟩ : ∃ t : Nat, ah l n = (t : Int) := ⟨(ah l n).toNat, by omega⟩
      have HTT := hide ht
      have ht2 : t ≤ 1000 := by omega
      go_wp2_with fail
      refine (spec_last _ n l _ HT3.out.x.items (by omega)).mono ?_
      rintro e w4 ⟨rfl, rfl⟩
      rw [HTT.out]
      clear ht ha
      go_wp2_with fail
      rw [show (t : Int) + 1 = ((t + 1 : Nat) : Int) by omega]
      refine (cur_picks B cb (N + 101) (t + 1) _ HT3.out.c (by omega) (by omega)).mono ?_
      rintro e w5 ⟨⟨x, hx, rfl⟩, hc5, ho5⟩
      have HT5 := hide (HT3.out.draw hcl hc5 ho5)
      clear HT3 hc5 ho5
      go_wp2_with fail
      refine (spec_cutL _ n l (x : Int) _ HT5.out.x.items (by omega) (by omega)).mono ?_
      rintro e w6 ⟨⟨r, c, rfl, hc, hAr⟩, hb6⟩
      obtain ⟨ar, cr, rfl, hcr⟩ := hAr.roomy
      have hcn := hc.1
      have h20 := HG.out.1
      have HLS := hide (cm_lst hc HG.out.2 (show (0 : Int) ≤ (x : Int) by omega))
      obtain ⟨lb, hlb⟩ : ∃ lb, cm l (x : Int) = lb := ⟨_, rfl⟩
      have HT6 := hide (show TD w w6 B cb (N + 103) (.slice a1 n c1) n l (.slice ar c cr) c lb from by
        have h5 := HT5.out.down hb6
        exact ⟨h5.c, h5.b, h5.x, by rw [← hlb]; exact hAr.mono HT5.out.b.size⟩)
      rw [hlb] at HLS
      clear HT5 hAr hb6 hc hlb HG hg HTT
      by_cases hc0 : 0 < c
      · obtain ⟨k, hk⟩ : ∃ k, c = k + 1 := ⟨c - 1, by omega⟩
        have hd0 : decide ((c : Int) > 0) = true := decide_eq_true (by omega)
        have hd1 : (c : Int) - 1 = (k : Int) := by omega
        have hki : (0 : Int) ≤ (k : Int) := by omega
        have hkc : (k : Int) < (c : Int) := by omega
        have HV := hide (show ∃ b, ar = some ⟨b, 0, none⟩ ∧ w6.cell? ⟨b, k * 2 + 1, none⟩ = some (.int .i64 (lb k).v) from by
          rcases HT6.out.y with ⟨_, h0⟩ | ⟨b, c', hf, _, hO⟩
          · omega
          · cases hf
            exact ⟨b, rfl, (hO.cell (by omega)).2⟩)
        obtain ⟨b, rfl, cv0⟩ := HV.out
        have hvl : 0 ≤ (lb k).v ∧ (lb k).v ≤ 1000000 := by
          have := HLS.out.2.2
          rw [hk] at this
          exact this
        obtain ⟨hv0, hv1⟩ := hvl
        clear hk HV
        go_wp2_with fail
        refine (cur_pick B cb (N + 103) 4 _ HT6.out.c (by omega) (by omega)).mono ?_
        rintro e w7 ⟨⟨x7, hx7, rfl⟩, hc7, ho7⟩
        have HT7 := hide (HT6.out.draw hcl hc7 ho7)
        clear HT6 hc7 ho7
        go_wp2
        go_loopw [5, 6, 7] (fun bi vi ci wr => ∃ (m cnt N' cp : Nat) (k : Nat → Im) (ao : Option Addr) (vv : Int), m ≤ 21 ∧ m ≤ cp ∧ N' + 3 * cnt ≤ N + 200 ∧ 0 ≤ vv ∧ vv + 3 * (cnt : Int) ≤ 1000100 ∧ ci = .int .i64 (cnt : Int) ∧ vi = .int .i64 vv ∧ bi = .slice ao m cp ∧ Hid (0 ≤ ah k m ∧ ah k m ≤ 1000) ∧ Hid (TD w wr B cb N' (.slice a1 n c1) n l (.slice ao m cp) m k)) (fun _ _ c _ => (intOf c).toNat)
        case atStart => exact ⟨c, x7, N + 104, cr, lb, some ⟨b, 0, none⟩, (lb k).v, by omega, hcr, by omega, by omega, by omega, rfl, rfl, rfl, hide ⟨HLS.out.1, HLS.out.2.1⟩, HT7⟩
        case round =>
          rename World => wo
          obtain ⟨m, cnt, N', cp, k, ao, vv, hm, hmc, hNc, hv0, hv1, rfl, rfl, rfl, HK, HT⟩ := hrel
          clear HT7 HLS
          by_cases hcnt : 0 < cnt
          · obtain ⟨cn, rfl⟩ : ∃ cn, cnt = cn + 1 := ⟨cnt - 1, by omega⟩
            have hgt : ((cn + 1 : Nat) : Int) > 0 := by omega
            go_wp2_with fail
            refine (cur_pick B cb N' 3 _ HT.out.c (by omega) (by omega)).mono ?_
            rintro e w8 ⟨⟨x8, hx8, rfl⟩, hc8, ho8⟩
            have HT8 := hide (HT.out.draw hcl hc8 ho8)
            clear HT hc8 ho8
            go_wp2_with fail
            refine (spec_last _ m k _ HT8.out.y.items (by omega)).mono ?_
            rintro e w9 ⟨rfl, rfl⟩
            obtain ⟨y, hy⟩ : ∃ y, ah k m = y := ⟨_, rfl⟩
            have hy0 : 0 ≤ y ∧ y ≤ 1000 := by rw [← hy]; exact HK.out
            obtain ⟨hy1, hy2⟩ := hy0
            rw [hy]
            have HYY := hide hy
            clear hy
            go_wp2_with fail
            refine (spec_append _ m k (y + 1) (vv + (x8 : Int)) _ HT8.out.y.items (by omega)).mono ?_
            rintro e w10 ⟨hAP, hb10⟩
            have HT10 := hide (HT8.out.down hb10)
            have hsz := HT8.out.b.size
            clear HT8 hb10
            rcases hAP with ⟨hG, r, rfl, hA⟩ | ⟨-, rfl⟩
            · obtain ⟨ar2, cr2, rfl, hrm⟩ := hA.roomy
              have h20 := hG.2.2.1
              have HK2 := hide (hG.2.2.2.ah_le (Nat.le_refl _))
              have HT11 := hide (show TD w w10 B cb (N' + 1) (.slice a1 n c1) n l (.slice ar2 (kpt m k (vv + (x8 : Int)) + 1) cr2) (kpt m k (vv + (x8 : Int)) + 1) (apL m k (y + 1) (vv + (x8 : Int))) from ⟨HT10.out.c, HT10.out.b, HT10.out.x, hA.mono hsz⟩)
              clear hA hG HT10 HK
              generalize kpt m k (vv + (x8 : Int)) + 1 = m2 at *
              go_wp2
              exact ⟨⟨m2, cn, N' + 1, cr2, _, ar2, vv + (x8 : Int), by omega, hrm, by omega, by omega, by omega, by go_num, rfl, rfl, HK2, HT11⟩, by simp [intOf]⟩
            · clear HYY
              go_wp2
              exact ⟨⟨m, cn, N' + 1, cp, k, ao, vv + (x8 : Int), by omega, hmc, by omega, by omega, by omega, by go_num, rfl, rfl, HK, HT10⟩, by simp [intOf]⟩
          · obtain rfl : cnt = 0 := by omega
            have HF := hide (And.intro (And.intro HT.out.x.items HT.out.y.items) HT.out.b)
            clear HT HK
            go_wp2
            go_ret2
            exact ⟨⟨⟨_, _, n, l, _, _, m, k, rfl, by omega, hnc, by omega, hmc, HF.out.1.1, HF.out.1.2⟩⟩, HF.out.2⟩
      · have hcz : c = 0 := by omega
        have hd0 : decide ((c : Int) > 0) = false := decide_eq_false (by omega)
        have hng : ¬ ((c : Int) > 0) := by omega
        clear hcz
        go_wp2_with fail
        refine (cur_pick B cb (N + 103) 4 _ HT6.out.c (by omega) (by omega)).mono ?_
        rintro e w7 ⟨⟨x7, hx7, rfl⟩, hc7, ho7⟩
        have HT7 := hide (HT6.out.draw hcl hc7 ho7)
        clear HT6 hc7 ho7
        go_wp2
        go_loopw [5, 6, 7] (fun bi vi ci wr => ∃ (m cnt N' cp : Nat) (k : Nat → Im) (ao : Option Addr) (vv : Int), m ≤ 21 ∧ m ≤ cp ∧ N' + 3 * cnt ≤ N + 200 ∧ 0 ≤ vv ∧ vv + 3 * (cnt : Int) ≤ 1000100 ∧ ci = .int .i64 (cnt : Int) ∧ vi = .int .i64 vv ∧ bi = .slice ao m cp ∧ Hid (0 ≤ ah k m ∧ ah k m ≤ 1000) ∧ Hid (TD w wr B cb N' (.slice a1 n c1) n l (.slice ao m cp) m k)) (fun _ _ c _ => (intOf c).toNat)
        case atStart => exact ⟨c, x7, N + 104, cr, lb, ar, 0, by omega, hcr, by omega, by omega, by omega, rfl, rfl, rfl, hide ⟨HLS.out.1, HLS.out.2.1⟩, HT7⟩
        case round =>
          rename World => wo
          obtain ⟨m, cnt, N', cp, k, ao, vv, hm, hmc, hNc, hv0, hv1, rfl, rfl, rfl, HK, HT⟩ := hrel
          clear HT7 HLS
          by_cases hcnt : 0 < cnt
          · obtain ⟨cn, rfl⟩ : ∃ cn, cnt = cn + 1 := ⟨cnt - 1, by omega⟩
            have hgt : ((cn + 1 : Nat) : Int) > 0 := by omega
            go_wp2_with fail
            refine (cur_pick B cb N' 3 _ HT.out.c (by omega) (by omega)).mono ?_
            rintro e w8 ⟨⟨x8, hx8, rfl⟩, hc8, ho8⟩
            have HT8 := hide (HT.out.draw hcl hc8 ho8)
            clear HT hc8 ho8
            go_wp2_with fail
            refine (spec_last _ m k _ HT8.out.y.items (by omega)).mono ?_
            rintro e w9 ⟨rfl, rfl⟩
            obtain ⟨y, hy⟩ : ∃ y, ah k m = y := ⟨_, rfl⟩
            have hy0 : 0 ≤ y ∧ y ≤ 1000 := by rw [← hy]; exact HK.out
            obtain ⟨hy1, hy2⟩ := hy0
            rw [hy]
            have HYY := hide hy
            clear hy
            go_wp2_with fail
            refine (spec_append _ m k (y + 1) (vv + (x8 : Int)) _ HT8.out.y.items (by omega)).mono ?_
            rintro e w10 ⟨hAP, hb10⟩
            have HT10 := hide (HT8.out.down hb10)
            have hsz := HT8.out.b.size
            clear HT8 hb10
            rcases hAP with ⟨hG, r, rfl, hA⟩ | ⟨-, rfl⟩
            · obtain ⟨ar2, cr2, rfl, hrm⟩ := hA.roomy
              have h20 := hG.2.2.1
              have HK2 := hide (hG.2.2.2.ah_le (Nat.le_refl _))
              have HT11 := hide (show TD w w10 B cb (N' + 1) (.slice a1 n c1) n l (.slice ar2 (kpt m k (vv + (x8 : Int)) + 1) cr2) (kpt m k (vv + (x8 : Int)) + 1) (apL m k (y + 1) (vv + (x8 : Int))) from ⟨HT10.out.c, HT10.out.b, HT10.out.x, hA.mono hsz⟩)
              clear hA hG HT10 HK
              generalize kpt m k (vv + (x8 : Int)) + 1 = m2 at *
              go_wp2
              exact ⟨⟨m2, cn, N' + 1, cr2, _, ar2, vv + (x8 : Int), by omega, hrm, by omega, by omega, by omega, by go_num, rfl, rfl, HK2, HT11⟩, by simp [intOf]⟩
            · clear HYY
              go_wp2
              exact ⟨⟨m, cn, N' + 1, cp, k, ao, vv + (x8 : Int), by omega, hmc, by omega, by omega, by omega, by go_num, rfl, rfl, HK, HT10⟩, by simp [intOf]⟩
          · obtain rfl : cnt = 0 := by omega
            have HF := hide (And.intro (And.intro HT.out.x.items HT.out.y.items) HT.out.b)
            clear HT HK
            go_wp2
            go_ret2
            exact ⟨⟨⟨_, _, n, l, _, _, m, k, rfl, by omega, hnc, by omega, hmc, HF.out.1.1, HF.out.1.2⟩⟩, HF.out.2⟩
set_option maxRecDepth 20000 in
set_option maxHeartbeats 2000000 in
theorem draw_lca (v : Value) (n : Nat) (f : Nat → Nat) (w : World) (hv : OctetsOf w v n f) (hn : n ≤ 1048576) :
    Calls Try.prog 34 #[v] w fun e w' => DT w' e ∧ Below w.heap.size w w' := by
  obtain ⟨a, cap, rfl⟩ := hv.form
  have hal := (Below.refl w.heap.size w).alloc (Nat.le_refl _) (.cells #[.slice a n cap, .int .i64 0, .int .u64 0] 64)
  have hC : CurAt (w.alloc (.cells #[.slice a n cap, .int .i64 0, .int .u64 0] 64)) w.heap.size w.heap.size 0 := by
    have hb := Blk.fresh w #[.slice a n cap, .int .i64 0, .int .u64 0] 3 (cu (.slice a n cap) (0 : Nat) 0) 64 rfl
    exact ⟨_, n, f, 0, 0, Nat.le_refl _, hn, Nat.le_refl _, hb, w, rfl, hv, hal⟩
  have HC := hide hC
  clear hC hv
  go_enter Try.func34, Try.ntmps34
  go_wp2_with fail
  refine (cur_two w.heap.size w.heap.size 0 _ HC.out (by omega)).mono ?_
  rintro e w3 ⟨⟨⟨a1, c1, n1, l1, a2, c2, n2, l2, rfl, h1, h2, h3, h4, h5, h6⟩⟩, hbut⟩
  have hb3 := hal.trans (hbut.below (Nat.le_refl _) (by simp))
  have HF := hide (And.intro h5 h6)
  clear hbut HC hal h5 h6
  go_wp2
  go_ret2
  exact ⟨⟨⟨_, _, n1, l1, _, _, n2, l2, rfl, h1, h2, h3, h4, HF.out.1, HF.out.2⟩⟩, hb3⟩
end Go.Proofs.Ytbajiamkgffhkaa

/-
  The program's tick: slots whose time comes are taken, level by level; what is due is told in order.
-/
import Derived.Test.YtcodllammndciaaWhQ
import Derived.Test.YtcodllammndciaaShelf
import Derived.Sort.OwnSortedInts
namespace Go.Proofs.Ytcodllammndciaa
open Go.RowKit M
open Clk (upd upd_same upd_other)
open Go.Sort (grow)
theorem sort_row (B0 : Nat) (v : Value) (D : List Int) (w : World) (hv : w.ownsRow B0 3 1 v D.length (pvi D)) (hD : D.length ≤ 100000) :
    Calls Try.prog 82 #[v] w fun e w' => (e = .returned (.tuple #[]) ∧ w'.ownsRow B0 3 1 v D.length (pvi (srt D))) ∧ w.grownBy w' v.ownBlock := by
  rcases hv.2 with ⟨rfl, h0⟩ | ⟨g, cap, cur, rfl, hB, hg, hn, hc, hs, ht⟩
  · have hD0 : D = [] := List.length_eq_zero_iff.1 h0
    subst hD0
    refine (Try.slices_Sort_int_none none 0 w).mono ?_
    rintro e w' ⟨rfl, rfl⟩
    have e : srt [] = [] := List.length_eq_zero_iff.1 (srt_len [])
    exact ⟨⟨rfl, by rw [e]; exact World.ownsRow_nil _ _ _ _⟩, ⟨rfl, rfl, rfl, Nat.le_refl _, fun _ _ _ => rfl⟩⟩
  · have hlt : g < w.heap.size := (Array.getElem?_eq_some_iff.1 hg).1
    rw [Nat.mul_one] at ht
    refine (Try.slices_Sort_int g 0 cap D w (holds_of_blockI hg ht) hlt (by omega)).mono ?_
    rintro e w' ⟨rfl, n, os, rfl⟩
    exact ⟨⟨rfl, ownsRow_sortedI (ts := srt D) (srt_len D) hB hg hn hc hs⟩, grownBy_sortedI _⟩
namespace M
theorem tw_int {w w' : World} {B g : Nat} {rs : Nat → Rw} {X : Nat → Value} (h : TW w B g rs X) {B' n : Nat} {v : Value} {xs : List Value} (hv : w.ownsRow B' 3 1 v n xs) (hg : w.grownBy w' v.ownBlock) : TW w' B g rs X :=
  ⟨h.ge, h.blk.grown hv (by decide) hg, fun i hi => owns_other (h.row i hi) hg (fun q hq e => owns_type (h.row i hi) hv (by decide) q hq e.symm), h.apart⟩
theorem aside_int {w w' : World} {B : Nat} {X : Nat → Value} {u : Value} {m : Nat} {f : Nat → Int} (h : AsideT w B X u m f) {B' n : Nat} {v : Value} {xs : List Value} (hv : w.ownsRow B' 3 1 v n xs) (hg : w.grownBy w' v.ownBlock) : AsideT w' B X u m f :=
  ⟨owns_other h.1 hg (fun q hq e => owns_type h.1 hv (by decide) q hq e.symm), h.2⟩
/-- Rows of numbers that were there at w0 are there yet. -/
def KpI (w0 w : World) : Prop := ∀ B u n xs, w0.ownsRow B 3 1 u n xs → w.ownsRow B 3 1 u n xs
theorem KpI.grow {w0 w w' : World} (h : KpI w0 w) {n : Nat} {v : Value} {xs : List Value} (hv : w.ownsRow w0.heap.size 3 1 v n xs) (hg : w.grownBy w' v.ownBlock) : KpI w0 w' := fun B u n xs hu =>
  owns_other (h B u n xs hu) hg (fun q hq e => by
    have a1 := (hu.lt q hq).2
    have a2 := (hv.lt q e.symm).1
    omega)
theorem KpI.below {w0 w w' : World} (h : KpI w0 w) (hb : Below w.heap.size w w') : KpI w0 w' := fun B u n xs hu => owns_below (h B u n xs hu) hb
theorem KpI.kp {w0 w w' : World} {B : Nat} {X X' : Nat → Value} (h : KpI w0 w) (hk : Kp B w w' X X') : KpI w0 w' := fun B' u n xs hu => hk.2 B' u n xs (h B' u n xs hu)
theorem below_grow2 {B : Nat} {w0 w w' : World} (hb : Below B w0 w) (hB : B ≤ w0.heap.size) {n : Nat} {v : Value} {xs : List Value} (hv : w.ownsRow w0.heap.size 3 1 v n xs) (hg : w.grownBy w' v.ownBlock) : Below B w0 w' :=
  hb.grown hg (Nat.le_trans hB hb.size) (fun q hq => Nat.le_trans hB (hv.lt q hq).1)
/-- What is there when d levels are done. -/
def stL (t : Int) (rs : Nat → Rw) : Nat → (Nat → Rw) × List Int
  | 0 => (rs, [])
  | d + 1 => lev t (2 - d) (stL t rs d)
def wkL (t : Int) (rs : Nat → Rw) : Nat → Nat
  | 0 => 0
  | d + 1 => wkL t rs d + wk t (2 - d) (stL t rs d)
theorem stL_three (t : Int) (rs : Nat → Rw) : stL t rs 3 = tickR t rs := rfl
theorem wkL_three (t : Int) (rs : Nat → Rw) : wkL t rs 3 = tickW t rs := by
  show 0 + wk t 2 (rs, []) + wk t 1 (lev t 2 (rs, [])) + wk t 0 (lev t 1 (lev t 2 (rs, []))) = tickW t rs
  rw [Nat.zero_add]; rfl
theorem stL_ok {t : Int} {rs : Nat → Rw} (ht : GoodN t) (h : LiesAll (t - 1) rs) : ∀ d, d ≤ 3 → Mid t (3 - d) (stL t rs d).1 ∧ tot (stL t rs d).1 24 + (stL t rs d).2.length = tot rs 24
  | 0, _ => ⟨mid_start h, rfl⟩
  | d + 1, hd => by
    obtain ⟨h1, h2⟩ := stL_ok ht h d (by omega)
    have e : 3 - d = 2 - d + 1 := by omega
    rw [e] at h1
    obtain ⟨h3, h4⟩ := lev_ok (l := 2 - d) (by omega) ht h1
    refine ⟨?_, ?_⟩
    · rw [show 3 - (d + 1) = 2 - d by omega]; exact h3
    · rw [← h2]; exact h4
theorem row_tot (rs : Nat → Rw) {i : Nat} (hi : i < 24) : (rs i).n ≤ tot rs 24 := by
  have h1 := tot_mono rs (i := i + 1) 24 hi
  have h2 : tot rs (i + 1) = tot rs i + (rs i).n := rfl
  omega
/-- The state of a tick: turning wheel, what is due, and what lies aside. -/
structure TkI (B g : Nat) (w0 w : World) (s : (Nat → Rw) × List Int) (X : Nat → Value) (v : Value) : Prop where
  tw : TW w B g s.1 X
  due : w.ownsRow w0.heap.size 3 1 v s.2.length (pvi s.2)
  kp : KpI w0 w
  bel : Below B w0 w
  hB : B ≤ w0.heap.size
theorem TkI.down {B g : Nat} {w0 w w' : World} {s : (Nat → Rw) × List Int} {X : Nat → Value} {v : Value} (h : TkI B g w0 w s X v) (hb : Below w.heap.size w w') : TkI B g w0 w' s X v :=
  ⟨h.tw.down hb, owns_below h.due hb, h.kp.below hb, h.bel.trans (hb.mono (Nat.le_trans h.hB h.bel.size)), h.hB⟩
theorem TkI.sz {B g : Nat} {w0 w : World} {s : (Nat → Rw) × List Int} {X : Nat → Value} {v : Value} (h : TkI B g w0 w s X v) : B ≤ w.heap.size := Nat.le_trans h.hB h.bel.size
theorem TkI.took {B g k n : Nat} {f : Nat → Int} {w0 w w' : World} {s : (Nat → Rw) × List Int} {X : Nat → Value} {v v' : Value} (h : TkI B g w0 w s X v) (ht : Took B g k n f s.1 X w w' v') : ∃ X', TkI B g w0 w' (upd s.1 k noRow, s.2) X' v ∧ AsideT w' B X' v' n f := by
  obtain ⟨⟨X', h1, h2, -⟩, h4, h5⟩ := ht
  exact ⟨X', ⟨h1, h4 _ _ _ _ h.due, fun B' u m xs hu => h4 _ _ _ _ (h.kp B' u m xs hu), h.bel.trans h5, h.hB⟩, h2⟩
theorem TkI.put {B g : Nat} {w0 w w' : World} {s : (Nat → Rw) × List Int} {X X' : Nat → Value} {v : Value} {rs' : Nat → Rw} (h : TkI B g w0 w s X v) (ht : TW w' B g rs' X') (hk : Kp B w w' X X') (hb : Below B w w') : TkI B g w0 w' (rs', s.2) X' v :=
  ⟨ht, hk.2 _ _ _ _ h.due, h.kp.kp hk, h.bel.trans hb, h.hB⟩
theorem TkI.app {B g : Nat} {w0 w w' : World} {s : (Nat → Rw) × List Int} {X : Nat → Value} {v v' : Value} {id : Int} (h : TkI B g w0 w s X v) (hg : w.grownBy w' v.ownBlock) (hv : w'.ownsRow w0.heap.size 3 1 v' (s.2.length + 1) (pvi s.2 ++ [.int .i64 id])) : TkI B g w0 w' (s.1, s.2 ++ [id]) X v' :=
  ⟨tw_int h.tw h.due hg, by rw [pvi_snoc, List.length_append]; exact hv, h.kp.grow h.due hg, below_grow2 h.bel h.hB h.due hg, h.hB⟩
theorem news1' (w : World) (c : Value) (t : TypeId) {H : Nat} (hH : w.heap.size = H) : ∀ (j : Nat) u, [c][j]? = some u → (w.alloc (.cells #[c] t)).cell? ((⟨H, 0, none⟩ : Addr).add j) = some u := by
  subst hH; exact news1 w c t
theorem kOf_nat {l tn u : Nat} (hu : pw l = (u : Int)) : kOf l (tn : Int) = l * 8 + tn / u % 8 := by
  unfold kOf sN
  rw [hu]
  have e : (tn : Int) / (u : Int) = ((tn / u : Nat) : Int) := rfl
  rw [e]
  omega
theorem tot_short {rs : Nat → Rw} (h : tot rs 24 ≤ 60) : Short 24 rs := ⟨by omega, fun i hi => by have := row_tot rs hi; omega⟩
end M
set_option maxRecDepth 20000 in
set_option maxHeartbeats 8000000 in
theorem turn_tick (B g : Nat) (rs : Nat → Rw) (X : Nat → Value) (t : Int) (w : World) (h : TW w B g rs X) (hL : LiesAll (t - 1) rs) (htot : tot rs 24 ≤ 60) (ht : GoodN t) (hB : B ≤ w.heap.size) :
    Calls Try.prog 63 #[.pointer (some ⟨g, 0, none⟩), .int .i64 t] w fun e w' => ∃ v X' m, e = .returned (.tuple #[v, .int .i64 ((m : Nat) : Int)]) ∧ m + (tickR t rs).2.length = tickW t rs ∧ TkI B g w w' ((tickR t rs).1, srt (tickR t rs).2) X' v := by
  obtain ⟨i0, hi, hz0, hz1, hz2⟩ := info_parts info_int
  have HS := hide (fun d hd => stL_ok (rs := rs) ht hL d hd)
  have HT0 := hide (show TkI B g w w (stL t rs 0) X (.slice none 0 0) from ⟨h, World.ownsRow_nil _ _ _ _, fun _ _ _ _ h => h, Below.refl _ _, hB⟩)
  have ht0 : 0 ≤ t ∧ t ≤ 100000 := ht
  have HG := hide ht
  clear h hL ht
  go_enter Try.func63, Try.ntmps63
  go_wp2_with fail
  go_loopw [6, 7, 8] (fun x y z wr => ∃ (d m : Nat) (X : Nat → Value), d ≤ 3 ∧ z = .int .i64 (2 - (d : Int)) ∧ y = .int .i64 (m : Int) ∧ Hid (m + (stL t rs d).2.length = wkL t rs d) ∧ m ≤ 60 * d ∧ Hid (TkI B g w wr (stL t rs d) X x)) (fun _ _ z _ => ((intOf z) + 1).toNat)
  case atStart => exact ⟨0, 0, X, by omega, rfl, rfl, hide rfl, by omega, HT0⟩
  case round =>
    rename World => wo
    obtain ⟨d, m, X1, hd3, rfl, rfl, HM, hm, HT⟩ := hrel
    obtain ⟨a6, c6, rfl⟩ := own_form HT.out.due
    obtain ⟨D, hD⟩ : ∃ D, (stL t rs d).2.length = D := ⟨_, rfl⟩
    rw [hD]
    have HDn := hide hD
    clear hD
    by_cases hlt : d < 3
    · obtain ⟨l, hld⟩ : ∃ l, 2 - d = l := ⟨_, rfl⟩
      have hl2 : l ≤ 2 := by omega
      have hlz : 2 - (d : Int) = (l : Int) := by omega
      rw [hlz]
      obtain ⟨tn, rfl⟩ : ∃ tn : Nat, t = (tn : Int) := ⟨t.toNat, by omega⟩
      have htn : tn ≤ 100000 := by omega
      obtain ⟨u, hu⟩ : ∃ u : Nat, pw l = (u : Int) := ⟨(pw l).toNat, by have := pw_le l (by omega); omega⟩
      have hu1 : 1 ≤ u := by have := pw_le l (by omega); omega
      have hu2 : u ≤ 512 := by have := pw_le l (by omega); omega
      have HU := hide (show ∀ W, Calls Try.prog 80 #[.int .i64 (l : Int)] W fun e w' => e = .returned (.int .i64 (u : Int)) ∧ w' = W from fun W => by rw [← hu]; exact unit_of l W (by omega))
      obtain ⟨r, hr⟩ : ∃ r, tn % u = r := ⟨_, rfl⟩
      have hmod : (tn : Int).tmod (u : Int) = (r : Int) := by rw [← hr]; rfl
      have hu0 : ¬ (u : Int) = 0 := by omega
      have hub : ((u : Int) == 0) = false := by simp; omega
      have hl0 : (0 : Int) ≤ (l : Int) := by omega
      have hl3 : (l : Int) < 3 := by omega
      have hge : (l : Int) ≥ 0 := hl0
      have HS1 := hide (show stL (tn : Int) rs (d + 1) = lev (tn : Int) l (stL (tn : Int) rs d) ∧ wkL (tn : Int) rs (d + 1) = wkL (tn : Int) rs d + wk (tn : Int) l (stL (tn : Int) rs d) from by rw [← hld]; exact ⟨rfl, rfl⟩)
      have hnext : (l : Int) - 1 = 2 - ((d + 1 : Nat) : Int) := by omega
      by_cases hz : r = 0
      · have hzt : (tn : Int) % pw l = 0 := by
          rw [hu, show (tn : Int) % (u : Int) = ((tn % u : Nat) : Int) from rfl, hr, hz]; rfl
        have hne : ((r : Int) != 0) = false := by rw [hz]; rfl
        obtain ⟨q, hq⟩ : ∃ q, tn / u = q := ⟨_, rfl⟩
        have hqt : q ≤ tn := by rw [← hq]; exact Nat.div_le_self _ _
        have hdiv : (tn : Int).tdiv (u : Int) = (q : Int) := by rw [← hq]; rfl
        have hwq : IntKind.i64.wrap (q : Int) = (q : Int) := by rw [IntKind.wrap_i64]; omega
        obtain ⟨im, him⟩ : ∃ im, q % 8 = im := ⟨_, rfl⟩
        have HK := hide (show kOf l (tn : Int) = l * 8 + im from by rw [kOf_nat hu, hq, him])
        have hrn : ((stL (tn : Int) rs d).1 (l * 8 + im)).n ≤ 60 := by
          have h1 := (HS.out d hd3).2
          have h2 := row_tot (stL (tn : Int) rs d).1 (i := l * 8 + im) (by omega)
          omega
        have HRO := hide (show RowOk (tn : Int) ((stL (tn : Int) rs d).1 (l * 8 + im)) ((stL (tn : Int) rs d).1 (l * 8 + im)).n from by
          have h1 := (HS.out d hd3).1
          rw [show 3 - d = l + 1 by omega] at h1
          have h2 := row_taken hl2 HG.out hzt h1
          rw [HK.out] at h2
          exact h2)
        obtain ⟨n, hn⟩ : ∃ n, ((stL (tn : Int) rs d).1 (l * 8 + im)).n = n := ⟨_, rfl⟩
        obtain ⟨f, hf⟩ : ∃ f, ((stL (tn : Int) rs d).1 (l * 8 + im)).f = f := ⟨_, rfl⟩
        have HLv := hide (show lev (tn : Int) l (stL (tn : Int) rs d) = proc (tn : Int) ⟨n, f⟩ n (upd (stL (tn : Int) rs d).1 (l * 8 + im) noRow, (stL (tn : Int) rs d).2) ∧ wk (tn : Int) l (stL (tn : Int) rs d) = n from by
          unfold lev wk; rw [if_pos hzt, if_pos hzt, HK.out, ← hn, ← hf]; exact ⟨rfl, rfl⟩)
        have HTk := hide (show ∀ W : World, W.heap = wo.heap → TkI B g w wo.drew (stL (tn : Int) rs d) X1 (.slice a6 D c6) ∧ Calls Try.prog 81 #[.pointer (some ⟨g, l * 8, none⟩), .int .i64 (q : Int)] wo.drew fun e w' => ∃ v, e = .returned v ∧ Took B g (l * 8 + im) n f (stL (tn : Int) rs d).1 X1 wo.drew w' v from fun W _ => by
          have h1 : TkI B g w wo.drew (stL (tn : Int) rs d) X1 (.slice a6 D c6) := by rw [← HDn.out]; exact HT.out.down (Below.refl _ _).drew
          refine ⟨h1, ?_⟩
          have h2 := ring_take B g l q im (stL (tn : Int) rs d).1 X1 wo.drew h1.tw (by omega) (by omega) him hrn h1.sz
          rw [hn, hf] at h2
          exact h2)
        have HRO2 := hide (show RowOk (tn : Int) ⟨n, f⟩ n from fun j hj => by
          have h := HRO.out j (by rw [hn]; exact hj)
          rw [hf] at h
          exact h)
        have hn60 : n ≤ 60 := by rw [← hn]; exact hrn
        have HMd0 := hide (show Mid (tn : Int) l (upd (stL (tn : Int) rs d).1 (l * 8 + im) noRow) ∧ tot (upd (stL (tn : Int) rs d).1 (l * 8 + im) noRow) 24 + (stL (tn : Int) rs d).2.length + n = tot rs 24 from by
          obtain ⟨h1, h2⟩ := HS.out d hd3
          rw [show 3 - d = l + 1 by omega] at h1
          have h3 := tot_upd (stL (tn : Int) rs d).1 (l * 8 + im) noRow 24
          rw [if_pos (by omega), if_pos (by omega), hn] at h3
          have h4 : noRow.n = 0 := rfl
          exact ⟨by rw [← HK.out]; exact mid_empty hzt h1, by omega⟩)
        clear HT hzt hz hr hu hq him hn hf hrn HRO HK
        go_wp2_with fail
        refine (HU.out _).mono ?_
        rintro e w1 ⟨rfl, rfl⟩
        go_wp2_with fail
        go_region_with (go_at_call 81; refine (HTk.out _ rfl).2.mono ?_; rintro e wj ⟨vj, rfl, htj⟩; obtain ⟨aj, cj, rfl⟩ := own_form (show wj.ownsRow B 40 2 vj n (tv n f) from by obtain ⟨⟨_, _, h, _⟩, _⟩ := htj; exact h.1))
        all_goals
          obtain ⟨X2, hTj, hAj⟩ := (HTk.out _ rfl).1.took htj
          have HI0 := hide (show TkI B g w wj (proc (tn : Int) ⟨n, f⟩ 0 (upd (stL (tn : Int) rs d).1 (l * 8 + im) noRow, (stL (tn : Int) rs d).2)) X2 (.slice a6 D c6) from hTj)
          have HA0 := hide hAj
          obtain ⟨s0, hs0⟩ : ∃ s0, (upd (stL (tn : Int) rs d).1 (l * 8 + im) noRow, (stL (tn : Int) rs d).2) = s0 := ⟨_, rfl⟩
          rw [hs0] at HI0 HLv
          have HMd := hide (show Mid (tn : Int) l s0.1 ∧ tot s0.1 24 + s0.2.length + n = tot rs 24 from by rw [← hs0]; exact HMd0.out)
          have HM0 := hide (show m + (proc (tn : Int) ⟨n, f⟩ 0 s0).2.length = wkL (tn : Int) rs d + 0 from by rw [← hs0]; exact HM.out)
          have HD0 := hide (show (proc (tn : Int) ⟨n, f⟩ 0 s0).2.length = D from by rw [← hs0]; exact HDn.out)
          clear htj hTj hAj HTk HM hs0 HU HT0 HMd0
          simp only [List.getElem_toArray, List.getElem_cons_succ, List.getElem_cons_zero, go_sem, List.setIfInBounds_toArray, List.set_cons_succ, List.set_cons_zero]
          go_wp2_with fail
          go_loopw [6, 7, 31] (fun x y z wr => ∃ (j m' : Nat) (X : Nat → Value), j ≤ n ∧ z = .int .i64 (j : Int) ∧ y = .int .i64 (m' : Int) ∧ Hid (m' + (proc (tn : Int) ⟨n, f⟩ j s0).2.length = wkL (tn : Int) rs d + j) ∧ m' ≤ 60 * d + j ∧ Hid (TkI B g w wr (proc (tn : Int) ⟨n, f⟩ j s0) X x) ∧ Hid (AsideT wr B X (.slice aj n cj) n f)) (fun _ _ z _ => n - (intOf z).toNat)
          case atStart => exact ⟨0, m, X2, by omega, rfl, rfl, HM0, by omega, HI0, HA0⟩
          case round =>
            rename World => wq
            obtain ⟨j, m', X3, hjn, rfl, rfl, HMj, hmj, HTj, HAj⟩ := hrel
            obtain ⟨a7, c7, rfl⟩ := own_form HTj.out.due
            obtain ⟨D7, hD7⟩ : ∃ D7, (proc (tn : Int) ⟨n, f⟩ j s0).2.length = D7 := ⟨_, rfl⟩
            rw [hD7]
            have HD7 := hide hD7
            clear hD7
            by_cases hjl : j < n
            · obtain ⟨aj', cj', hxj, hnj, hVj⟩ := own_V HAj.out.1
              cases hxj
              obtain ⟨b, rfl, hBb, hOT⟩ := hVj (by omega)
              have c1 := hOT.cell (show j * 2 < n * 2 by omega)
              have c2 := hOT.cell (show j * 2 + 1 < n * 2 by omega)
              obtain ⟨tm, htm⟩ : ∃ x, f (j * 2) = x := ⟨_, rfl⟩
              obtain ⟨id, hid⟩ : ∃ x, f (j * 2 + 1) = x := ⟨_, rfl⟩
              rw [htm] at c1
              rw [hid] at c2
              have hj0 : (0 : Int) ≤ (j : Int) := by omega
              have hj1 : (j : Int) < (n : Int) := by omega
              have HPj := hide (proc_ok (t := (tn : Int)) (l := l) (r := ⟨n, f⟩) (j := j) (s := s0) (fun j' hj' => HRO2.out j' (by omega)) HMd.out.1)
              have HPs := hide (show proc (tn : Int) ⟨n, f⟩ (j + 1) s0 = (if tm = (tn : Int) then ((proc (tn : Int) ⟨n, f⟩ j s0).1, (proc (tn : Int) ⟨n, f⟩ j s0).2 ++ [id]) else (putR (proc (tn : Int) ⟨n, f⟩ j s0).1 (tn : Int) tm id, (proc (tn : Int) ⟨n, f⟩ j s0).2)) from by
                rw [← htm, ← hid]; rfl)
              have HRj := hide (show tm = (tn : Int) ∨ (slotA (tn : Int) tm).2 = true from by
                have := HRO2.out j hjl
                rw [show (Rw.mk n f).f (j * 2) = tm from htm] at this
                exact this)
              have hdn := (Below.refl wq.heap.size wq).alloc (Nat.le_refl _) (.cells #[.int .i64 tm, .int .i64 id] 40)
              have HWs := hide HTj.out.bel.size
              have HTa := hide (show TkI B g w _ (proc (tn : Int) ⟨n, f⟩ j s0) X3 (.slice a7 D7 c7) from by rw [← HD7.out]; exact HTj.out.down hdn)
              have HAa := hide (show AsideT _ B X3 (.slice (some ⟨b, 0, none⟩) n cj) n f from ⟨owns_below HAj.out.1 hdn, HAj.out.2⟩)
              have hTm := Blk.fresh wq #[.int .i64 tm, .int .i64 id] 2 (p2 (.int .i64 tm) (.int .i64 id)) 40 rfl
              obtain ⟨x0, x1, -, -⟩ := hTm.pair
              clear hVj hOT htm hid HTj HAj hTm
              by_cases he : tm = (tn : Int)
              · have hd : (tm == (tn : Int)) = true := by simp [he]
                have hD60 : D7 ≤ 200 := by have := HPj.out.2; have := HMd.out.2; have := HD7.out; omega
                have HMs := hide (show m' + (proc (tn : Int) ⟨n, f⟩ (j + 1) s0).2.length = wkL (tn : Int) rs d + (j + 1) from by
                  rw [HPs.out, if_pos he]
                  show m' + ((proc (tn : Int) ⟨n, f⟩ j s0).2 ++ [id]).length = _
                  rw [List.length_append]
                  have := HMj.out
                  simp only [List.length_cons, List.length_nil]
                  omega)
                have HAp := hide (show ∀ (w8 w7 : World) (v7 : Value), w8 = (wq.alloc (.cells #[.int .i64 tm, .int .i64 id] 40)).alloc (.cells #[.int .i64 id] 3) → w8.grownBy w7 (Value.slice a7 D7 c7).ownBlock → w7.ownsRow w.heap.size 3 1 v7 (D7 + 1) (pvi (proc (tn : Int) ⟨n, f⟩ j s0).2 ++ [.int .i64 id]) → TkI B g w w7 (proc (tn : Int) ⟨n, f⟩ (j + 1) s0) X3 v7 ∧ AsideT w7 B X3 (.slice (some ⟨b, 0, none⟩) n cj) n f from fun w8 w7 v7 e8 hg7 ho7 => by
                  subst e8
                  have hd2 := (Below.refl (wq.alloc (.cells #[.int .i64 tm, .int .i64 id] 40)).heap.size (wq.alloc (.cells #[.int .i64 tm, .int .i64 id] 40))).alloc (Nat.le_refl _) (.cells #[.int .i64 id] 3)
                  have h1 := HTa.out.down hd2
                  rw [HPs.out, if_pos he]
                  exact ⟨h1.app hg7 (by rw [HD7.out]; exact ho7), aside_int ⟨owns_below HAa.out.1 hd2, HAa.out.2⟩ h1.due hg7⟩)
                have HOw := hide (show ((wq.alloc (.cells #[.int .i64 tm, .int .i64 id] 40)).alloc (.cells #[.int .i64 id] 3)).ownsRow w.heap.size 3 1 (.slice a7 D7 c7) D7 (pvi (proc (tn : Int) ⟨n, f⟩ j s0).2) from by
                  have hd2 := (Below.refl (wq.alloc (.cells #[.int .i64 tm, .int .i64 id] 40)).heap.size (wq.alloc (.cells #[.int .i64 tm, .int .i64 id] 40))).alloc (Nat.le_refl _) (.cells #[.int .i64 id] 3)
                  have h1 := (HTa.out.down hd2).due
                  rw [HD7.out] at h1
                  exact h1)
                have hws : w.heap.size ≤ wq.heap.size := HWs.out
                clear he HWs HMj HPs HPj HRj hdn HTa HAa HMd HLv HS1 HRO2 HI0 HA0 HM0 HD0 HDn HS HG
                go_wp2_with (at_builtin; refine wpList_append_own _ rfl _ _ 45 rfl w.heap.size 3 i0 _ 1 8 Try.underlying45 hi hz0 hz1 hz2 rfl (by decide) _ D7 _ rfl HOw.out ⟨wq.heap.size + 1, 0, none⟩ 1 1 [.int .i64 id] rfl rfl (news1' _ _ _ (by simp)) (by intro u hu; simp at hu; subst hu; rfl) (by unfold maxLen; omega) (by omega) (by simp; omega) ?_)
                intro v7 w7 hown7 hgrow7 _
                obtain ⟨a8, c8, rfl⟩ := own_form hown7
                obtain ⟨hT7, hA7⟩ := HAp.out _ w7 _ rfl hgrow7 hown7
                have HT7 := hide hT7
                have HA7 := hide hA7
                clear hown7 hgrow7 HAp HOw hT7 hA7 x0 x1 c1 c2
                go_wp2
                exact ⟨⟨j + 1, m', X3, by omega, by go_num, rfl, HMs, by omega, HT7, HA7⟩, by simp [intOf]; omega⟩
              · have hd : (tm == (tn : Int)) = false := by simp [he]
                have hsl := HRj.out.resolve_left he
                have HMs := hide (show m' + 1 + (proc (tn : Int) ⟨n, f⟩ (j + 1) s0).2.length = wkL (tn : Int) rs d + (j + 1) from by
                  rw [HPs.out, if_neg he]
                  show m' + 1 + (proc (tn : Int) ⟨n, f⟩ j s0).2.length = _
                  have := HMj.out
                  omega)
                have HSh := hide (show Short 24 (proc (tn : Int) ⟨n, f⟩ j s0).1 from tot_short (by have := HPj.out.2; have := HMd.out.2; omega))
                have HPu := hide (turn_put2 B g (proc (tn : Int) ⟨n, f⟩ j s0).1 X3 (tn : Int) tm id _ HTa.out.tw HSh.out HTa.out.sz)
                rw [hsl] at HPu
                have HNe := hide he
                clear he
                go_wp2_with fail
                refine HPu.out.mono ?_
                rintro e w7 ⟨⟨rfl, X7, ht7, hk7⟩, hb7⟩
                have HT7 := hide (show TkI B g w w7 (proc (tn : Int) ⟨n, f⟩ (j + 1) s0) X7 (.slice a7 D7 c7) from by
                  rw [HPs.out, if_neg HNe.out]; exact HTa.out.put ht7 hk7 hb7)
                have HA7 := hide (hk7.1 _ _ _ HAa.out)
                clear HMj HPs HPj HRj hdn HTa HAa HMd HLv HS1 HRO2 HI0 HA0 HM0 HD0 HDn HS HG HPu ht7 hk7 hb7 x0 x1 c1 c2 HSh
                go_wp2
                exact ⟨⟨j + 1, m' + 1, X7, by omega, by go_num, by go_num, HMs, by omega, HT7, HA7⟩, by simp [intOf]; omega⟩
            · obtain rfl : j = n := by omega
              have HTe := hide (show TkI B g w wq (stL (tn : Int) rs (d + 1)) X3 (.slice a7 D7 c7) from by
                rw [HS1.out.1, HLv.out.1, ← HD7.out]; exact HTj.out)
              have HMe := hide (show m' + (stL (tn : Int) rs (d + 1)).2.length = wkL (tn : Int) rs (d + 1) from by
                rw [HS1.out.1, HS1.out.2, HLv.out.1, HLv.out.2]; exact HMj.out)
              clear HTj HAj HMj HD7 HLv HS1
              go_wp2
              exact ⟨⟨d + 1, m', X3, by omega, by first | (congr 1; done) | (congr 1; omega), rfl, HMe, by omega, HTe⟩, by simp [intOf]; omega⟩
      · have hne : ((r : Int) != 0) = true := by simp; omega
        have hzt : ¬ (tn : Int) % pw l = 0 := by
          rw [hu, show (tn : Int) % (u : Int) = ((tn % u : Nat) : Int) from rfl, hr]; omega
        have HT2 := hide (show TkI B g w wo (stL (tn : Int) rs (d + 1)) X1 (.slice a6 D c6) from by
          rw [HS1.out.1]; unfold lev; rw [if_neg hzt, ← HDn.out]; exact HT.out)
        have HM2 := hide (show m + (stL (tn : Int) rs (d + 1)).2.length = wkL (tn : Int) rs (d + 1) from by
          rw [HS1.out.1, HS1.out.2]; unfold lev wk; rw [if_neg hzt, if_neg hzt]; exact HM.out)
        clear HT HM HS1 hzt hz hr HDn hu
        go_wp2_with fail
        refine (HU.out _).mono ?_
        rintro e w1 ⟨rfl, rfl⟩
        go_wp2
        exact ⟨⟨d + 1, m, X1, by omega, by first | (congr 1; done) | (congr 1; omega), rfl, HM2, by omega, HT2⟩, by simp [intOf]; omega⟩
    · obtain rfl : d = 3 := by omega
      have hDl : (stL t rs 3).2.length ≤ 100000 := by have := (HS.out 3 (by omega)).2; omega
      have HD := hide HT.out.due
      rw [HDn.out] at HD
      have hneg : ¬ ((2 : Int) - ((3 : Nat) : Int) ≥ 0) := by omega
      have HSo := hide (sort_row w.heap.size (.slice a6 D c6) (stL t rs 3).2 wo (by rw [HDn.out]; exact HD.out) hDl)
      rw [HDn.out] at HSo
      have HTD := hide (show TkI B g w wo (stL t rs 3) X1 (.slice a6 D c6) from by rw [← HDn.out]; exact HT.out)
      clear HT HD HT0
      go_wp2_with fail
      refine HSo.out.mono ?_
      rintro e w1 ⟨⟨rfl, hs1⟩, hg1⟩
      have HF := hide (show TkI B g w w1 ((tickR t rs).1, srt (tickR t rs).2) X1 (.slice a6 D c6) from by
        have h := HTD.out
        have hd := h.due
        rw [HDn.out] at hd
        rw [stL_three] at h hd hs1
        refine ⟨tw_int h.tw hd hg1, ?_, h.kp.grow hd hg1, below_grow2 h.bel h.hB hd hg1, h.hB⟩
        show w1.ownsRow _ _ _ _ (srt (tickR t rs).2).length (pvi (srt (tickR t rs).2))
        rw [srt_len, ← stL_three, HDn.out]
        exact hs1)
      have HM3 := hide (show m + (tickR t rs).2.length = tickW t rs from by rw [← stL_three, ← wkL_three]; exact HM.out)
      clear hs1 hg1 HTD HSo HM HS
      go_wp2
      go_ret2
      exact ⟨_, X1, m, rfl, HM3.out, HF.out⟩
end Go.Proofs.Ytcodllammndciaa

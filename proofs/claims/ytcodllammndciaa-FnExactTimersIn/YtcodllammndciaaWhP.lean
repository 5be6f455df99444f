/-
  A timer is put into its slot of a turning wheel, and rows that lie aside stay.
-/
import Derived.Test.YtcodllammndciaaWhK
namespace Go.Proofs.Ytcodllammndciaa
open Go.RowKit M
open Clk (upd upd_same upd_other)
open Go.Sort (grow)
namespace M
theorem own_block {w : World} {B e s n : Nat} {v : Value} {xs : List Value} (h : w.ownsRow B e s v n xs) {q : Nat} (hq : v.ownBlock = some q) : ∃ cur, w.heap[q]? = some (.cells cur e (0, 0)) := by
  rcases h.2 with ⟨rfl, _⟩ | ⟨g, cap, cur, rfl, _, hg, _⟩
  · cases hq
  · simp only [Value.ownBlock, Option.some.injEq] at hq
    subst hq
    exact ⟨cur, hg⟩
theorem owns_type {w : World} {B e s n : Nat} {v : Value} {xs : List Value} {B' e' s' n' : Nat} {v' : Value} {xs' : List Value} (h : w.ownsRow B e s v n xs) (h' : w.ownsRow B' e' s' v' n' xs') (hne : e ≠ e') : ∀ q, v.ownBlock = some q → v'.ownBlock ≠ some q := fun q h1 h2 => by
  obtain ⟨c1, e1⟩ := own_block h h1
  obtain ⟨c2, e2⟩ := own_block h' h2
  rw [e1] at e2
  simp only [Option.some.injEq, Obj.cells.injEq] at e2
  exact hne e2.2.1
/-- A row of timers that is none of a turning wheel's. -/
def AsideT (w : World) (B : Nat) (X : Nat → Value) (u : Value) (n : Nat) (f : Nat → Int) : Prop := w.ownsRow B 40 2 u n (tv n f) ∧ ∀ i, i < 24 → ∀ q, u.ownBlock = some q → (X i).ownBlock ≠ some q
/-- Rows that lie aside, and rows of numbers, stay. -/
def Kp (B : Nat) (w w' : World) (X X' : Nat → Value) : Prop := (∀ u n f, AsideT w B X u n f → AsideT w' B X' u n f) ∧ ∀ B' u n xs, w.ownsRow B' 3 1 u n xs → w'.ownsRow B' 3 1 u n xs
theorem Kp.of_below {B : Nat} {w w' : World} {X : Nat → Value} (hb : Below w.heap.size w w') : Kp B w w' X X := ⟨fun _ _ _ h => ⟨owns_below h.1 hb, h.2⟩, fun _ _ _ _ h => owns_below h hb⟩
theorem Kp.trans {B : Nat} {w w' w'' : World} {X X' X'' : Nat → Value} (h : Kp B w w' X X') (h' : Kp B w' w'' X' X'') : Kp B w w'' X X'' := ⟨fun u n f hu => h'.1 u n f (h.1 u n f hu), fun B' u n xs hu => h'.2 B' u n xs (h.2 B' u n xs hu)⟩
theorem kp_put {w W w7 : World} {B g j : Nat} {rs : Nat → Rw} {X : Nat → Value} (hW : TW W B g rs X) (hj : j < 24) (hg : W.grownBy w7 (X j).ownBlock) (hk : ∀ {B' : Nat} (u : Value) (m : Nat) (xs : List Value) (e s : Nat), w.ownsRow B' e s u m xs → W.ownsRow B' e s u m xs) (hsz : w.heap.size ≤ W.heap.size) {g7 n7 c7 : Nat} (hat : (X j).ownBlock = some g7 ∨ g7 = W.heap.size) :
    Kp B w (w7.setCell ⟨g, j, none⟩ (.slice (some ⟨g7, 0, none⟩) n7 c7)) X (upd X j (.slice (some ⟨g7, 0, none⟩) n7 c7)) := by
  have hb : Blk w7 g 24 X 99 := hW.blk.grown (hW.row j hj) (by decide) hg
  refine ⟨fun u n f hu => ⟨?_, fun i hi q hq => ?_⟩, fun B' u n xs hu => ?_⟩
  · exact owns_set (owns_other (hk _ _ _ _ _ hu.1) hg (fun q hq e => hu.2 j hj q hq e.symm)) hb (by decide) _ _
  · by_cases e : i = j
    · subst e
      rw [upd_same]
      intro h2
      simp only [Value.ownBlock, Option.some.injEq] at h2
      subst h2
      rcases hat with h3 | h3
      · exact hu.2 i hi _ hq h3
      · have := (hu.1.lt _ hq).2; omega
    · rw [upd_other _ _ _ _ e]; exact hu.2 i hi q hq
  · have h1 := hk _ _ _ _ _ hu
    exact owns_set (owns_other h1 hg (fun q hq e => owns_type h1 (hW.row j hj) (by decide) q hq e.symm)) hb (by decide) _ _
end M
set_option maxRecDepth 20000 in
set_option maxHeartbeats 4000000 in
theorem ring_put2 (B g lv m im : Nat) (rs : Nat → Rw) (X : Nat → Value) (tm id : Int) (w : World) (h : TW w B g rs X) (hl : lv < 3) (hm : m ≤ 1000000) (him : m % 8 = im) (hs : (rs (lv * 8 + im)).n ≤ 1048576) (hB : B ≤ w.heap.size) :
    Calls Try.prog 78 #[.pointer (some ⟨g, lv * 8, none⟩), .int .i64 (m : Int), .agg #[.int .i64 tm, .int .i64 id]] w fun e w' => (e = .returned (.tuple #[]) ∧ ∃ X', TW w' B g (upd rs (lv * 8 + im) ((rs (lv * 8 + im)).snoc tm id)) X' ∧ Kp B w w' X X') ∧ Below B w w' := by
  obtain ⟨i0, hi, hz0, hz1, hz2⟩ := info_parts info_timer
  have him8 : im < 8 := by omega
  have hj : lv * 8 + im < 24 := by omega
  have hdn := (Below.refl w.heap.size w).alloc (Nat.le_refl _) (.cells #[.int .i64 tm, .int .i64 id] 40)
  have hTm := Blk.fresh w #[.int .i64 tm, .int .i64 id] 2 (p2 (.int .i64 tm) (.int .i64 id)) 40 rfl
  have hT1 := h.down hdn
  have hdn2 := (Below.refl (w.alloc (.cells #[.int .i64 tm, .int .i64 id] 40)).heap.size (w.alloc (.cells #[.int .i64 tm, .int .i64 id] 40))).alloc (Nat.le_refl _) (.cells #[.int .i64 tm, .int .i64 id] 40)
  have hT2 := hT1.down hdn2
  obtain ⟨a, c, hx⟩ := own_form (h.row _ hj)
  obtain ⟨n, hn⟩ : ∃ n, (rs (lv * 8 + im)).n = n := ⟨_, rfl⟩
  rw [hn] at hx hs
  have hq : (m : Int).tmod 8 = (im : Int) := by rw [Int.tmod_eq_emod_of_nonneg (by omega)]; omega
  have hw1 : IntKind.i64.wrap (im : Int) = (im : Int) := by rw [IntKind.wrap_i64]; omega
  have hi0 : (0 : Int) ≤ (im : Int) := by omega
  have hi8 : (im : Int) < 8 := by omega
  have c0 := hT1.blk.cell hj
  rw [hx] at c0
  obtain ⟨x0, x1, -, -⟩ := hTm.pair
  have c2 := hT2.blk.cell hj
  rw [hx] at c2
  obtain ⟨y0, y1, -, -⟩ := (hTm.down hdn2).pair
  have hO2 := hT2.row _ hj
  rw [hn] at hO2
  have HO2 := hide hO2
  have HX := hide hx
  clear hTm him hO2 hx
  go_enter Try.func78, Try.ntmps78
  have HG := hide (show ∀ W w7 : World, W.grownBy w7 (Value.slice a n c).ownBlock → W.heap = ((w.alloc (.cells #[.int .i64 tm, .int .i64 id] 40)).alloc (.cells #[.int .i64 tm, .int .i64 id] 40)).heap → w7.cell? ⟨g, lv * 8 + im, none⟩ = some (.slice a n c) ∧ w7.frozen? ⟨g, lv * 8 + im, none⟩ = false from fun W w7 hg hh => by
    have hW := hT2.same hh
    have hb : Blk w7 g 24 X 99 := hW.blk.grown (hW.row _ hj) (by decide) (by rw [HX.out]; exact hg)
    exact ⟨by rw [← HX.out]; exact hb.cell hj, hb.thaw _⟩)
  have HF := hide (show ∀ (W w7 : World) (g7 cap7 : Nat), W.grownBy w7 (Value.slice a n c).ownBlock → W.heap = ((w.alloc (.cells #[.int .i64 tm, .int .i64 id] 40)).alloc (.cells #[.int .i64 tm, .int .i64 id] 40)).heap → Below B w W → w7.ownsRow B 40 2 (.slice (some ⟨g7, 0, none⟩) (n + 1) cap7) (n + 1) (tv n (rs (lv * 8 + im)).f ++ [.int .i64 tm, .int .i64 id]) → ((Value.slice a n c).ownBlock = some g7 ∨ g7 = W.heap.size) →
      TW (w7.setCell ⟨g, lv * 8 + im, none⟩ (.slice (some ⟨g7, 0, none⟩) (n + 1) cap7)) B g (upd rs (lv * 8 + im) ((rs (lv * 8 + im)).snoc tm id)) (upd X (lv * 8 + im) (.slice (some ⟨g7, 0, none⟩) (n + 1) cap7)) ∧ Below B w (w7.setCell ⟨g, lv * 8 + im, none⟩ (.slice (some ⟨g7, 0, none⟩) (n + 1) cap7)) ∧ Kp B w (w7.setCell ⟨g, lv * 8 + im, none⟩ (.slice (some ⟨g7, 0, none⟩) (n + 1) cap7)) X (upd X (lv * 8 + im) (.slice (some ⟨g7, 0, none⟩) (n + 1) cap7)) from fun W w7 g7 cap7 hg hh hbW ho hat => by
    have hW := hT2.same hh
    refine ⟨hW.grown hj (by rw [HX.out]; exact hg) ?_ (fun q hq => ?_), ?_, ?_⟩
    · rw [tv_snoc, hn]
      show w7.ownsRow B 40 2 _ ((rs (lv * 8 + im)).n + 1) _
      rw [hn]; exact ho
    · rw [HX.out]
      simp only [Value.ownBlock, Option.some.injEq] at hq
      subst hq
      exact hat
    · exact (hbW.grown hg (Nat.le_trans hB hbW.size) (fun q hq => by rw [← HX.out] at hq; exact ((hW.row _ hj).lt q hq).1)).setCell h.ge _
    · refine kp_put hW hj (by rw [HX.out]; exact hg) (fun u m xs e s hu => owns_same (owns_below (owns_below hu hdn) hdn2) hh) ?_ (by rw [HX.out]; exact hat)
      rw [hh]
      exact Nat.le_trans hdn.size hdn2.size)
  go_wp2_with fail
  go_region_law (refine step_append_lies _ rfl (.tmp 15) (.tmp 17) 52 rfl B 40 i0 _ 2 16 Try.underlying52 hi hz0 hz1 hz2 rfl (by decide) (.slice a n c) n _ (by simp [Act.eval]) (by rw [← HX.out]; exact owns_same HO2.out rfl) ⟨w.heap.size + 1, 0, none⟩ 1 1 [.int .i64 tm, .int .i64 id] (by simp [Act.eval]) rfl (news2 _ _ _ _ _ (by simp)) (by intro u hu; simp at hu; rcases hu with rfl | rfl <;> rfl) (by omega) (by unfold maxLen; omega) (by omega) (by simp; omega) _ rfl ?_; intro g7 cap7 w7 hown7 hgrow7 hat hlt7; obtain ⟨z0, z1⟩ := HG.out _ w7 hgrow7 rfl)
  all_goals
    have HE := hide (HF.out _ w7 g7 cap7 hgrow7 rfl ((hdn.mono hB).alloc (by simp; omega) _).drew hown7 hat)
    clear HF HG hgrow7 hown7 hat z0 z1 HO2 HX hT1 hT2 h
    go_wp2
    go_end0
    exact ⟨⟨rfl, _, HE.out.1, HE.out.2.2⟩, HE.out.2.1⟩
set_option maxRecDepth 20000 in
set_option maxHeartbeats 4000000 in
theorem turn_put2 (B g : Nat) (rs : Nat → Rw) (X : Nat → Value) (now tm id : Int) (w : World) (h : TW w B g rs X) (hs : Short 24 rs) (hB : B ≤ w.heap.size) :
    Calls Try.prog 59 #[.pointer (some ⟨g, 0, none⟩), .int .i64 now, .agg #[.int .i64 tm, .int .i64 id]] w fun e w' => (e = .returned (.bool (slotA now tm).2) ∧ ∃ X', TW w' B g (putR rs now tm id) X' ∧ Kp B w w' X X') ∧ Below B w w' := by
  have hdn := (Below.refl w.heap.size w).alloc (Nat.le_refl _) (.cells #[.int .i64 tm, .int .i64 id] 40)
  have hTm := Blk.fresh w #[.int .i64 tm, .int .i64 id] 2 (p2 (.int .i64 tm) (.int .i64 id)) 40 rfl
  have HT := hide (h.down hdn)
  have HTm := hide hTm
  have HSl := hide (show ∀ W, _ from fun W => impl_slot now tm W)
  have hdB := hdn.mono hB
  have hgl := h.blk.lt
  cases hf : (slotA now tm).2 with
  | true =>
    obtain ⟨k, hk⟩ := Int.eq_ofNat_of_zero_le (slotA_range hf).1
    have hk24 : k < 24 := by have := (slotA_range hf).2; omega
    have HP := hide (show putR rs now tm id = upd rs (k / 8 * 8 + k % 8) ((rs (k / 8 * 8 + k % 8)).snoc tm id) by
      unfold putR; rw [if_pos hf, hk, show k / 8 * 8 + k % 8 = k by omega]; rfl)
    have HSk := hide (hs.2 (k / 8 * 8 + k % 8) (by omega))
    rw [hf, hk] at HSl
    obtain ⟨lv, hlv⟩ : ∃ l, k / 8 = l := ⟨_, rfl⟩
    obtain ⟨im, him⟩ : ∃ l, k % 8 = l := ⟨_, rfl⟩
    have hq : (k : Int).tdiv 8 = (lv : Int) := by rw [Int.tdiv_eq_ediv_of_nonneg (by omega)]; omega
    have hm : (k : Int).tmod 8 = (im : Int) := by rw [Int.tmod_eq_emod_of_nonneg (by omega)]; omega
    have hlv0 : (0 : Int) ≤ (lv : Int) := by omega
    have hlv3 : (lv : Int) < 3 := by omega
    have hw1 : IntKind.i64.wrap (lv : Int) = (lv : Int) := by rw [IntKind.wrap_i64]; omega
    have hw2 : IntKind.i64.wrap (im : Int) = (im : Int) := by rw [IntKind.wrap_i64]; omega
    have hnl : lv < 3 := by omega
    have hni : im < 8 := by omega
    rw [hlv, him] at HP HSk
    obtain ⟨x0, x1, -, -⟩ := hTm.pair
    clear hTm h hs hf hk hlv him
    go_enter Try.func59, Try.ntmps59
    go_wp2_with fail
    refine (HSl.out _).mono ?_
    rintro e w2 ⟨rfl, m, rfl⟩
    have hb2 := below_drewN hdB m
    have HT2 := hide (HT.out.down (below_drewN (Below.refl _ _) m))
    obtain ⟨y0, y1, -, -⟩ := (HTm.out.down (below_drewN (Below.refl _ _) m)).pair
    clear x0 x1
    go_wp2_with fail
    have HRp := hide (show ∀ W : World, W.heap = (w.alloc (.cells #[.int .i64 tm, .int .i64 id] 40)).heap → _ from fun W hh => ring_put2 B g lv im im rs X tm id W (HT.out.same hh) hnl (by omega) (by omega) HSk.out (by rw [hh]; exact Nat.le_trans hB hdn.size))
    go_region_with (go_at_call 78; refine (HRp.out ((w.alloc (.cells #[.int .i64 tm, .int .i64 id] 40)).drewN (m + 1)) rfl).mono ?_; rintro e wj ⟨⟨rfl, Xj, hTj, hKj⟩, hbj⟩)
    all_goals
      have hbf := (below_drewN hdB (m + 1)).trans hbj
      have HTj := hide hTj
      have HKj := hide ((Kp.of_below (below_drewN hdn (m + 1))).trans hKj)
      clear hTj hKj hbj HT2 HT HTm HSl hb2 y0 y1 HRp
      go_wp2
      go_ret
      exact ⟨⟨rfl, Xj, by rw [HP.out]; exact HTj.out, HKj.out⟩, hbf⟩
  | false =>
    have HP := hide (show putR rs now tm id = rs by unfold putR; rw [hf]; rfl)
    rw [hf] at HSl
    obtain ⟨x0, x1, -, -⟩ := hTm.pair
    clear hTm h hs hf
    go_enter Try.func59, Try.ntmps59
    go_wp2_with fail
    refine (HSl.out _).mono ?_
    rintro e w2 ⟨rfl, m, rfl⟩
    have hb2 := below_drewN hdB m
    have HT2 := hide (HT.out.down (below_drewN (Below.refl _ _) m))
    go_wp2
    go_ret
    exact ⟨⟨rfl, X, by rw [HP.out]; exact HT2.out, Kp.of_below (below_drewN hdn m)⟩, hb2⟩
end Go.Proofs.Ytcodllammndciaa

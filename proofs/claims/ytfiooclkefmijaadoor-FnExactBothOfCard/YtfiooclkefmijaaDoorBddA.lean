/-
  The law's marks on diagrams that a call owns; copies of what came in.
-/
import Derived.Test.YtfiooclkefmijaaDoorBddJ
namespace Go.Proofs.YtfiooclkefmijaaDoor
open Go.RowKit M
open Clk (upd upd_same upd_other)
open Go.Sort (grow)
namespace M
open Bdd
/-- Only block g may have turned. -/
structure Only (g : Nat) (w w' : World) : Prop where
  os : w'.os = w.os
  tape : w'.tape = w.tape
  output : w'.output = w.output
  size : w'.heap.size = w.heap.size
  block : ∀ k, k ≠ g → w'.heap[k]? = w.heap[k]?
theorem Only.refl (g : Nat) (w : World) : Only g w w := ⟨rfl, rfl, rfl, rfl, fun _ _ => rfl⟩
theorem Only.set {g : Nat} {w w' : World} (h : Only g w w') (i : Nat) (v : Value) : Only g w (w'.setCell ⟨g, i, none⟩ v) :=
  have hb := (Below.refl g w').setCell (p := ⟨g, i, none⟩) (Nat.le_refl _) v
  ⟨hb.os.trans h.os, hb.tape.trans h.tape, hb.output.trans h.output, by rw [World.size_setCell]; exact h.size, fun k hk => by rw [Below.heap_setCell _ _ _ _ hk]; exact h.block k hk⟩
theorem Only.below {g B : Nat} {w w' : World} (h : Only g w w') (hB : B ≤ g) : Below B w w' :=
  ⟨h.os, h.tape, h.output, by rw [h.size]; exact Nat.le_refl _, fun k hk => h.block k (by omega)⟩
/-- Marks on the first k places. -/
def mkd (k0 k : Nat) (h : Nat → Value) : Nat → Value := fun i => if i < k then .int .i64 ((k0 + i : Nat) : Int) else h i
theorem mkd_zero (k0 : Nat) (h : Nat → Value) : mkd k0 0 h = h := by funext i; simp [mkd]
theorem mkd_succ (k0 k : Nat) (h : Nat → Value) : upd (mkd k0 k h) k (.int .i64 ((k0 + k : Nat) : Int)) = mkd k0 (k + 1) h := by
  funext i
  unfold upd mkd
  by_cases hi : i = k
  · subst hi; simp
  · rw [if_neg hi]
    by_cases h2 : i < k
    · rw [if_pos h2, if_pos (by omega)]
    · rw [if_neg h2, if_neg (by omega)]
theorem mkd_3 (k0 k : Nat) (h : Nat → Value) : upd (upd (upd (mkd k0 (k * 3) h) (k * 3) (.int .i64 ((k0 + k * 3 : Nat) : Int))) (k * 3 + 1) (.int .i64 ((k0 + (k * 3 + 1) : Nat) : Int))) (k * 3 + 2) (.int .i64 ((k0 + (k * 3 + 2) : Nat) : Int)) = mkd k0 ((k + 1) * 3) h := by
  rw [mkd_succ, mkd_succ, mkd_succ, show k * 3 + 1 + 1 + 1 = (k + 1) * 3 by omega]
/-- A row of choices that is marked from k0 on. -/
def Mrk (w : World) (B : Nat) (v : Value) (n k0 : Nat) : Prop :=
  (v = .slice none 0 0 ∧ n = 0) ∨ ∃ g cap m h, v = .slice (some ⟨g, 0, none⟩) n cap ∧ B ≤ g ∧ Blk w g m h 66 ∧ n * 3 ≤ m ∧ ∀ i, i < n * 3 → h i = .int .i64 ((k0 + i : Nat) : Int)
theorem Mrk.down {w w' : World} {B : Nat} {v : Value} {n k0 : Nat} (h : Mrk w B v n k0) (hb : Below w.heap.size w w') : Mrk w' B v n k0 := by
  rcases h with h | ⟨g, cap, m, h', hv, hB, hk, r⟩
  · exact .inl h
  · exact .inr ⟨g, cap, m, h', hv, hB, hk.down hb, r⟩
theorem own_blk {w : World} {B : Nat} {v : Value} {l : List Ch} (h : AnsD w B v l) : (v = .slice none 0 0 ∧ l.length = 0) ∨ ∃ g cap m f, v = .slice (some ⟨g, 0, none⟩) l.length cap ∧ B ≤ g ∧ Blk w g m f 66 ∧ l.length * 3 ≤ m ∧ ∀ i, i < l.length * 3 → (fl3 l)[i]? = some (f i) := by
  rcases h.2 with h0 | ⟨g, cap, cur, hv, hB, hg, hn, hc, hs, ht⟩
  · exact .inl h0
  · refine .inr ⟨g, cap, cur.size, fun i => cur.getD i undef, hv, hB, ?_, by omega, fun i hi => ?_⟩
    · unfold Blk
      rw [hg]
      congr 2
      apply Array.ext_getElem?
      intro j
      by_cases hj : j < cur.size
      · rw [cf_get _ hj]
        simp [Array.getD, hj]
      · rw [Array.getElem?_eq_none (by omega), Array.getElem?_eq_none (by rw [cf_size]; omega)]
    · have hic : i < cur.size := by omega
      rw [← ht, List.getElem?_take_of_lt hi, Array.getElem?_toList]
      simp [Array.getD, hic]
theorem fl3_int : ∀ (l : List Ch) (i : Nat), i < l.length * 3 → ∃ x, (fl3 l)[i]? = some (.int .i64 x)
  | [], i, h => by simp at h
  | d :: r, 0, _ => ⟨_, rfl⟩
  | d :: r, 1, _ => ⟨_, rfl⟩
  | d :: r, 2, _ => ⟨_, rfl⟩
  | d :: r, i + 3, h => fl3_int r i (by simp only [List.length_cons] at h; omega)
end M
set_option maxHeartbeats 1000000 in
theorem mark_own (g n m cap k0 : Nat) (h : Nat → Value) (w : World) (hg : Blk w g m h 66) (hv : ∀ i, i < n * 3 → ∃ x, h i = .int .i64 x) (hnm : n * 3 ≤ m) (hn : n ≤ 1048576) (hk0 : k0 ≤ 1000000000) :
    Calls Tryd.prog 40 #[.slice (some ⟨g, 0, none⟩) n cap, .int .i64 (k0 : Nat)] w fun e w' => e = .returned (.int .i64 ((k0 + n * 3 : Nat) : Int)) ∧ Blk w' g m (mkd k0 (n * 3) h) 66 ∧ Only g w w' := by
  have HG := hide hg
  have HV := hide hv
  clear hg hv
  go_enter Tryd.func40, Tryd.ntmps40
  go_wp2
  go_loopw [1, 5] (fun x i wr => ∃ k : Nat, k ≤ n ∧ i = .int .i64 k ∧ x = .int .i64 ((k0 + k * 3 : Nat) : Int) ∧ Hid (Blk wr g m (mkd k0 (k * 3) h) 66) ∧ Only g w wr) (fun _ i _ => n - (intOf i).toNat)
  case atStart => exact ⟨0, Nat.zero_le _, rfl, rfl, hide (by rw [Nat.zero_mul, mkd_zero]; exact HG.out), Only.refl _ _⟩
  case round =>
    obtain ⟨k, hk, rfl, rfl, HA, hbw⟩ := hrel
    by_cases hlt : k < n
    · have d0 := HA.out.cell (show k * 3 < m by omega)
      have d1 := HA.out.cell (show k * 3 + 1 < m by omega)
      have d2 := HA.out.cell (show k * 3 + 2 < m by omega)
      have f0 := HA.out.thaw (k * 3)
      have f1 := HA.out.thaw (k * 3 + 1)
      have f2 := HA.out.thaw (k * 3 + 2)
      have hA2 := ((HA.out.set (k * 3) (.int .i64 ((k0 + k * 3 : Nat) : Int))).set (k * 3 + 1) (.int .i64 ((k0 + (k * 3 + 1) : Nat) : Int))).set (k * 3 + 2) (.int .i64 ((k0 + (k * 3 + 2) : Nat) : Int))
      rw [mkd_3] at hA2
      have hbw2 := ((hbw.set (k * 3) (.int .i64 ((k0 + k * 3 : Nat) : Int))).set (k * 3 + 1) (.int .i64 ((k0 + (k * 3 + 1) : Nat) : Int))).set (k * 3 + 2) (.int .i64 ((k0 + (k * 3 + 2) : Nat) : Int))
      have e1 : ((k0 + (k * 3 + 1) : Nat) : Int) = ((k0 + k * 3 : Nat) : Int) + 1 := by omega
      have e2 : ((k0 + (k * 3 + 2) : Nat) : Int) = ((k0 + k * 3 : Nat) : Int) + 1 + 1 := by omega
      rw [e1, e2] at hA2 hbw2
      obtain ⟨q, hq⟩ : ∃ q : Nat, k0 + k * 3 = q := ⟨_, rfl⟩
      rw [hq] at hA2 hbw2 ⊢
      have hqb : (q : Int) ≤ 2000000000 := by omega
      have HQ := hide hq
      have HA2 := hide hA2
      have HB2 := hide hbw2
      clear HA HG HV hbw hq e1 e2 hA2 hbw2
      go_wp2
      exact ⟨⟨k + 1, by omega, by go_num, by have := HQ.out; simp; omega, HA2, HB2.out⟩, by simp [intOf]; omega⟩
    · obtain rfl : k = n := by omega
      clear HG HV
      go_wp2
      go_ret
      exact ⟨rfl, HA.out, hbw⟩
theorem mark_nil (k0 : Int) (w : World) :
    Calls Tryd.prog 40 #[.slice none 0 0, .int .i64 k0] w fun e w' => e = .returned (.int .i64 k0) ∧ w' = w := by
  go_enter Tryd.func40, Tryd.ntmps40
  go_wp2
  refine wp_loop_rounds 1 ?_; rw [rounds_succ]
  go_wp2
  go_ret
  exact ⟨rfl, rfl⟩
theorem mark_choices (B k0 : Nat) (v : Value) (l : List Bdd.Ch) (w : World) (h : AnsD w B v l) (hn : l.length ≤ 1048576) (hk0 : k0 ≤ 1000000000) :
    Calls Tryd.prog 40 #[v, .int .i64 (k0 : Nat)] w fun e w' => e = .returned (.int .i64 ((k0 + l.length * 3 : Nat) : Int)) ∧ Mrk w' B v l.length k0 ∧ Below B w w' ∧ w'.heap.size = w.heap.size ∧ ∀ k, v.ownBlock ≠ some k → w'.heap[k]? = w.heap[k]? := by
  rcases own_blk h with ⟨rfl, h0⟩ | ⟨g, cap, m, f, rfl, hB, hb, hm, hf⟩
  · rw [h0]
    refine (mark_nil (k0 : Nat) w).mono ?_
    rintro e w' ⟨rfl, rfl⟩
    exact ⟨by simp, .inl ⟨rfl, rfl⟩, Below.refl _ _, rfl, fun _ _ => rfl⟩
  · refine (mark_own g l.length m cap k0 f w hb (fun i hi => ?_) hm hn hk0).mono ?_
    · obtain ⟨x, hx⟩ := fl3_int l i hi
      have := hf i hi
      rw [hx] at this
      injection this with this
      exact ⟨x, this.symm⟩
    · rintro e w' ⟨rfl, hb', ho⟩
      exact ⟨rfl, .inr ⟨g, cap, m, _, rfl, hB, hb', hm, fun i hi => by unfold mkd; rw [if_pos hi]⟩, ho.below hB, ho.size, fun k hk => ho.block k (fun e => hk (by rw [e]; rfl))⟩
theorem mark_diagram (B k0 : Nat) (v : Value) (r : Int) (l : List Bdd.Ch) (w : World) (h : AnsD w B v l) (hn : l.length ≤ 1048576) (hk0 : k0 ≤ 1000000000) (hB : B ≤ w.heap.size) :
    Calls Tryd.prog 19 #[dgV v r, .int .i64 (k0 : Nat)] w fun e w' => e = .returned (.int .i64 ((k0 + l.length * 3 : Nat) : Int)) ∧ Mrk w' B v l.length k0 ∧ Below B w w' ∧ ∀ k, k < w.heap.size → v.ownBlock ≠ some k → w'.heap[k]? = w.heap[k]? := by
  have HH := hide h
  obtain ⟨a, cap, rfl⟩ := h.form
  have hd := (Below.refl w.heap.size w).alloc (Nat.le_refl _) (.cells #[.slice a l.length cap, .int .i64 r] 27)
  have HD := hide hd
  have HB := hide hB
  obtain ⟨q, hq⟩ : ∃ q : Nat, k0 + l.length * 3 = q := ⟨_, rfl⟩
  have HQ := hide hq
  clear h hd hB
  go_enter Tryd.func19, Tryd.ntmps19
  go_wp2_with fail
  refine (mark_choices B k0 _ l _ (HH.out.down HD.out) hn hk0).mono ?_
  rintro e w1 ⟨rfl, hm, hb, -, hk⟩
  have HE := hide (And.intro hm (And.intro ((HD.out.mono HB.out).trans hb) (fun k (hlt : k < w.heap.size) (hne : Value.ownBlock (.slice a l.length cap) ≠ some k) => (hk k hne).trans (HD.out.block k hlt))))
  rw [HQ.out]
  clear hm hb hk HH HD HB hq
  go_wp2
  go_ret
  exact ⟨by rw [HQ.out]; rfl, HE.out⟩
set_option maxHeartbeats 1000000 in
theorem held_choices (B k0 n : Nat) (v : Value) (w : World) (h : Mrk w B v n k0) (hn : n ≤ 1048576) (hk0 : k0 ≤ 1000000000) :
    Calls Tryd.prog 41 #[v, .int .i64 (k0 : Nat)] w fun e w' => e = .returned (.int .i64 ((k0 + n * 3 : Nat) : Int)) ∧ w' = w := by
  have hrow : ∃ a cap, v = .slice a n cap ∧ (0 < n → ∃ g, a = some ⟨g, 0, none⟩ ∧ ∀ i, i < n * 3 → w.cell? ⟨g, i, none⟩ = some (.int .i64 ((k0 + i : Nat) : Int))) := by
    rcases h with ⟨rfl, rfl⟩ | ⟨g, cap, m, f, rfl, _, hb, hm, hf⟩
    · exact ⟨_, _, rfl, fun h => absurd h (by omega)⟩
    · exact ⟨_, _, rfl, fun _ => ⟨g, rfl, fun i hi => by rw [hb.cell (by omega), hf i hi]⟩⟩
  obtain ⟨a, cap, rfl, hr⟩ := hrow
  have HR := hide hr
  clear hr h
  go_enter Tryd.func41, Tryd.ntmps41
  go_wp2
  go_loop [1, 5] (fun x i => ∃ k : Nat, k ≤ n ∧ i = .int .i64 k ∧ x = .int .i64 ((k0 + k * 3 : Nat) : Int)) (fun _ i => n - (intOf i).toNat)
  case atStart => exact ⟨0, Nat.zero_le _, rfl, rfl⟩
  case round =>
    obtain ⟨k, hk, rfl, rfl⟩ := hrel
    by_cases hlt : k < n
    · obtain ⟨g, rfl, hc⟩ := HR.out (by omega)
      have c0 := hc (k * 3) (by omega)
      have c1 := hc (k * 3 + 1) (by omega)
      have c2 := hc (k * 3 + 2) (by omega)
      have e1 : ((k0 + (k * 3 + 1) : Nat) : Int) = ((k0 + k * 3 : Nat) : Int) + 1 := by omega
      have e2 : ((k0 + (k * 3 + 2) : Nat) : Int) = ((k0 + k * 3 : Nat) : Int) + 1 + 1 := by omega
      rw [e1] at c1
      rw [e2] at c2
      obtain ⟨q, hq⟩ : ∃ q : Nat, k0 + k * 3 = q := ⟨_, rfl⟩
      rw [hq] at c0 c1 c2 ⊢
      have hqb : (q : Int) ≤ 2000000000 := by omega
      have n0 : ((q : Int) != (q : Int)) = false := by simp
      have n1 : ((q : Int) + 1 != (q : Int) + 1) = false := by simp
      have n2 : ((q : Int) + 1 + 1 != (q : Int) + 1 + 1) = false := by simp
      have HQ := hide hq
      clear HR hc hq e1 e2
      go_wp2
      go_round
      case rel => exact ⟨k + 1, by omega, by go_num, by have := HQ.out; simp; omega⟩
      case measure => simp [intOf]; omega
    · obtain rfl : k = n := by omega
      clear HR
      go_wp2
      go_ret
      exact ⟨rfl, rfl⟩
theorem held_diagram (B k0 n : Nat) (v : Value) (r : Int) (w : World) (h : Mrk w B v n k0) (hn : n ≤ 1048576) (hk0 : k0 ≤ 1000000000) :
    Calls Tryd.prog 20 #[dgV v r, .int .i64 (k0 : Nat)] w fun e w' => e = .returned (.int .i64 ((k0 + n * 3 : Nat) : Int)) ∧ Below w.heap.size w w' := by
  have HH := hide h
  have hrow : ∃ a cap, v = .slice a n cap := by
    rcases h with ⟨rfl, rfl⟩ | ⟨g, cap, m, f, rfl, _⟩
    · exact ⟨_, _, rfl⟩
    · exact ⟨_, _, rfl⟩
  obtain ⟨a, cap, rfl⟩ := hrow
  have hd := (Below.refl w.heap.size w).alloc (Nat.le_refl _) (.cells #[.slice a n cap, .int .i64 r] 27)
  have HD := hide hd
  obtain ⟨q, hq⟩ : ∃ q : Nat, k0 + n * 3 = q := ⟨_, rfl⟩
  have hq0 : ¬ ((q : Int) < 0) := by omega
  have HQ := hide hq
  clear h hd hq
  go_enter Tryd.func20, Tryd.ntmps20
  go_wp2_with fail
  refine (held_choices B k0 n _ _ (HH.out.down HD.out) hn hk0).mono ?_
  rintro e w1 ⟨rfl, rfl⟩
  rw [HQ.out]
  clear HH
  go_wp2
  go_ret
  exact ⟨by rw [HQ.out]; rfl, HD.out⟩
theorem sz_choices (a : Option Addr) (n cap : Nat) (x : Nat) (w : World) (hm : n ≤ maxLen) (hx : x ≤ 1048576) :
    Calls Tryd.prog 42 #[.slice a n cap, .int .i64 (x : Int)] w fun e w' => e = .returned (.int .i64 (if n ≤ x then ((x - n : Nat) : Int) else -1)) ∧ w' = w := by
  unfold maxLen at hm
  by_cases h : n ≤ x
  · have hge : ¬ ((x : Int) - (n : Int) < 0) := by omega
    have HE := hide (show ((x - n : Nat) : Int) = (x : Int) - (n : Int) from by omega)
    rw [if_pos h]
    clear h
    go_enter Tryd.func42, Tryd.ntmps42
    go_wp2
    go_ret
    exact ⟨by rw [HE.out]; rfl, rfl⟩
  · have hge : ((x : Int) - (n : Int) < 0) := by omega
    rw [if_neg h]
    clear h
    go_enter Tryd.func42, Tryd.ntmps42
    go_wp2
    go_ret
    exact ⟨rfl, rfl⟩
theorem sz_diagram (a : Option Addr) (n cap : Nat) (r : Int) (x : Nat) (w : World) (hm : n ≤ maxLen) (hx : x ≤ 1048576) :
    Calls Tryd.prog 21 #[dgV (.slice a n cap) r, .int .i64 (x : Int)] w fun e w' => e = .returned (.int .i64 (if n ≤ x then ((x - n : Nat) : Int) else -1)) ∧ Below w.heap.size w w' := by
  have hd := (Below.refl w.heap.size w).alloc (Nat.le_refl _) (.cells #[.slice a n cap, .int .i64 r] 34)
  have HD := hide hd
  have HM := hide hm
  have HS := hide (sz_choices a n cap x (w.alloc (.cells #[.slice a n cap, .int .i64 r] 34)) hm hx)
  clear hd hm
  by_cases h : n ≤ x
  · rw [if_pos h] at HS ⊢
    obtain ⟨q, hq⟩ : ∃ q : Nat, x - n = q := ⟨_, rfl⟩
    rw [hq] at HS ⊢
    have hq0 : ¬ ((q : Int) < 0) := by omega
    clear hq h
    go_enter Tryd.func21, Tryd.ntmps21
    go_wp2_with (refine HS.out.mono ?_; rintro e w1 ⟨rfl, rfl⟩)
    go_ret
    exact ⟨rfl, HD.out⟩
  · rw [if_neg h] at HS ⊢
    clear h
    go_enter Tryd.func21, Tryd.ntmps21
    go_wp2_with (refine HS.out.mono ?_; rintro e w1 ⟨rfl, rfl⟩)
    go_ret
    exact ⟨rfl, HD.out⟩
end Go.Proofs.YtfiooclkefmijaaDoor

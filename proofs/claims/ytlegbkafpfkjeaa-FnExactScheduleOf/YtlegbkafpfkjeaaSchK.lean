/-
  An answer of slots that owns its memory; the law's marks on it; ScheduleOf where there is no good plan or no good number of workers.
-/
import Derived.Test.YtlegbkafpfkjeaaSchS
namespace Go.Proofs.Ytlegbkafpfkjeaa
open Go.ChangeShapes Go.WideShapes Go.ChangeAt Go.RowKit Go.Joins Go.Deep
open M
open Clk (upd upd_same upd_other)
namespace M
def OwnS (w : World) (b n c : Nat) (f : Nat → Int) : Prop := n ≤ c ∧ ∃ h : Nat → Value, Blk w b (c * 3) h 70 ∧ ∀ q, q < n * 3 → h q = .int .i64 (f q)
theorem OwnS.lt {w : World} {b n c : Nat} {f : Nat → Int} (h : OwnS w b n c f) : b < w.heap.size := by
  obtain ⟨_, k, hb, _⟩ := h; exact hb.lt
theorem OwnS.down {w w' : World} {b n c : Nat} {f : Nat → Int} (h : OwnS w b n c f) (hb : Below w.heap.size w w') : OwnS w' b n c f := by
  obtain ⟨hc, k, hk, he⟩ := h
  exact ⟨hc, k, hk.down hb, he⟩
theorem OwnS.cell {w : World} {b n c : Nat} {f : Nat → Int} (h : OwnS w b n c f) {q : Nat} (hq : q < n * 3) : w.cell? ⟨b, q, none⟩ = some (.int .i64 (f q)) := by
  obtain ⟨hc, k, hb, hk⟩ := h
  rw [← hk q hq]; exact hb.cell (by omega)
theorem OwnS.thaw {w : World} {b n c : Nat} {f : Nat → Int} (h : OwnS w b n c f) (q : Nat) : w.frozen? ⟨b, q, none⟩ = false := by
  obtain ⟨hc, k, hb, hk⟩ := h; exact hb.thaw q
theorem OwnS.set {w : World} {b n c : Nat} {f : Nat → Int} (h : OwnS w b n c f) (q : Nat) (x : Int) : OwnS (w.setCell ⟨b, q, none⟩ (.int .i64 x)) b n c (upd f q x) := by
  obtain ⟨hc, k, hk, he⟩ := h
  refine ⟨hc, _, hk.set q _, fun j hj => ?_⟩
  by_cases e : j = q
  · subst e; rw [upd_same, upd_same]
  · rw [upd_other _ _ _ _ e, upd_other _ _ _ _ e]; exact he j hj
theorem OwnS.ext {w : World} {b n c : Nat} {f f' : Nat → Int} (h : OwnS w b n c f) (he : ∀ q, q < n * 3 → f q = f' q) : OwnS w b n c f' := by
  obtain ⟨hc, k, hk, hq⟩ := h
  exact ⟨hc, k, hk, fun q h => by rw [hq q h, he q h]⟩
def AnsS (w : World) (B : Nat) (r : Value) (n : Nat) (f : Nat → Int) : Prop :=
  (r = .slice none 0 0 ∧ n = 0) ∨ ∃ b cap, r = .slice (some ⟨b, 0, none⟩) n cap ∧ B ≤ b ∧ OwnS w b n cap f
theorem AnsS.slots {w : World} {B n : Nat} {r : Value} {f : Nat → Int} (h : AnsS w B r n f) : SlotsOf w r n f := by
  rcases h with ⟨rfl, rfl⟩ | ⟨b, cap, rfl, _, hb⟩
  · exact ⟨none, 0, rfl, fun h => absurd h (Nat.lt_irrefl _)⟩
  · exact ⟨_, _, rfl, fun _ => ⟨b, 0, rfl, hb.lt, fun q hq => by rw [Nat.zero_add]; exact hb.cell hq⟩⟩
theorem AnsS.form {w : World} {B n : Nat} {r : Value} {f : Nat → Int} (h : AnsS w B r n f) : ∃ a cap, r = .slice a n cap := h.slots.form
theorem AnsS.below {w w' : World} {B n : Nat} {r : Value} {f : Nat → Int} (h : AnsS w B r n f) (hb : Below w.heap.size w w') : AnsS w' B r n f := by
  rcases h with h | ⟨b, cap, hr, hB, hk⟩
  · exact .inl h
  · exact .inr ⟨b, cap, hr, hB, hk.down hb⟩
theorem AnsS.rng {w w' : World} {B n lo hi : Nat} {r : Value} {f : Nat → Int} (h : AnsS w B r n f) (ho : Rng lo hi w w') (hB : hi ≤ B) : AnsS w' B r n f := by
  rcases h with h | ⟨b, cap, hr, hBb, hc, k, hb, hk⟩
  · exact .inl h
  · exact .inr ⟨b, cap, hr, hBb, hc, k, ho.blk hb (.inr (by omega)), hk⟩
theorem own_ansS {w : World} {B n : Nat} {v : Value} {l : List Int} (hl : l.length = 3 * n) (h : w.ownsRow B 70 3 v n (pvi l)) : AnsS w B v n (fun q => l.getD q 0) := by
  rcases h.2 with ⟨hv, h0⟩ | ⟨g, cap, cur, rfl, hB, hg, hc, hm, hs, ht⟩
  · exact .inl ⟨hv, h0⟩
  · refine .inr ⟨g, cap, rfl, hB, hc, fun i => cur.getD i undef, ?_, fun i hi => ?_⟩
    · unfold Blk
      rw [hg]
      congr 2
      apply Array.ext_getElem?
      intro j
      by_cases hj : j < cap * 3
      · rw [cf_get _ hj]
        have : j < cur.size := by omega
        simp [Array.getD, this]
      · rw [Array.getElem?_eq_none (by omega), Array.getElem?_eq_none (by rw [cf_size]; omega)]
    · have h1 : (pvi l)[i]? = some (.int .i64 (l.getD i 0)) := by
        have hi' : i < l.length := by omega
        unfold pvi; rw [List.getElem?_map, List.getElem?_eq_getElem hi']; simp [hi']
      rw [← ht, List.getElem?_take_of_lt (by omega), Array.getElem?_toList] at h1
      have : i < cur.size := by omega
      simp [Array.getD, this] at h1 ⊢
      exact h1
theorem mk_three {g : Nat → Int} {j k0 : Nat} (h : ∀ q, q < j * 3 → g q = mk1 k0 q) : ∀ q, q < (j + 1) * 3 → upd (upd (upd g (j * 3) ((k0 + j * 3 : Nat) : Int)) (j * 3 + 1) (((k0 + j * 3 : Nat) : Int) + 1)) (j * 3 + 2) (((k0 + j * 3 : Nat) : Int) + 1 + 1) q = mk1 k0 q := fun q hq => by
  unfold upd
  split
  · rename_i e; rw [e]; unfold mk1; omega
  · split
    · rename_i e; rw [e]; unfold mk1; omega
    · split
      · rename_i e; rw [e]; rfl
      · exact h q (by omega)
end M
set_option maxHeartbeats 2000000 in
theorem mark_slotsA (b n c k0 : Nat) (f : Nat → Int) (w : World) (hg : OwnS w b n c f) (hn : n ≤ 1048576) (hk0 : k0 ≤ 1000000000) :
    Calls Try.prog 34 #[.slice (some ⟨b, 0, none⟩) n c, .int .i64 (k0 : Nat)] w fun e w' => e = .returned (.int .i64 ((k0 + n * 3 : Nat) : Int)) ∧ OwnS w' b n c (mk1 k0) ∧ Only b w w' := by
  have HG := hide hg
  clear hg
  go_enter Try.func34, Try.ntmps34
  go_wp2
  go_loopw [1, 5] (fun x i wr => ∃ (j : Nat) (g : Nat → Int), j ≤ n ∧ i = .int .i64 j ∧ x = .int .i64 ((k0 + j * 3 : Nat) : Int) ∧ Hid (OwnS wr b n c g ∧ ∀ q, q < j * 3 → g q = mk1 k0 q) ∧ Only b w wr) (fun _ i _ => n - (intOf i).toNat)
  case atStart => exact ⟨0, f, Nat.zero_le _, rfl, rfl, hide ⟨HG.out, fun q hq => by omega⟩, Only.refl _ _⟩
  case round =>
    obtain ⟨j, g, hj, rfl, rfl, HA, hbw⟩ := hrel
    by_cases hlt : j < n
    · have d0 := HA.out.1.cell (show j * 3 < n * 3 by omega)
      have f0 := HA.out.1.thaw (j * 3)
      have hA1 := HA.out.1.set (j * 3) ((k0 + j * 3 : Nat) : Int)
      have d1 := hA1.cell (show j * 3 + 1 < n * 3 by omega)
      have f1 := hA1.thaw (j * 3 + 1)
      have hA2 := hA1.set (j * 3 + 1) (((k0 + j * 3 : Nat) : Int) + 1)
      have d2 := hA2.cell (show j * 3 + 2 < n * 3 by omega)
      have f2 := hA2.thaw (j * 3 + 2)
      have HA2 := hide (show OwnS _ b n c _ ∧ _ from ⟨hA2.set (j * 3 + 2) (((k0 + j * 3 : Nat) : Int) + 1 + 1), mk_three HA.out.2⟩)
      have hbw2 := ((hbw.set (j * 3) (.int .i64 ((k0 + j * 3 : Nat) : Int))).set (j * 3 + 1) (.int .i64 (((k0 + j * 3 : Nat) : Int) + 1))).set (j * 3 + 2) (.int .i64 (((k0 + j * 3 : Nat) : Int) + 1 + 1))
      have HE := hide (show ((k0 + (j + 1) * 3 : Nat) : Int) = ((k0 + j * 3 : Nat) : Int) + 1 + 1 + 1 by omega)
      have hb0 : k0 + j * 3 ≤ 1010000000 := by omega
      generalize k0 + j * 3 = m at *
      clear HA HG hA1 hA2
      go_wp2
      exact ⟨⟨j + 1, _, by omega, by go_num, by rw [HE.out], HA2, hbw2⟩, by simp [intOf]; omega⟩
    · obtain rfl : j = n := by omega
      have HB := hide (HA.out.1.ext HA.out.2)
      clear HA HG
      go_wp2
      go_ret
      exact ⟨rfl, HB.out, hbw⟩
theorem mark_slots0 (k0 : Int) (w : World) :
    Calls Try.prog 34 #[.slice none 0 0, .int .i64 k0] w fun e w' => e = .returned (.int .i64 k0) ∧ w' = w := by
  go_enter Try.func34, Try.ntmps34
  go_wp2
  refine wp_loop_rounds 1 ?_; rw [rounds_succ]
  go_wp2
  go_ret
  exact ⟨rfl, rfl⟩
theorem mark_ansS (B n k0 : Nat) (r : Value) (f : Nat → Int) (w : World) (h : AnsS w B r n f) (hn : n ≤ 1048576) (hk0 : k0 ≤ 1000000000) :
    Calls Try.prog 34 #[r, .int .i64 (k0 : Nat)] w fun e w' => e = .returned (.int .i64 ((k0 + n * 3 : Nat) : Int)) ∧ AnsS w' B r n (mk1 k0) ∧ Below B w w' ∧ w'.heap.size = w.heap.size := by
  rcases h with ⟨rfl, rfl⟩ | ⟨b, cap, rfl, hB, hk⟩
  · refine (mark_slots0 (k0 : Nat) w).mono ?_
    rintro e w' ⟨rfl, rfl⟩
    exact ⟨rfl, .inl ⟨rfl, rfl⟩, Below.refl _ _, rfl⟩
  · refine (mark_slotsA b n cap k0 f w hk hn hk0).mono ?_
    rintro e w' ⟨rfl, hk', ho⟩
    exact ⟨rfl, .inr ⟨b, cap, rfl, hB, hk'⟩, ho.below hB, ho.size⟩
set_option maxHeartbeats 2000000 in
theorem held_slots (v : Value) (n k0 : Nat) (w : World) (hv : SlotsOf w v n (mk1 k0)) (hn : n ≤ 1048576) (hk0 : k0 ≤ 1000000000) :
    Calls Try.prog 35 #[v, .int .i64 (k0 : Nat)] w fun e w' => e = .returned (.int .i64 ((k0 + n * 3 : Nat) : Int)) ∧ w' = w := by
  obtain ⟨a, cap, rfl, hr⟩ := hv
  have HR := hide hr
  clear hr
  go_enter Try.func35, Try.ntmps35
  go_wp2
  go_loop [1, 5] (fun x i => ∃ j : Nat, j ≤ n ∧ i = .int .i64 j ∧ x = .int .i64 ((k0 + j * 3 : Nat) : Int)) (fun _ i => n - (intOf i).toNat)
  case atStart => exact ⟨0, Nat.zero_le _, rfl, rfl⟩
  case round =>
    obtain ⟨j, hj, rfl, rfl⟩ := hrel
    by_cases hlt : j < n
    · obtain ⟨b, off, rfl, hb, hrow⟩ := HR.out (by omega)
      have c0 := hrow (j * 3) (by omega)
      have c1 := hrow (j * 3 + 1) (by omega)
      have c2 := hrow (j * 3 + 2) (by omega)
      rw [show mk1 k0 (j * 3) = ((k0 + j * 3 : Nat) : Int) from rfl] at c0
      rw [show mk1 k0 (j * 3 + 1) = ((k0 + j * 3 : Nat) : Int) + 1 by unfold mk1; omega, ← Nat.add_assoc] at c1
      rw [show mk1 k0 (j * 3 + 2) = ((k0 + j * 3 : Nat) : Int) + 1 + 1 by unfold mk1; omega, ← Nat.add_assoc] at c2
      have HE := hide (show ((k0 + (j + 1) * 3 : Nat) : Int) = ((k0 + j * 3 : Nat) : Int) + 1 + 1 + 1 by omega)
      have hb0 : k0 + j * 3 ≤ 1010000000 := by omega
      have hE2 : (((k0 + j * 3 : Nat) : Int) != ((k0 + j * 3 : Nat) : Int)) = false := by simp
      have hE3 : (((k0 + j * 3 : Nat) : Int) + 1 != ((k0 + j * 3 : Nat) : Int) + 1) = false := by simp
      have hE4 : (((k0 + j * 3 : Nat) : Int) + 1 + 1 != ((k0 + j * 3 : Nat) : Int) + 1 + 1) = false := by simp
      generalize k0 + j * 3 = m at *
      clear HR hrow
      go_wp2
      go_round
      case rel => exact ⟨j + 1, by omega, by go_num, by rw [HE.out]⟩
      case measure => simp [intOf]; omega
    · obtain rfl : j = n := by omega
      clear HR
      go_wp2
      go_ret
      exact ⟨rfl, rfl⟩
theorem spec_schedule_no (v : Value) (k : Nat) (ts : Nat → Tk) (x : Int) (w : World) (hv : TasksOf w v k ts) (hs : Short k ts) (h : ¬ (GoodP k ts ∧ 1 ≤ x ∧ x ≤ 8)) :
    Calls Try.prog 31 #[v, .int .i64 x] w fun e w' => e = .returned (.tuple #[.slice none 0 0, .int .i64 0, .bool false]) ∧ Below w.heap.size w w' := by
  by_cases hg : GoodP k ts
  · have HG := hide (spec_good _ k ts true w hv hs (decide_eq_true hg))
    have HP := hide (decide_eq_false (show ¬ (1 ≤ x ∧ x ≤ 8) from fun h2 => h ⟨hg, h2⟩))
    obtain ⟨a, cap, rfl⟩ := hv.form
    clear hv hs h hg
    go_enter Try.func31, Try.ntmps31
    go_wp2_with fail
    refine HG.out.mono ?_
    rintro e w1 ⟨rfl, hb1⟩
    go_wp2_with fail
    refine (l1in_to _ _ _ false _ HP.out).mono ?_
    rintro e w1' ⟨rfl, rfl⟩
    clear HG
    go_wp2
    go_ret3
    exact ⟨rfl, hb1⟩
  · have HG := hide (spec_good _ k ts false w hv hs (decide_eq_false hg))
    obtain ⟨a, cap, rfl⟩ := hv.form
    clear hv hs h hg
    go_enter Try.func31, Try.ntmps31
    go_wp2_with fail
    refine HG.out.mono ?_
    rintro e w1 ⟨rfl, hb1⟩
    clear HG
    go_wp2
    go_ret3
    exact ⟨rfl, hb1⟩
theorem impl_schedule_no (v : Value) (k : Nat) (ts : Nat → Tk) (x : Int) (w : World) (hv : TasksOf w v k ts) (hs : Short k ts) (h : ¬ (GoodP k ts ∧ 1 ≤ x ∧ x ≤ 8)) :
    Calls Try.prog 32 #[v, .int .i64 x] w fun e w' => e = .returned (.tuple #[.slice none 0 0, .int .i64 0, .bool false]) ∧ Below w.heap.size w w' := by
  by_cases hg : GoodP k ts
  · have HG := hide (impl_good _ k ts true w hv hs (decide_eq_true hg))
    have HP := hide (decide_eq_false (show ¬ (1 ≤ x ∧ x ≤ 8) from fun h2 => h ⟨hg, h2⟩))
    obtain ⟨a, cap, rfl⟩ := hv.form
    clear hv hs h hg
    go_enter Try.func32, Try.ntmps32
    go_wp2_with fail
    refine wp_scope_straight ?_
    go_wp2_with fail
    refine HG.out.mono ?_
    rintro e w1 ⟨rfl, hb1⟩
    go_wp2_with fail
    refine (good_workers x false _ HP.out).mono ?_
    rintro e w1' ⟨rfl, rfl⟩
    clear HG
    go_wp2
    rw [Exit.noGoto_ret]
    go_ret3
    exact ⟨rfl, hb1⟩
  · have HG := hide (impl_good _ k ts false w hv hs (decide_eq_false hg))
    obtain ⟨a, cap, rfl⟩ := hv.form
    clear hv hs h hg
    go_enter Try.func32, Try.ntmps32
    go_wp2_with fail
    refine wp_scope_straight ?_
    go_wp2_with fail
    refine HG.out.mono ?_
    rintro e w1 ⟨rfl, hb1⟩
    clear HG
    go_wp2
    rw [Exit.noGoto_ret]
    go_ret3
    exact ⟨rfl, hb1⟩
end Go.Proofs.Ytlegbkafpfkjeaa

/-
  All timers of a wheel in one list (slices.Grow, slices.Concat), and whether one has an Id (slices.IndexFunc, slices.ContainsFunc, hasId).
-/
import Derived.Test.YtcodllammndciaaWhW
import Derived.Lib.AppendZeros
namespace Go.Proofs.Ytcodllammndciaa
open Go.RowKit M
open Clk (upd upd_same upd_other)
open Go.Sort (grow)
namespace M
/-- The numbers of the first i rows. -/
def fl (rs : Nat → Rw) : Nat → List Int
  | 0 => []
  | i + 1 => fl rs i ++ (List.range ((rs i).n * 2)).map (rs i).f
theorem fl_len (rs : Nat → Rw) : ∀ i, (fl rs i).length = tot rs i * 2
  | 0 => rfl
  | i + 1 => by simp only [fl, tot, List.length_append, List.length_map, List.length_range]; rw [fl_len rs i]; omega
theorem fl_next (rs : Nat → Rw) (i : Nat) : pvi (fl rs (i + 1)) = pvi (fl rs i) ++ tv (rs i).n (rs i).f := by
  simp only [fl]; unfold pvi tv iv; simp
theorem fl_getD {rs : Nat → Rw} {i q : Nat} (h : q < tot rs i * 2) : (fl rs (i + 1)).getD q 0 = (fl rs i).getD q 0 := by
  simp only [fl]
  have : q < (fl rs i).length := by rw [fl_len]; exact h
  simp [List.getD, List.getElem?_append_left this]
theorem fl_getD2 {rs : Nat → Rw} {i q : Nat} (h : q < (rs i).n * 2) : (fl rs (i + 1)).getD (tot rs i * 2 + q) 0 = (rs i).f q := by
  simp only [fl]
  have h1 : (fl rs i).length = tot rs i * 2 := fl_len rs i
  rw [List.getD, List.getElem?_append_right (by omega), h1, Nat.add_sub_cancel_left, List.getElem?_map, List.getElem?_range h]; rfl
theorem mem_fl {rs : Nat → Rw} {z : Int} : ∀ i, (∃ p, p < tot rs i ∧ (fl rs i).getD (p * 2 + 1) 0 = z) ↔ z ∈ idsTo rs i
  | 0 => by simp [tot, idsTo]
  | i + 1 => by
    have ih := mem_fl (rs := rs) (z := z) i
    simp only [idsTo, List.mem_append, ← ih]
    constructor
    · rintro ⟨p, hp, e⟩
      by_cases h : p < tot rs i
      · left; exact ⟨p, h, by rw [← fl_getD (by omega)]; exact e⟩
      · right
        simp only [tot] at hp
        rw [show p * 2 + 1 = tot rs i * 2 + ((p - tot rs i) * 2 + 1) by omega, fl_getD2 (by omega)] at e
        unfold idsR
        rw [List.mem_map]
        exact ⟨p - tot rs i, List.mem_range.2 (by omega), e⟩
    · rintro (⟨p, hp, e⟩ | h)
      · exact ⟨p, by simp only [tot]; omega, by rw [fl_getD (by omega)]; exact e⟩
      · unfold idsR at h
        obtain ⟨q, hq, e⟩ := List.mem_map.1 h
        have hq' := List.mem_range.1 hq
        exact ⟨tot rs i + q, by simp only [tot]; omega, by rw [show (tot rs i + q) * 2 + 1 = tot rs i * 2 + (q * 2 + 1) by omega, fl_getD2 (by omega)]; exact e⟩
theorem own_timers {w : World} {B n : Nat} {v : Value} {l : List Int} (hl : l.length = n * 2) (h : w.ownsRow B 40 2 v n (pvi l)) : TimersOf w v n (fun q => l.getD q 0) := by
  obtain ⟨a, cap, hv, hr⟩ := own_cells h (by unfold pvi; rw [List.length_map, hl])
  refine ⟨a, cap, hv, fun hn => ?_⟩
  obtain ⟨g, ha, _, hlt, hc⟩ := hr hn
  refine ⟨g, 0, ha, hlt, fun q hq => ?_⟩
  rw [Nat.zero_add]
  have hq' : q < l.length := by omega
  exact hc q _ (by unfold pvi; rw [List.getElem?_map, List.getElem?_eq_getElem hq']; simp [hq'])
end M
set_option maxRecDepth 20000 in
set_option maxHeartbeats 2000000 in
theorem grow_nil (n : Nat) (w : World) (hn : n ≤ 1000) :
    Calls Try.prog 74 #[.slice none 0 0, .int .i64 (n : Int)] w fun e w' => (∃ v, e = .returned v ∧ w'.ownsRow w.heap.size 40 2 v 0 []) ∧ Below w.heap.size w w' := by
  obtain ⟨i0, hi, hz0, hz1, hz2⟩ := info_parts info_timer
  have hn0 : ¬ ((n : Int) < 0) := by omega
  by_cases h0 : n = 0
  · subst h0
    go_enter Try.func74, Try.ntmps74
    go_wp2
    go_ret
    exact ⟨⟨_, rfl, World.ownsRow_nil _ _ _ _⟩, Below.refl _ _⟩
  · have hrun := fun ty => Lib.run_append_nil_zeros (P := Try.prog) w 52 3 ty 40 i0 _ .i64 .i64 Try.underlying52 Try.underlying3 hi hz0 n (by omega) (by omega) (by omega) (by rw [hz2]; omega)
    have hge := grownCap_ge w n 0 40
    have hle := grownCap_le_maxLen w n 0 40 (by unfold maxLen; omega)
    generalize grownCap w n 0 40 = G at *
    have HO := hide (show ∀ W, W = w.drew.alloc (.cells (Builtin.zeroCells (Value.agg #[.int .i64 0, .int .i64 0]).cells n ++ Builtin.zeroCells (Value.agg #[.int .i64 0, .int .i64 0]).cells (G - n)) 40) → W.ownsRow w.heap.size 40 2 (.slice (some ⟨w.heap.size, 0, none⟩) 0 G) 0 [] ∧ Below w.heap.size w W from by
      rintro W rfl
      refine ⟨⟨by simp, .inr ⟨w.heap.size, G, _, rfl, Nat.le_refl _, heap_alloc_new w.drew _, Nat.zero_le _, hle, ?_, by simp⟩⟩, (Below.refl w.heap.size w).drew.alloc (Nat.le_refl _) _⟩
      rw [Array.size_append, size_zeroCells, size_zeroCells]
      show n * 2 + (G - n) * 2 = G * 2
      omega)
    have hG63 : G ≤ 9223372036854775807 := by unfold maxLen at hle; omega
    generalize (Builtin.zeroCells (Value.agg #[.int .i64 0, .int .i64 0]).cells n ++ Builtin.zeroCells (Value.agg #[.int .i64 0, .int .i64 0]).cells (G - n)) = CC at *
    have HRn := hide hrun
    clear hrun
    go_enter Try.func74, Try.ntmps74
    go_wp2_with (at_builtin; refine Lib.wpList_append_run _ rfl _ _ 52 3 rfl _ _ rfl rfl _ _ (HRn.out _) ?_)
    go_wp2
    go_ret
    exact ⟨⟨_, rfl, (HO.out _ rfl).1⟩, (HO.out _ rfl).2⟩
set_option maxRecDepth 20000 in
set_option maxHeartbeats 4000000 in
theorem concat_rows (v : Value) (rs : Nat → Rw) (w : World) (hv : RowsOf w v 24 rs) (ht : tot rs 24 ≤ 60) :
    Calls Try.prog 55 #[v] w fun e w' => (∃ R, e = .returned R ∧ w'.ownsRow w.heap.size 40 2 R (tot rs 24) (pvi (fl rs 24))) ∧ Below w.heap.size w w' := by
  obtain ⟨i0, hi, hz0, hz1, hz2⟩ := info_parts info_timer
  obtain ⟨a, cap, rfl, hr⟩ := hv
  have HR := hide hr
  have HT := hide (show ∀ i, i ≤ 24 → tot rs i ≤ 60 from fun i hi => Nat.le_trans (tot_mono rs 24 hi) ht)
  clear hr
  go_enter Try.func55, Try.ntmps55
  go_wp2_with fail
  go_loopw [3, 11] (fun x y wr => ∃ (i m : Nat), i ≤ 24 ∧ y = .int .i64 (i : Int) ∧ x = .int .i64 (m : Int) ∧ m ≤ 60 ∧ Hid (m = tot rs i) ∧ wr = w) (fun _ y _ => 24 - (intOf y).toNat)
  case atStart => exact ⟨0, 0, by omega, rfl, rfl, by omega, hide rfl, rfl⟩
  case round =>
    obtain ⟨i, m, hi24, rfl, rfl, hm, HM, rfl⟩ := hrel
    by_cases hlt : i < 24
    · obtain ⟨b, off, rfl, hb, hrow⟩ := HR.out (by omega)
      obtain ⟨y, q1, q2⟩ := hrow i hlt
      obtain ⟨a1, c1, rfl⟩ := q2.form
      have HM2 := hide (show m + (rs i).n = tot rs (i + 1) by rw [HM.out]; rfl)
      have hm2 : m + (rs i).n ≤ 60 := by rw [HM2.out]; exact HT.out (i + 1) hlt
      have hi0 : (0 : Int) ≤ (i : Int) := by omega
      have hi1 : (i : Int) < 24 := by omega
      have hng : ¬ ((m : Int) + ((rs i).n : Int) < 0) := by omega
      clear hrow q2 HM
      generalize (rs i).n = ni at *
      go_wp2
      exact ⟨⟨i + 1, m + ni, by omega, by go_num, by go_num, hm2, HM2, trivial⟩, by simp [intOf]; omega⟩
    · obtain rfl : i = 24 := by omega
      have HN := hide (show m = tot rs 24 from HM.out)
      clear HM
      go_wp2_with fail
      refine (grow_nil m _ (by omega)).mono ?_
      rintro e w2 ⟨⟨v2, rfl, hO2⟩, hb2⟩
      obtain ⟨a2, c2, rfl⟩ := own_form hO2
      have HO2 := hide hO2
      clear hO2
      go_wp2_with fail
      go_loopw [6, 27] (fun x y wq => ∃ (i : Nat), i ≤ 24 ∧ y = .int .i64 (i : Int) ∧ Hid (wq.ownsRow wr.heap.size 40 2 x (tot rs i) (pvi (fl rs i)) ∧ Below wr.heap.size wr wq)) (fun _ y _ => 24 - (intOf y).toNat)
      case atStart => exact ⟨0, by omega, rfl, hide ⟨HO2.out, hb2⟩⟩
      case round =>
        rename World => wq
        obtain ⟨i, hi24, rfl, HI⟩ := hrel
        obtain ⟨ax, cx, rfl⟩ := own_form HI.out.1
        by_cases hlt : i < 24
        · obtain ⟨b, off, rfl, hb, hrow⟩ := HR.out (by omega)
          obtain ⟨y, q1, q2⟩ := hrow i hlt
          have c0 := (HI.out.2.cell (p := ⟨b, off + i, none⟩) hb).trans q1
          have hTq := q2.below HI.out.2
          obtain ⟨a1, c1, rfl, hr1⟩ := hTq
          have hi0 : (0 : Int) ≤ (i : Int) := by omega
          have hi1 : (i : Int) < 24 := by omega
          have hti := HT.out (i + 1) hlt
          have hti2 : tot rs (i + 1) = tot rs i + (rs i).n := rfl
          have HNx := hide (fl_next rs i)
          have HTs := hide hti2
          have hOw := HI.out.1
          have hbq := HI.out.2
          cases a1 with
          | none =>
            have hn0 : (rs i).n = 0 := by
              rcases Nat.eq_zero_or_pos (rs i).n with h | h
              · exact h
              · obtain ⟨b', off', h2, _⟩ := hr1 h; cases h2
            rw [hn0] at c0
            have HI2 := hide (show wq.ownsRow wr.heap.size 40 2 (.slice ax (tot rs i) cx) (tot rs (i + 1)) (pvi (fl rs (i + 1))) ∧ Below wr.heap.size wr wq from by
              refine ⟨?_, hbq⟩
              rw [HNx.out, HTs.out, hn0]
              simpa [tv] using hOw)
            have hcx : tot rs i ≤ cx := by
              rcases hOw.2 with ⟨e, h0⟩ | ⟨g, cp, cur, e, _, _, h1, _⟩
              · omega
              · simp only [Value.slice.injEq] at e; omega
            clear hr1 q1 q2 hrow HI hOw HNx HTs hti2 hti hn0
            cases ax with
            | none =>
              go_wp2
              exact ⟨⟨i + 1, by omega, by go_num, HI2⟩, by simp [intOf]; omega⟩
            | some ay =>
              go_wp2
              exact ⟨⟨i + 1, by omega, by go_num, HI2⟩, by simp [intOf]; omega⟩
          | some ad =>
            have hnews : ∀ j u, (tv (rs i).n (rs i).f)[j]? = some u → wq.cell? (ad.add j) = some u := by
              intro j u hj
              have hjn : j < (rs i).n * 2 := by have := (List.getElem?_eq_some_iff.1 hj).1; rwa [tv_len] at this
              rw [tv_get hjn] at hj
              cases hj
              obtain ⟨b, off, h1, h2, h3⟩ := hr1 (by omega)
              cases h1
              rw [show (⟨b, off, none⟩ : Addr).add j = ⟨b, off + j, none⟩ by unfold Addr.add; split <;> simp_all]
              exact h3 j hjn
            have HNw := hide hnews
            have HTl := hide (tv_len (rs i).n (rs i).f)
            have hsq := hbq.size
            clear hr1 q1 q2 hrow HI hnews hti2
            generalize hTi : tot rs i = ti at *
            have hsum : ti + (rs i).n ≤ 60 := by have := HTs.out; omega
            go_wp2_with (at_builtin; refine wpList_append_own _ rfl _ _ 52 rfl wr.heap.size 40 i0 _ 2 16 Try.underlying52 hi hz0 hz1 hz2 rfl (by decide) _ ti _ rfl hOw ad (rs i).n c1 (tv (rs i).n (rs i).f) rfl HTl.out HNw.out tv_one (by unfold maxLen; omega) (by omega) (by omega) ?_)
            intro v7 w7 hown7 hgrow7 _
            have hb7 : Below wr.heap.size wr w7 := hbq.grown hgrow7 (by omega) (fun q hq => (hOw.lt q hq).1)
            obtain ⟨a7, c7, rfl⟩ := own_form hown7
            have HI2 := hide (show w7.ownsRow wr.heap.size 40 2 (.slice a7 (ti + (rs i).n) c7) (tot rs (i + 1)) (pvi (fl rs (i + 1))) ∧ Below wr.heap.size wr w7 from ⟨by rw [HNx.out, HTs.out]; exact hown7, hb7⟩)
            clear hgrow7 hown7 hOw HNw HNx HTs hb7
            go_wp2
            exact ⟨⟨i + 1, by omega, by go_num, HI2⟩, by simp [intOf]; omega⟩
        · obtain rfl : i = 24 := by omega
          have HF := HI
          clear HI
          go_wp2
          go_ret
          exact ⟨⟨_, rfl, HF.out.1⟩, HF.out.2⟩
/-- The closure of hasId over an Id that lies in block b. -/
abbrev M.hasF (b : Nat) : Value := .func (Fn.func 76) #[] #[.pointer (some ⟨b, 0, none⟩)]
set_option maxHeartbeats 1000000 in
theorem has_id (id : Int) (w : World) :
    Calls Try.prog 57 #[.int .i64 id] w fun e w' => (e = .returned (hasF w.heap.size) ∧ w'.cell? ⟨w.heap.size, 0, none⟩ = some (.int .i64 id) ∧ w.heap.size < w'.heap.size) ∧ Below w.heap.size w w' := by
  have hbA := (Below.refl w.heap.size w).alloc (Nat.le_refl _) (.cells #[.int .i64 id] 3)
  have hc := (Blk.fresh w #[.int .i64 id] 1 (fun _ => .int .i64 id) 3 rfl).cell (show 0 < 1 by omega)
  go_enter Try.func57, Try.ntmps57
  go_wp2
  go_ret
  exact ⟨⟨rfl, hc, by simp⟩, hbA⟩
set_option maxHeartbeats 1000000 in
theorem has_id_in (tm x id : Int) (b : Nat) (r : Bool) (w : World) (hc : w.cell? ⟨b, 0, none⟩ = some (.int .i64 id)) (hb : b < w.heap.size) (hr : (x == id) = r) :
    Calls Try.prog 76 #[.agg #[.int .i64 tm, .int .i64 x], .pointer (some ⟨b, 0, none⟩)] w fun e w' => e = .returned (.bool r) ∧ Below w.heap.size w w' := by
  have hbA := (Below.refl w.heap.size w).alloc (Nat.le_refl _) (.cells #[.int .i64 tm, .int .i64 x] 40)
  have hc2 := (hbA.cell (p := ⟨b, 0, none⟩) hb).trans hc
  have HR := hide hr
  clear hr hc
  go_enter Try.func76, Try.ntmps76
  go_wp2
  go_ret
  exact ⟨by rw [← HR.out]; rfl, hbA⟩
set_option maxRecDepth 20000 in
set_option maxHeartbeats 2000000 in
theorem index_func (v : Value) (n : Nat) (f : Nat → Int) (id : Int) (b : Nat) (w : World) (hv : TimersOf w v n f) (hn : n ≤ 1048576) (hc : w.cell? ⟨b, 0, none⟩ = some (.int .i64 id)) (hb : b < w.heap.size) :
    Calls Try.prog 75 #[v, hasF b] w fun e w' => (∃ r : Int, e = .returned (.int .i64 r) ∧ (0 ≤ r ↔ ∃ p, p < n ∧ f (p * 2 + 1) = id)) ∧ Below w.heap.size w w' := by
  obtain ⟨a, cap, rfl, hr⟩ := hv
  have HR := hide hr
  have HC := hide hc
  clear hr hc
  go_enter Try.func75, Try.ntmps75
  go_wp2
  go_loopw [8] (fun y wr => ∃ j : Nat, j ≤ n ∧ y = .int .i64 (j : Int) ∧ Hid (∀ p, p < j → f (p * 2 + 1) ≠ id) ∧ Below w.heap.size w wr) (fun y _ => n - (intOf y).toNat)
  case atStart => exact ⟨0, Nat.zero_le _, rfl, hide (fun p h => by omega), Below.refl _ _⟩
  case round =>
    rename World => wo
    obtain ⟨j, hj, rfl, HP, hbw⟩ := hrel
    by_cases hlt : j < n
    · obtain ⟨b2, off, rfl, hb2, hrow⟩ := HR.out (by omega)
      have c0 := (hbw.cell (p := ⟨b2, off + j * 2, none⟩) hb2).trans (hrow (j * 2) (by omega))
      have c1 := (hbw.cell (p := ⟨b2, off + (j * 2 + 1), none⟩) hb2).trans (hrow (j * 2 + 1) (by omega))
      simp only [← Nat.add_assoc] at c1
      have hj0 : (0 : Int) ≤ (j : Int) := by omega
      have hj1 : (j : Int) < (n : Int) := by omega
      have hcc := (hbw.cell (p := ⟨b, 0, none⟩) hb).trans HC.out
      have hb3 := Nat.lt_of_lt_of_le hb hbw.size
      by_cases he : f (j * 2 + 1) = id
      · have HH := hide (has_id_in (f (j * 2)) (f (j * 2 + 1)) id b true wo hcc hb3 (by simp [he]))
        have HE := hide (show ∃ p, p < n ∧ f (p * 2 + 1) = id from ⟨j, hlt, he⟩)
        clear hrow HR he HP hcc
        go_wp2_with fail
        refine HH.out.mono ?_
        rintro e w2 ⟨rfl, hb4⟩
        have hbf := hbw.trans (hb4.mono hbw.size)
        clear HH
        go_wp2
        go_ret
        exact ⟨⟨_, rfl, fun _ => HE.out, fun _ => by omega⟩, hbf⟩
      · have HH := hide (has_id_in (f (j * 2)) (f (j * 2 + 1)) id b false wo hcc hb3 (by simp [he]))
        have HP2 := hide (show ∀ p, p < j + 1 → f (p * 2 + 1) ≠ id from fun p hp => by
          rcases (show p < j ∨ p = j by omega) with h | h
          · exact HP.out p h
          · subst h; exact he)
        clear hrow HR he HP hcc
        go_wp2_with fail
        refine HH.out.mono ?_
        rintro e w2 ⟨rfl, hb4⟩
        have hbf := hbw.trans (hb4.mono hbw.size)
        clear HH
        go_wp2
        exact ⟨⟨j + 1, by omega, by go_num, HP2, hbf⟩, by simp [intOf]; omega⟩
    · obtain rfl : n = j := by omega
      have HE := hide (show ¬ ∃ p, p < n ∧ f (p * 2 + 1) = id from fun ⟨p, h1, h2⟩ => HP.out p h1 h2)
      clear HR HP
      go_wp2
      go_ret
      exact ⟨⟨_, rfl, fun h => by omega, fun h => absurd h HE.out⟩, hbw⟩
theorem contains_func (v : Value) (n : Nat) (f : Nat → Int) (id : Int) (b : Nat) (r : Bool) (w : World) (hv : TimersOf w v n f) (hn : n ≤ 1048576) (hc : w.cell? ⟨b, 0, none⟩ = some (.int .i64 id)) (hb : b < w.heap.size) (hr : (∃ p, p < n ∧ f (p * 2 + 1) = id) ↔ r = true) :
    Calls Try.prog 56 #[v, hasF b] w fun e w' => e = .returned (.bool r) ∧ Below w.heap.size w w' := by
  have HI := hide (index_func v n f id b w hv hn hc hb)
  have HR := hide hr
  obtain ⟨a, cap, rfl⟩ := hv.form
  clear hv hc hr
  go_enter Try.func56, Try.ntmps56
  go_wp2_with fail
  refine HI.out.mono ?_
  rintro e w2 ⟨⟨x, rfl, hx⟩, hb2⟩
  have HX := hide (show decide (0 ≤ x) = r by rw [Bool.eq_iff_iff, decide_eq_true_eq, hx]; exact HR.out)
  clear hx HI
  go_wp2
  go_ret
  exact ⟨by rw [← HX.out]; rfl, hb2⟩
end Go.Proofs.Ytcodllammndciaa

/-
  All waits and their sum in both texts.
-/
import Derived.Test.YtegbfmdilmbpmaaRtW
namespace Go.Proofs.Ytegbfmdilmbpmaa
open Go.RowKit M
open Clk (upd upd_same upd_other)
namespace M
theorem sm_few {p : Po} (h : GPo p) {k : Nat} (hk : k < 40) : 0 ≤ sm p k ∧ sm p k ≤ 40000000 := by
  have := sm_in h k
  omega
theorem wt_few {p : Po} (h : GPo p) (k : Nat) : 1 ≤ wt p k ∧ wt p k ≤ 1000000 := by
  have h1 := wt_in h k
  have h2 := h.2.2.1.2
  omega
end M
set_option maxHeartbeats 2000000 in
theorem impl_waits_no (p : Po) (w : World) (hb : decide (GPo p) = false) :
    Calls Try.prog 19 #[.agg #[.int .i64 p.f, .int .i64 p.t, .int .i64 p.m, .int .i64 p.n]] w fun e w' => e = .returned (.tuple #[.slice none 0 0, .int .i64 0, .bool false]) ∧ Below w.heap.size w w' := by
  have hb0 := (Below.refl w.heap.size w).alloc (Nat.le_refl _) (.cells #[.int .i64 p.f, .int .i64 p.t, .int .i64 p.m, .int .i64 p.n] 25)
  have BP := hide hb
  clear hb
  go_enter Try.func19, Try.ntmps19
  go_wp2_with fail
  refine (impl_policy p false _ BP.out).mono ?_
  rintro e w1 ⟨rfl, hb⟩
  have hb1 := hb0.trans (hb.mono hb0.size)
  clear hb hb0 BP
  go_wp2
  go_ret3
  exact ⟨rfl, hb1⟩
set_option maxHeartbeats 2000000 in
theorem spec_waits_no (p : Po) (w : World) (hb : decide (GPo p) = false) :
    Calls Try.prog 18 #[.agg #[.int .i64 p.f, .int .i64 p.t, .int .i64 p.m, .int .i64 p.n]] w fun e w' => e = .returned (.tuple #[.slice none 0 0, .int .i64 0, .bool false]) ∧ Below w.heap.size w w' := by
  have hb0 := (Below.refl w.heap.size w).alloc (Nat.le_refl _) (.cells #[.int .i64 p.f, .int .i64 p.t, .int .i64 p.m, .int .i64 p.n] 25)
  have BP := hide hb
  clear hb
  go_enter Try.func18, Try.ntmps18
  go_wp2_with fail
  refine (spec_policy p false _ BP.out).mono ?_
  rintro e w1 ⟨rfl, hb⟩
  have hb1 := hb0.trans (hb.mono hb0.size)
  clear hb hb0 BP
  go_wp2
  go_ret3
  exact ⟨rfl, hb1⟩
set_option maxHeartbeats 4000000 in
theorem impl_waits (f t m : Int) (q : Nat) (w : World) (hG : GPo ⟨f, t, m, (q : Int) + 1⟩) :
    Calls Try.prog 19 #[.agg #[.int .i64 f, .int .i64 t, .int .i64 m, .int .i64 ((q : Int) + 1)]] w fun e w' =>
      (∃ R, e = .returned (.tuple #[R, .int .i64 (sm ⟨f, t, m, (q : Int) + 1⟩ q), .bool true]) ∧ AnsC w' w.heap.size R q (wt ⟨f, t, m, (q : Int) + 1⟩)) ∧ Below w.heap.size w w' := by
  have hq : q < 40 := by have := hG.2.2.2.2; simp only at this; omega
  obtain ⟨p, hp⟩ : ∃ p : Po, (⟨f, t, m, (q : Int) + 1⟩ : Po) = p := ⟨_, rfl⟩
  have hb0 := (Below.refl w.heap.size w).alloc (Nat.le_refl _) (.cells #[.int .i64 f, .int .i64 t, .int .i64 m, .int .i64 ((q : Int) + 1)] 25)
  have HL0 := hide (new4 w (.int .i64 f) (.int .i64 t) (.int .i64 m) (.int .i64 ((q : Int) + 1)) 25)
  have HC := hide (show ∀ W, Calls Try.prog 15 #[.agg #[.int .i64 f, .int .i64 t, .int .i64 m, .int .i64 ((q : Int) + 1)]] W fun e w' => e = .returned (.bool true) ∧ Below W.heap.size W w' from
    fun W => impl_policy ⟨f, t, m, (q : Int) + 1⟩ true W (decide_eq_true hG))
  have HN := hide (show ∀ j W, Calls Try.prog 51 #[.agg #[.int .i64 f, .int .i64 t, .int .i64 m, .int .i64 ((q : Int) + 1)], .int .i64 (wt p j)] W fun e w' => e = .returned (.int .i64 (wt p (j + 1))) ∧ Below W.heap.size W w' from
    fun j W => by rw [← hp]; exact next_wait ⟨f, t, m, (q : Int) + 1⟩ _ _ W (wt_mul hG j).1 (wt_mul hG j).2 rfl)
  rw [hp] at hG ⊢
  have HG := hide hG
  have HF := hide (show f = wt p 0 by rw [← hp]; rfl)
  have hmk := make_ints q (by omega)
  clear hG hp
  go_enter Try.func19, Try.ntmps19
  go_wp2_with fail
  refine (HC.out _).mono ?_
  rintro e w1 ⟨rfl, hb⟩
  have hb1 := hb0.trans (hb.mono hb0.size)
  have HL1 := hide (HL0.out.down hb)
  clear hb hb0 HL0 HC
  obtain ⟨⟨d0, d1, d2, d3⟩, -⟩ := HL1.out.quad
  have hlt1 := HL1.out.lt
  go_wp2
  clear d0 d1 d2 d3
  go_loopw [6, 7, 8, 20] (fun y s x i wr => ∃ j : Nat, j ≤ q ∧ i = .int .i64 j ∧ y = .int .i64 (wt p j) ∧ s = .int .i64 (sm p j) ∧
      Hid (Blk wr w.heap.size 4 (q4 (.int .i64 f) (.int .i64 t) (.int .i64 m) (.int .i64 ((q : Int) + 1))) 25 ∧ Below w.heap.size w wr ∧ Blk wr w1.heap.size q (iv (cp (fun _ => 0) (wt p) j)) 3)) (fun _ _ _ i _ => q - (intOf i).toNat)
  case atStart => exact ⟨0, Nat.zero_le _, rfl, by rw [← HF.out], rfl, hide ⟨HL1.out.alloc _, hb1.alloc hb1.size _, by rw [cp_zero]; exact Blk.new w1 q _ _⟩⟩
  case round =>
    rename World => wo
    obtain ⟨j, hj, rfl, rfl, rfl, HP⟩ := hrel
    by_cases hlt : j < q
    · obtain ⟨⟨d0, d1, d2, d3⟩, -⟩ := HP.out.1.quad
      obtain ⟨s0, s1⟩ := sm_few HG.out (show j < 40 by omega)
      obtain ⟨x0, x1⟩ := wt_few HG.out j
      have c1 := HP.out.2.2.cell_ints hlt
      have f1 := HP.out.2.2.thaw j
      have n1 : w1.heap.size ≠ w.heap.size := by omega
      have n2 : w.heap.size ≠ w1.heap.size := by omega
      have HP2 := hide (show Blk (wo.setCell ⟨w1.heap.size, j, none⟩ (.int .i64 (wt p j))) w.heap.size 4 _ 25 ∧ Below w.heap.size w (wo.setCell ⟨w1.heap.size, j, none⟩ (.int .i64 (wt p j))) ∧ Blk (wo.setCell ⟨w1.heap.size, j, none⟩ (.int .i64 (wt p j))) w1.heap.size q (iv (cp (fun _ => 0) (wt p) (j + 1))) 3 from
        ⟨HP.out.1.set_other n2 _ _, HP.out.2.1.setCell (p := ⟨w1.heap.size, j, none⟩) (by simp; omega) _, by rw [← cp_succ]; exact HP.out.2.2.set_int _ _⟩)
      have HS := hide (show sm p (j + 1) = sm p j + wt p j from rfl)
      clear HP
      go_wp2_with fail
      refine (HN.out j _).mono ?_
      rintro e w3 ⟨rfl, hb⟩
      have HP3 := hide (And.intro (HP2.out.1.down hb) (And.intro (HP2.out.2.1.trans (hb.mono HP2.out.2.1.size)) (HP2.out.2.2.down hb)))
      clear hb HP2 d0 d1 d2 d3 c1 f1
      go_wp2
      exact ⟨⟨j + 1, by omega, by go_num, rfl, by rw [HS.out], HP3⟩, by simp [intOf]; omega⟩
    · obtain rfl : j = q := by omega
      have HB := hide (HP.out.2.2.ext (f' := iv (wt p)) (fun i hi => by unfold iv cp; rw [if_pos (by omega)]))
      go_wp2
      go_ret3
      exact ⟨⟨_, rfl, .inr ⟨w1.heap.size, j, rfl, by omega, Nat.le_refl _, _, HB.out, fun i _ => rfl⟩⟩, HP.out.2.1⟩
set_option maxHeartbeats 4000000 in
theorem spec_waits (f t m : Int) (q : Nat) (w : World) (hG : GPo ⟨f, t, m, (q : Int) + 1⟩) :
    Calls Try.prog 18 #[.agg #[.int .i64 f, .int .i64 t, .int .i64 m, .int .i64 ((q : Int) + 1)]] w fun e w' =>
      (∃ R, e = .returned (.tuple #[R, .int .i64 (sm ⟨f, t, m, (q : Int) + 1⟩ q), .bool true]) ∧ IntsOf w' R q (wt ⟨f, t, m, (q : Int) + 1⟩)) ∧ Below w.heap.size w w' := by
  obtain ⟨i0, hi, hz0, hz1, hz2⟩ := info_parts info_int
  have hq : q < 40 := by have := hG.2.2.2.2; simp only at this; omega
  obtain ⟨p, hp⟩ : ∃ p : Po, (⟨f, t, m, (q : Int) + 1⟩ : Po) = p := ⟨_, rfl⟩
  have hb0 := (Below.refl w.heap.size w).alloc (Nat.le_refl _) (.cells #[.int .i64 f, .int .i64 t, .int .i64 m, .int .i64 ((q : Int) + 1)] 25)
  have HL0 := hide (new4 w (.int .i64 f) (.int .i64 t) (.int .i64 m) (.int .i64 ((q : Int) + 1)) 25)
  have HC := hide (show ∀ W, Calls Try.prog 13 #[.agg #[.int .i64 f, .int .i64 t, .int .i64 m, .int .i64 ((q : Int) + 1)]] W fun e w' => e = .returned (.bool true) ∧ Below W.heap.size W w' from
    fun W => spec_policy ⟨f, t, m, (q : Int) + 1⟩ true W (decide_eq_true hG))
  have HN := hide (show ∀ (j : Nat) W, j < 40 → Calls Try.prog 50 #[.agg #[.int .i64 f, .int .i64 t, .int .i64 m, .int .i64 ((q : Int) + 1)], .int .i64 ((j : Int) + 1)] W fun e w' => e = .returned (.int .i64 (wt p j)) ∧ Below W.heap.size W w' from
    fun j W hj => by rw [← hp]; exact spec_wait1 ⟨f, t, m, (q : Int) + 1⟩ j W hG hj)
  rw [hp] at hG ⊢
  have HG := hide hG
  clear hG hp
  go_enter Try.func18, Try.ntmps18
  go_wp2_with fail
  refine (HC.out _).mono ?_
  rintro e w1 ⟨rfl, hb⟩
  have hb1 := hb0.trans (hb.mono hb0.size)
  have HL1 := hide (HL0.out.down hb)
  have hlt1 := HL1.out.lt
  clear hb hb0 HL0 HC
  go_wp2
  go_loopw [5, 6, 7] (fun o s i wr => ∃ (j : Nat) (ao : Option Addr) (c : Nat), j ≤ q ∧ i = .int .i64 ((j : Int) + 1) ∧ s = .int .i64 (sm p j) ∧ o = .slice ao j c ∧ Hid (wr.ownsRow w1.heap.size 3 1 (.slice ao j c) j ((List.range j).map (iv (wt p)))) ∧
      Hid (Blk wr w.heap.size 4 (q4 (.int .i64 f) (.int .i64 t) (.int .i64 m) (.int .i64 ((q : Int) + 1))) 25 ∧ Below w.heap.size w wr ∧ w1.heap.size ≤ wr.heap.size)) (fun _ _ i _ => q + 1 - (intOf i).toNat)
  case atStart => exact ⟨0, none, 0, Nat.zero_le _, rfl, rfl, rfl, hide (World.ownsRow_nil _ _ _ _), hide ⟨HL1.out, hb1, Nat.le_refl _⟩⟩
  case round =>
    rename World => wo
    obtain ⟨j, ao, c, hj, rfl, rfl, rfl, HO, HP⟩ := hrel
    obtain ⟨⟨d0, d1, d2, d3⟩, -⟩ := HP.out.1.quad
    by_cases hlt : j < q
    · obtain ⟨s0, s1⟩ := sm_few HG.out (show j < 40 by omega)
      obtain ⟨x0, x1⟩ := wt_few HG.out j
      have HS := hide (range_snoc (iv (wt p)) j)
      have HSm := hide (show sm p (j + 1) = sm p j + wt p j from rfl)
      go_wp2_with fail
      refine (HN.out j _ (by omega)).mono ?_
      rintro e w3 ⟨rfl, hb⟩
      have hsz := hb.size
      have hown := owns_below HO.out hb
      have hP3 := And.intro (HP.out.1.down hb) (HP.out.2.1.trans (hb.mono HP.out.2.1.size))
      have hs3 : w1.heap.size ≤ w3.heap.size := Nat.le_trans HP.out.2.2 hsz
      clear hb HP HO d0 d1 d2 d3
      go_wp2_with (at_builtin; refine wpList_append_own _ rfl _ _ 31 rfl w1.heap.size 3 i0 _ 1 8 Try.underlying31 hi hz0 hz1 hz2 rfl (by decide) _ j _ rfl (hown.alloc _) ⟨w3.heap.size, 0, none⟩ 1 1 [.int .i64 (wt p j)] rfl rfl ?c1 ?c2 ?c3 ?c4 ?c5 ?_)
      try (case c1 => exact news1 w3 _ _)
      case c2 => first | rfl | (intro u hu; simp at hu; subst hu; rfl)
      case c3 => unfold maxLen; omega
      case c4 => omega
      case c5 => simp; omega
      intro v' w4 hown4 hgrow _
      have hP4 := And.intro ((hP3.1.alloc (.cells #[.int .i64 (wt p j)] 3)).grown (hown.alloc (.cells #[.int .i64 (wt p j)] 3)) (by decide) hgrow) ((hP3.2.alloc hP3.2.size (.cells #[.int .i64 (wt p j)] 3)).grown hgrow (by have := hP3.2.size; simp; omega) (fun k hk => by have := (hown.lt k hk).1; omega))
      have hs4 : w1.heap.size ≤ w4.heap.size := by have := hgrow.size; simp at this; omega
      obtain ⟨a4, c4, rfl⟩ := own_form hown4
      have HO4 := hide (show w4.ownsRow w1.heap.size 3 1 (.slice a4 (j + 1) c4) (j + 1) ((List.range (j + 1)).map (iv (wt p))) by rw [HS.out]; exact hown4)
      obtain ⟨⟨d0, d1, d2, d3⟩, -⟩ := hP4.1.quad
      clear hown4 hgrow hown hP3
      go_wp2_with fail
      refine (HN.out j _ (by omega)).mono ?_
      rintro e w5 ⟨rfl, hb⟩
      have hO5 := hide (owns_below HO4.out hb)
      have hP5 := hide (show Blk w5 w.heap.size 4 _ 25 ∧ Below w.heap.size w w5 ∧ w1.heap.size ≤ w5.heap.size from ⟨hP4.1.down hb, hP4.2.trans (hb.mono hP4.2.size), Nat.le_trans hs4 hb.size⟩)
      clear hb HO4 hP4 d0 d1 d2 d3
      go_wp2
      exact ⟨⟨j + 1, a4, c4, by omega, by go_num, by rw [HSm.out], rfl, hO5, hP5⟩, by simp [intOf]; omega⟩
    · obtain rfl : j = q := by omega
      go_wp2
      go_ret3
      exact ⟨⟨_, rfl, own_ints HO.out⟩, HP.out.2.1⟩
end Go.Proofs.Ytegbfmdilmbpmaa

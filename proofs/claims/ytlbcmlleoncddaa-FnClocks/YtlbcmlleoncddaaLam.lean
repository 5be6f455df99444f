/-
  Both texts of LamportOf, at every number of processes and every list of acts.
-/
import Derived.Test.YtlbcmlleoncddaaAhead
import Derived.Test.YtlbcmlleoncddaaAns
namespace Go.Proofs.Ytlbcmlleoncddaa
open Go.RowKit M
open Clk (upd upd_same upd_other)
namespace M
def Nf (l : Nat → Ac) : Nat → Int := fun j => ((Clk.N (P l) (F l) j : Nat) : Int)
def Lf (l : Nat → Ac) (i : Nat) : Nat → Int := fun p => ((Clk.LN (P l) (F l) i p : Nat) : Int)
theorem Lf_zero (l : Nat → Ac) : Lf l 0 = fun _ => 0 := by funext p; rfl
theorem Lf_succ (l : Nat → Ac) (i : Nat) : upd (Lf l i) (P l i) (Nf l i) = Lf l (i + 1) := by
  funext p; unfold Lf Nf upd
  rw [Clk.LN_succ]
  split <;> rfl
end M
set_option maxHeartbeats 2000000 in
theorem spec_lam_no (p : Int) (v : Value) (n : Nat) (l : Nat → Ac) (w : World) (hv : ActsOf w v n l) (hm : n ≤ 1048576) (hg : ¬ GoodL p n l) (h1 : -9223372036854775808 ≤ p) (h2 : p ≤ 9223372036854775807) :
    Calls Try.prog 18 #[.int .i64 p, v] w fun e w' => e = .returned (.tuple #[.slice none 0 0, .bool false]) ∧ Below w.heap.size w w' := by
  have HV := hide hv
  have HG := hide hg
  obtain ⟨a, cap, rfl⟩ := hv.form
  clear hv hg
  go_enter Try.func18, Try.ntmps18
  go_wp2_with fail
  refine (spec_good_no p _ n l _ HV.out hm HG.out h1 h2).mono ?_
  rintro e w1 ⟨rfl, hb1⟩
  go_wp2
  go_ret2
  exact ⟨rfl, hb1⟩
set_option maxHeartbeats 2000000 in
theorem impl_lam_no (p : Int) (v : Value) (n : Nat) (l : Nat → Ac) (w : World) (hv : ActsOf w v n l) (hm : n ≤ 1048576) (hg : ¬ GoodL p n l) :
    Calls Try.prog 19 #[.int .i64 p, v] w fun e w' => e = .returned (.tuple #[.slice none 0 0, .bool false]) ∧ Below w.heap.size w w' := by
  have HV := hide hv
  have HG := hide hg
  obtain ⟨a, cap, rfl⟩ := hv.form
  clear hv hg
  go_enter Try.func19, Try.ntmps19
  go_wp2_with fail
  refine (impl_good_no p _ n l _ HV.out hm HG.out).mono ?_
  rintro e w1 ⟨rfl, hb1⟩
  go_wp2
  go_ret2
  exact ⟨rfl, hb1⟩
set_option maxHeartbeats 4000000 in
theorem spec_lam (p : Int) (v : Value) (n : Nat) (l : Nat → Ac) (w : World) (hv : ActsOf w v n l) (hg : GoodL p n l) :
    Calls Try.prog 18 #[.int .i64 p, v] w fun e w' => (∃ r, e = .returned (.tuple #[r, .bool true]) ∧ IntsOf w' r n (Nf l)) ∧ Below w.heap.size w w' := by
  obtain ⟨i0, hi, hz0, hz1, hz2⟩ := info_parts info_int
  have HV := hide hv
  have hn : n ≤ 60 := hg.2.1
  have HG := hide hg
  obtain ⟨a, cap, rfl⟩ := hv.form
  clear hv hg
  go_enter Try.func18, Try.ntmps18
  go_wp2_with fail
  refine (spec_good_yes p _ n l _ HV.out HG.out).mono ?_
  rintro e w1 ⟨rfl, hb1⟩
  go_wp2_with fail
  refine (l2_ahead p _ n l _ (HV.out.below hb1) HG.out).mono ?_
  rintro e w2 ⟨⟨r, rfl, hT⟩, hb⟩
  have hb2 := hb1.trans (hb.mono hb1.size)
  obtain ⟨ta, tc, rfl⟩ := hT.form
  have HT := hide hT
  clear hT hb hb1 HG HV
  go_wp2
  go_loopw [6, 18] (fun x y wr => ∃ (i : Nat) (ao : Option Addr) (c : Nat), i ≤ n ∧ y = .int .i64 i ∧ x = .slice ao i c ∧ Hid (wr.ownsRow w2.heap.size 3 1 (.slice ao i c) i ((List.range i).map (iv (Nf l)))) ∧ Below w2.heap.size w2 wr) (fun _ y _ => n - (intOf y).toNat)
  case atStart => exact ⟨0, none, 0, Nat.zero_le _, rfl, rfl, hide (World.ownsRow_nil _ _ _ _), Below.refl _ _⟩
  case round =>
    rename World => wo
    obtain ⟨i, ao, c, hin, rfl, rfl, HO, hbw⟩ := hrel
    by_cases hlt : i < n
    · obtain ⟨ob, oc, gs, hr', hBo, hob, hrd⟩ := (HT.out.below hbw).read (by omega)
      obtain ⟨rfl, rfl⟩ : ta = some ⟨ob, 0, none⟩ ∧ tc = oc := by simpa using hr'
      have o0 := (hrd i hlt).1
      have HK := hide (hrd i hlt).2.2
      have hNi : Clk.N (P l) (F l) i ≤ i + 1 := Clk.N_le (P l) (F l) (F_lt l) i
      have hown := HO.out
      have HOC := hide (own_cells hown (by simp))
      clear hrd hr' HT HO
      go_wp2
      go_loop [9, 10] (fun x y => ∃ (k m : Nat), k ≤ i ∧ y = .int .i64 k ∧ x = .int .i64 m ∧ 1 ≤ m ∧ m ≤ Clk.N (P l) (F l) i ∧ Hid (∀ j, j < k → Clk.A (P l) (F l) i j → Clk.N (P l) (F l) j < m)) (fun _ y => i - (intOf y).toNat)
      case atStart => exact ⟨0, 1, Nat.zero_le _, rfl, rfl, Nat.le_refl _, Clk.N_pos (P l) (F l) (F_lt l) i, hide (fun j h => absurd h (by omega))⟩
      case round =>
        obtain ⟨k, m, hki, rfl, rfl, hm1, hm2, HM⟩ := hrel
        by_cases hlt2 : k < i
        · obtain ⟨ax, cx, hax, hac⟩ := HOC.out
          obtain ⟨g, hg', hBg, hgl, hcell⟩ := hac (by omega)
          obtain ⟨rfl, rfl⟩ : ao = ax ∧ c = cx := by simpa using hax
          subst hg'
          have x0 := HK.out.cell (show k < n by omega)
          have x1 : wo.cell? ⟨g, k, none⟩ = some (.int .i64 ((Clk.N (P l) (F l) k : Nat) : Int)) := hcell k _ (by rw [List.getElem?_map, List.getElem?_range hlt2]; rfl)
          have hNk : Clk.N (P l) (F l) k ≤ k + 1 := Clk.N_le (P l) (F l) (F_lt l) k
          clear hax hac hcell HOC
          cases hA : Ab l i k
          · have HM2 := hide (show ∀ j, j < k + 1 → Clk.A (P l) (F l) i j → Clk.N (P l) (F l) j < m from fun j hj hAj => by
              by_cases he : j = k
              · subst he; unfold Ab at hA; rw [decide_eq_false_iff_not] at hA; exact absurd hAj hA
              · exact HM.out j (by omega) hAj)
            simp only [hA] at x0
            clear HM hA hown
            go_wp2
            go_round
            case rel => exact ⟨k + 1, m, by omega, by go_num, rfl, hm1, hm2, HM2⟩
            case measure => simp [intOf]; omega
          · have hAk : Clk.A (P l) (F l) i k := by unfold Ab at hA; rw [decide_eq_true_eq] at hA; exact hA
            have hlN := Clk.A_N_lt (P l) (F l) (F_lt l) hAk
            simp only [hA] at x0
            clear hA
            by_cases hge : m ≤ Clk.N (P l) (F l) k
            · have HM2 := hide (show ∀ j, j < k + 1 → Clk.A (P l) (F l) i j → Clk.N (P l) (F l) j < Clk.N (P l) (F l) k + 1 from fun j hj hAj => by
                by_cases he : j = k
                · subst he; omega
                · have := HM.out j (by omega) hAj; omega)
              clear HM hown hAk
              generalize Clk.N (P l) (F l) k = Nk at *
              generalize hNi' : Clk.N (P l) (F l) i = Ni at *
              go_wp2
              go_round
              case rel => exact ⟨k + 1, Nk + 1, by omega, by go_num, by go_num, by omega, by omega, HM2⟩
              case measure => simp [intOf]; omega
            · have HM2 := hide (show ∀ j, j < k + 1 → Clk.A (P l) (F l) i j → Clk.N (P l) (F l) j < m from fun j hj hAj => by
                by_cases he : j = k
                · subst he; omega
                · exact HM.out j (by omega) hAj)
              clear HM hown hAk
              generalize Clk.N (P l) (F l) k = Nk at *
              generalize hNi' : Clk.N (P l) (F l) i = Ni at *
              go_wp2
              go_round
              case rel => exact ⟨k + 1, m, by omega, by go_num, rfl, hm1, hm2, HM2⟩
              case measure => simp [intOf]; omega
        · obtain rfl : k = i := by omega
          have hmN := Clk.N_least (P l) (F l) (F_lt l) k m hm1 hm2 HM.out
          have HS := hide (show (List.range (k + 1)).map (iv (Nf l)) = (List.range k).map (iv (Nf l)) ++ [.int .i64 (m : Int)] by rw [range_snoc]; unfold iv Nf; rw [hmN])
          have hsz := hbw.size
          clear HM HOC hmN
          go_wp2_with (at_builtin; refine wpList_append_own _ rfl _ _ 29 rfl w2.heap.size 3 i0 _ 1 8 Try.underlying29 hi hz0 hz1 hz2 rfl (by decide) _ k _ rfl (hown.alloc _) ⟨wo.heap.size, 0, none⟩ 1 1 [.int .i64 (m : Int)] rfl rfl ?c1 ?c2 ?c3 ?c4 ?c5 ?_)
          try (case c1 => exact news1 wo _ _)
          case c2 => first | rfl | (intro u hu; simp at hu; subst hu; rfl)
          case c3 => unfold maxLen; omega
          case c4 => omega
          case c5 => first | omega | (simp; omega)
          intro v' w4 hown4 hgrow _
          have hbw4 : Below w2.heap.size w2 w4 := (hbw.alloc hbw.size _).grown hgrow (by simp; omega) (fun j hj => (hown.lt j hj).1)
          obtain ⟨a4, c4, rfl⟩ := own_form hown4
          have HO4 := hide (show w4.ownsRow w2.heap.size 3 1 (.slice a4 (k + 1) c4) (k + 1) ((List.range (k + 1)).map (iv (Nf l))) by rw [HS.out]; exact hown4)
          clear hown4 hgrow hown
          go_wp2
          exact ⟨⟨k + 1, a4, c4, by omega, by go_num, rfl, HO4, hbw4⟩, by simp [intOf]; omega⟩
    · obtain rfl : i = n := by omega
      have hbf := hb2.trans (hbw.mono hb2.size)
      clear HT
      go_wp2
      go_ret2
      exact ⟨⟨_, rfl, own_ints HO.out⟩, hbf⟩
set_option maxHeartbeats 4000000 in
theorem impl_lam (p : Int) (v : Value) (n : Nat) (l : Nat → Ac) (w : World) (hv : ActsOf w v n l) (hg : GoodL p n l) :
    Calls Try.prog 19 #[.int .i64 p, v] w fun e w' => (∃ b, e = .returned (.tuple #[.slice (some ⟨b, 0, none⟩) n n, .bool true]) ∧ w.heap.size ≤ b ∧ Blk w' b n (iv (Nf l)) 3) ∧ Below w.heap.size w w' := by
  have HV := hide hv
  have hn : n ≤ 60 := hg.2.1
  have HG := hide hg
  obtain ⟨a, cap, rfl, hr⟩ := hv
  have HR := hide hr
  have hmk := make_ints n (by omega)
  clear hr hg
  go_enter Try.func19, Try.ntmps19
  go_wp2_with fail
  refine (impl_good_yes p _ n l _ HV.out HG.out).mono ?_
  rintro e w1 ⟨rfl, hb1⟩
  have hs1 := hb1.size
  clear HV
  go_wp2
  go_loopw [20] (fun y wr => ∃ i : Nat, i ≤ n ∧ y = .int .i64 i ∧ Hid (Blk wr w1.heap.size n (iv (cp (fun _ => 0) (Nf l) i)) 3) ∧ Hid (Blk wr (w1.heap.size + 1) 6 (iv (Lf l i)) 69) ∧ Below w1.heap.size w1 wr) (fun y _ => n - (intOf y).toNat)
  case atStart =>
    refine ⟨0, Nat.zero_le _, rfl, hide ?_, hide ?_, ((Below.refl _ _).alloc (Nat.le_refl _) _).alloc (by simp) _⟩
    · rw [cp_zero]; exact (Blk.new w1 n _ _).alloc _
    · have := Blk.new (w1.alloc (.cells (cf n (iv fun _ => 0)) 3)) 6 (iv fun _ => 0) 69
      rw [World.size_alloc] at this; rw [Lf_zero]; exact this
  case round =>
    rename World => wo
    obtain ⟨i, hin, rfl, HN, HL, hbw⟩ := hrel
    by_cases hlt : i < n
    · obtain ⟨b, off, rfl, hb, hrow⟩ := HR.out (by omega)
      obtain ⟨hP, hP6, _⟩ := good_P HG.out hlt
      have hbr : b < w1.heap.size := Nat.lt_of_lt_of_le hb hs1
      have c0 := (hbw.cell (p := ⟨b, off + i * 2, none⟩) hbr).trans ((hb1.cell (p := ⟨b, off + i * 2, none⟩) hb).trans (hrow i hlt).1)
      have c1 := (hbw.cell (p := ⟨b, off + i * 2 + 1, none⟩) hbr).trans ((hb1.cell (p := ⟨b, off + i * 2 + 1, none⟩) hb).trans (hrow i hlt).2)
      rw [hP] at c0
      have hsz := hbw.size
      have hlN := HN.out.lt
      have hlL := HL.out.lt
      have hNle : Clk.N (P l) (F l) i ≤ i + 1 := Clk.N_le (P l) (F l) (F_lt l) i
      have hLlt : Clk.LN (P l) (F l) i (P l i) < Clk.N (P l) (F l) i := Clk.LN_lt_N (P l) (F l) (F_lt l) i
      have H2 := hide (show ∀ (o : Obj) (x y : Int), x = Nf l i → y = Nf l i → Blk (((wo.setCell ⟨w1.heap.size, i, none⟩ (.int .i64 x)).setCell ⟨w1.heap.size + 1, P l i, none⟩ (.int .i64 y)).alloc o) w1.heap.size n (iv (cp (fun _ => 0) (Nf l) (i + 1))) 3 ∧ Blk (((wo.setCell ⟨w1.heap.size, i, none⟩ (.int .i64 x)).setCell ⟨w1.heap.size + 1, P l i, none⟩ (.int .i64 y)).alloc o) (w1.heap.size + 1) 6 (iv (Lf l (i + 1))) 69 ∧ Below w1.heap.size w1 (((wo.setCell ⟨w1.heap.size, i, none⟩ (.int .i64 x)).setCell ⟨w1.heap.size + 1, P l i, none⟩ (.int .i64 y)).alloc o) from fun o x y hx hy => by
        subst hx hy
        refine ⟨Blk.alloc ?_ o, Blk.alloc ?_ o, ((hbw.setCell (Nat.le_refl _) _).setCell (by simp) _).alloc (by simpa using hsz) o⟩
        · rw [← cp_succ]; exact (HN.out.set_int i (Nf l i)).set_other (by omega) _ _
        · rw [← Lf_succ]; exact (HL.out.set_other (by omega) _ _).set_int (P l i) (Nf l i))
      have d1 := HL.out.cell_ints hP6
      have d2 := HL.out.thaw (P l i)
      have d3 := HN.out.cell_ints hlt
      have d4 := HN.out.thaw i
      have hLv : Lf l i (P l i) = ((Clk.LN (P l) (F l) i (P l i) : Nat) : Int) := rfl
      have n1 : wo.heap.size ≠ w1.heap.size := by omega
      have n2 : w1.heap.size ≠ wo.heap.size := by omega
      have n3 : wo.heap.size ≠ w1.heap.size + 1 := by omega
      have n4 : w1.heap.size + 1 ≠ wo.heap.size := by omega
      rcases good_F HG.out hlt with ⟨hf, hF⟩ | ⟨k, hki, hf, hF⟩
      · have hNe := Clk.N_none (P l) (F l) i hF
        have hNv : Nf l i = ((Clk.LN (P l) (F l) i (P l i) : Nat) : Int) + 1 := by unfold Nf; rw [hNe]; rfl
        rw [hf] at c1
        rw [hLv] at d1
        clear hLv hNe hF hf HN HL hrow HR
        generalize Clk.LN (P l) (F l) i (P l i) = L at *
        generalize hNi : Clk.N (P l) (F l) i = Ni at *
        have hP0 : (0 : Int) ≤ ((P l i : Nat) : Int) := by omega
        have hP1 : ((P l i : Nat) : Int) < 6 := by omega
        go_wp2
        all_goals first
          | (exfalso; omega)
          | (obtain ⟨g1, g2, g3⟩ := H2.out (.cells #[.int .i64 ((P l i : Nat) : Int), .int .i64 (-1)] 54) ((L : Int) + 1) ((L : Int) + 1) hNv.symm hNv.symm
             exact ⟨⟨i + 1, by omega, by go_num, hide g1, hide g2, g3⟩, by simp [intOf]; omega⟩)
      · have hNe := Clk.N_some (P l) (F l) (F_lt l) i k hF
        rw [hf] at c1
        have d5 := HN.out.cell_ints (show k < n by omega)
        rw [show cp (fun _ => 0) (Nf l) i k = ((Clk.N (P l) (F l) k : Nat) : Int) by unfold cp; rw [if_pos hki]; rfl] at d5
        rw [hLv] at d1
        have hk1 : ((k : Int) != -1) = true := by simp
        have hNk : Clk.N (P l) (F l) k ≤ k + 1 := Clk.N_le (P l) (F l) (F_lt l) k
        have hP0 : (0 : Int) ≤ ((P l i : Nat) : Int) := by omega
        have hP1 : ((P l i : Nat) : Int) < 6 := by omega
        by_cases hgt : Clk.LN (P l) (F l) i (P l i) < Clk.N (P l) (F l) k
        · have hNv : Nf l i = ((Clk.N (P l) (F l) k : Nat) : Int) + 1 := by unfold Nf; rw [hNe]; omega
          have hgt2 : ((Clk.N (P l) (F l) k : Nat) : Int) > ((Clk.LN (P l) (F l) i (P l i) : Nat) : Int) := by omega
          clear hLv hNe hF hf HN HL hrow HR
          generalize Clk.LN (P l) (F l) i (P l i) = L at *
          generalize Clk.N (P l) (F l) k = Nk at *
          generalize hNi : Clk.N (P l) (F l) i = Ni at *
          go_wp2
          all_goals first
            | (exfalso; omega)
            | (obtain ⟨g1, g2, g3⟩ := H2.out (.cells #[.int .i64 ((P l i : Nat) : Int), .int .i64 (k : Int)] 54) ((Nk : Int) + 1) ((Nk : Int) + 1) hNv.symm hNv.symm
               exact ⟨⟨i + 1, by omega, by go_num, hide g1, hide g2, g3⟩, by simp [intOf]; omega⟩)
        · have hNv : Nf l i = ((Clk.LN (P l) (F l) i (P l i) : Nat) : Int) + 1 := by unfold Nf; rw [hNe]; omega
          have hgt2 : ¬ (((Clk.N (P l) (F l) k : Nat) : Int) > ((Clk.LN (P l) (F l) i (P l i) : Nat) : Int)) := by omega
          clear hLv hNe hF hf HN HL hrow HR
          generalize Clk.LN (P l) (F l) i (P l i) = L at *
          generalize Clk.N (P l) (F l) k = Nk at *
          generalize hNi : Clk.N (P l) (F l) i = Ni at *
          go_wp2
          all_goals first
            | (exfalso; omega)
            | (obtain ⟨g1, g2, g3⟩ := H2.out (.cells #[.int .i64 ((P l i : Nat) : Int), .int .i64 (k : Int)] 54) ((L : Int) + 1) ((L : Int) + 1) hNv.symm hNv.symm
               exact ⟨⟨i + 1, by omega, by go_num, hide g1, hide g2, g3⟩, by simp [intOf]; omega⟩)
    · obtain rfl : i = n := by omega
      have HB := hide (HN.out.ext (f' := iv (Nf l)) (fun j hj => by unfold iv cp; rw [if_pos hj]))
      have hbf := hb1.trans (hbw.mono hs1)
      clear HN HL HR HG
      go_wp2
      go_ret2
      exact ⟨⟨_, rfl, hs1, HB.out⟩, hbf⟩
end Go.Proofs.Ytlbcmlleoncddaa

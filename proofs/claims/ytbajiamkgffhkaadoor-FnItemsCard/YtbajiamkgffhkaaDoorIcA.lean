/-
  Items that are drawn.
-/
import Derived.Test.YtbajiamkgffhkaaDoorCw
import Derived.Test.YtbajiamkgffhkaaDoorItQ
namespace Go.Proofs.YtbajiamkgffhkaaDoor
open Go.RowKit M
open Clk (upd upd_same upd_other)
namespace M
theorem AnsT.but {w w' : World} {cb B n : Nat} {r : Value} {l : Nat → Im} (h : AnsT w B r n l) (hb : But cb w w') (hlt : cb < B) : AnsT w' B r n l := by
  rcases h with h | ⟨b, c, hr, hB, hc, k, hk, he⟩
  · exact .inl h
  · exact .inr ⟨b, c, hr, hB, hc, k, hb.blk hk (by omega), he⟩
theorem AnsT.roomy {w : World} {B n : Nat} {r : Value} {l : Nat → Im} (h : AnsT w B r n l) : ∃ a c, r = .slice a n c ∧ n ≤ c := by
  rcases h with ⟨rfl, rfl⟩ | ⟨b, c, rfl, _, hk⟩
  · exact ⟨_, _, rfl, Nat.le_refl _⟩
  · exact ⟨_, _, rfl, hk.1⟩
/-- Items that were drawn: at most 21, in memory from B on. -/
structure DI (B : Nat) (w : World) (e : Ending) : Prop where
  h : ∃ a cap n l, e = .returned (.slice a n cap) ∧ n ≤ 21 ∧ n ≤ cap ∧ AnsT w B (.slice a n cap) n l ∧ ∀ j, j < n → 0 ≤ (l j).u ∧ (l j).u ≤ 1001
def am3 : Nat → Int := fun i => if i = 0 then 0 else if i = 1 then 5 else 1001
theorem am3_bd (i : Nat) : 0 ≤ am3 i ∧ am3 i ≤ 1001 := by unfold am3; split <;> (try split) <;> omega
end M
set_option maxRecDepth 20000 in
set_option maxHeartbeats 8000000 in
theorem cur_items (B cb N : Nat) (w : World) (h : CurAt w B cb N) (hN : N ≤ 900000) :
    Calls Tryd.prog 38 #[.pointer (some ⟨cb, 0, none⟩)] w fun e w' => DI w.heap.size w' e ∧ CurAt w' B cb (N + 100) ∧ But cb w w' := by
  obtain ⟨i0, hi, hz0, hz1, hz2⟩ := info_parts info_item
  have hcl := h.lt
  have HC := hide h
  clear h
  go_enter Tryd.func38, Tryd.ntmps38
  go_wp2_with fail
  refine (cur_pick B cb N 3 _ HC.out (by omega) (by omega)).mono ?_
  rintro e w1 ⟨⟨x0, hx0, rfl⟩, hc1, ho1⟩
  have HC1 := hide hc1
  clear HC hc1
  go_wp2_with fail
  refine (cur_pick B cb (N + 1) 5 _ HC1.out (by omega) (by omega)).mono ?_
  rintro e w2 ⟨⟨x1, hx1, rfl⟩, hc2, ho2⟩
  have HC2 := hide hc2
  have hbt2 := ho1.trans ho2
  clear HC1 hc2 ho1 ho2
  go_wp2_with fail
  refine (cur_one B cb (N + 2) 20 _ HC2.out (by omega) (by omega)).mono ?_
  rintro e w3 ⟨⟨b3, rfl⟩, hc3, ho3⟩
  have HC3 := hide hc3
  have hbt3 := hbt2.trans ho3
  clear HC2 hc3 hbt2 ho3
  cases b3 with
  | false =>
    have HC4 := hide (HC3.out.more (show N + 2 + 1 ≤ N + 4 by omega))
    have hbt4 := hbt3
    clear HC3 hbt3
    go_wp2
    go_loopw [3, 4, 5, 6] (fun li di vi ci wr => ∃ (i cnt dv vv : Nat) (l : Nat → Im) (ao : Option Addr) (cp N' : Nat), i + cnt ≤ 21 ∧ N' + 2 * cnt ≤ N + 50 ∧ dv + 4 * cnt ≤ 100 ∧ vv + 3 * cnt ≤ 100 ∧ ci = .int .i64 (cnt : Int) ∧ di = .int .i64 (dv : Int) ∧ vi = .int .i64 (vv : Int) ∧ li = .slice ao i cp ∧ Hid (wr.ownsRow w.heap.size 57 2 (.slice ao i cp) i (tvs i l)) ∧ Hid (∀ j, j < i → 0 ≤ (l j).u ∧ (l j).u ≤ 1001) ∧ Hid (CurAt wr B cb N') ∧ But cb w wr) (fun _ _ _ c _ => (intOf c).toNat)
    case atStart => exact ⟨0, x1, 0, x0, fun _ => im0, none, 0, N + 4, by omega, by omega, by omega, by omega, rfl, rfl, rfl, rfl, hide (World.ownsRow_nil _ _ _ _), hide (fun j hj => absurd hj (by omega)), HC4, hbt4⟩
    case round =>
      rename World => wo
      obtain ⟨i, cnt, dv, vv, l, ao, cp, N', hic, hNc, hdv, hvv, rfl, rfl, rfl, rfl, HO, HL, HCr, hbt⟩ := hrel
      by_cases hcn : 0 < cnt
      · obtain ⟨cn, rfl⟩ : ∃ cn, cnt = cn + 1 := ⟨cnt - 1, by omega⟩
        have hgt : ((cn + 1 : Nat) : Int) > 0 := by omega
        go_wp2_with fail
        refine (cur_pick B cb N' 4 _ HCr.out (by omega) (by omega)).mono ?_
        rintro e w5 ⟨⟨x5, hx5, rfl⟩, hc5, ho5⟩
        have hbt5 := hbt.trans ho5
        have hsz5 := hbt5.size
        have hown := ho5.owns HO.out hcl
        have HC5 := hide hc5
        have hid : (dv : Int) + (1 + (x5 : Int)) = ((dv + (1 + x5) : Nat) : Int) := by omega
        have hidb : dv + (1 + x5) + 4 * cn ≤ 100 := by omega
        clear HO HCr hc5 ho5 hbt
        generalize dv + (1 + x5) = dw at *
        go_wp2_with (at_builtin; refine wpList_append_own _ rfl _ _ 24 rfl w.heap.size 57 i0 _ 2 16 Tryd.underlying24 hi hz0 hz1 hz2 rfl (by decide) _ i _ rfl (hown.alloc _) ⟨w5.heap.size, 0, none⟩ 1 1 [.int .i64 (dw : Int), .int .i64 (vv : Int)] rfl rfl (news2 w5 _ _ _) (one2 _ _) (by unfold maxLen; omega) (by omega) (by simp; omega) ?_)
        intro v' w6 hown6 hgrow _
        have hbt6 : But cb w w6 := (hbt5.trans (But.of_below ((Below.refl _ _).alloc (Nat.le_refl _) _))).grown hgrow (fun k hk => (hown.lt k hk).1)
        have HC6 := hide ((HC5.out.below ((Below.refl _ _).alloc (Nat.le_refl _) _)).grown (hown.alloc _) hcl hgrow)
        obtain ⟨a6, c6, rfl⟩ := own_form hown6
        rw [tvs_put i l ⟨(dw : Int), (vv : Int)⟩] at hown6
        have HO6 := hide hown6
        have HL6 := hide (show ∀ j, j < i + 1 → 0 ≤ (upd l i ⟨(dw : Int), (vv : Int)⟩ j).u ∧ (upd l i ⟨(dw : Int), (vv : Int)⟩ j).u ≤ 1001 from fun j hj => by
          by_cases e : j = i
          · subst e; rw [upd_same]; exact ⟨by show (0 : Int) ≤ (dw : Int); omega, by show (dw : Int) ≤ 1001; omega⟩
          · rw [upd_other _ _ _ _ e]; exact HL.out j (by omega))
        clear HL
        clear hown6 hgrow hown HC5 hbt5
        go_wp2_with fail
        refine (cur_pick B cb (N' + 1) 3 _ HC6.out (by omega) (by omega)).mono ?_
        rintro e w7 ⟨⟨x7, hx7, rfl⟩, hc7, ho7⟩
        have HO7 := hide (ho7.owns HO6.out hcl)
        have hbt7 := hbt6.trans ho7
        have HC7 := hide hc7
        clear HO6 hbt6 hc7 ho7 HC6
        go_wp2
        exact ⟨⟨i + 1, cn, dw, vv + (1 + x7), _, a6, c6, N' + 2, by omega, by omega, by omega, by omega, by go_num, rfl, by go_num, rfl, HO7, HL6, HC7, hbt7⟩, by simp [intOf]⟩
      · obtain rfl : cnt = 0 := by omega
        by_cases h1 : 0 < i
        · have h1' : decide ((i : Int) > 0) = true := decide_eq_true (by omega)
          have h1'' : (0 : Int) < (i : Int) := by omega
          go_wp2_with fail
          refine (cur_one B cb N' 30 _ HCr.out (by omega) (by omega)).mono ?_
          rintro e w5 ⟨⟨b5, rfl⟩, hc5, ho5⟩
          have hbt5 := hbt.trans ho5
          have hown := ho5.owns HO.out hcl
          have HC5 := hide hc5
          clear HO HCr hc5 ho5 hbt
          cases b5 with
          | false =>
            have HT := hide (own_ansT hown)
            have hle := own_le hown
            clear hown
            go_wp2
            go_ret
            exact ⟨⟨⟨_, _, i, l, rfl, by omega, hle, HT.out, HL.out⟩⟩, HC5.out.more (by omega), hbt5⟩
          | true =>
            have hle := own_le hown
            have hbs := HC5.out.base
            rcases own_ansT hown with ⟨-, h0⟩ | ⟨g, c, hform, hg, hO⟩
            · exact absurd h0 (by omega)
            cases hform
            have hal := (Below.refl w5.heap.size w5).alloc (Nat.le_refl _) (.cells #[.int .i64 0, .int .i64 5, .int .i64 1001] 3)
            have HB3 := hide (Blk.fresh w5 #[.int .i64 0, .int .i64 5, .int .i64 1001] 3 (iv am3) 3 rfl)
            have hlt5 := HC5.out.lt
            have HC6 := hide (HC5.out.below hal)
            have HO6 := hide (hO.down hal)
            have hbt6 := hbt5.trans (But.of_below hal)
            have hgl := hO.lt
            clear hown hO HC5 hbt5
            go_wp2_with fail
            refine (cur_amongn B cb (N' + 1) w5.heap.size 3 am3 _ HC6.out (by omega) HB3.out (by omega) (by omega) (by omega)).mono ?_
            rintro e w7 ⟨⟨x7, hx7, rfl⟩, hc7, ho7⟩
            have hO7 : OwnI w7 g i cp l := by
              obtain ⟨hc0, k, hk, he⟩ := HO6.out
              exact ⟨hc0, k, ho7.blk hk (by omega), he⟩
            have HC7 := hide (hc7.set (g := g) (by omega) (by omega) (0 * 2) (.int .i64 (am3 x7)))
            have hbt7 := (hbt6.trans ho7).set hg (0 * 2) (.int .i64 (am3 x7))
            have d0 := (hO7.cell (show 0 < i by omega)).1
            have f0 := hO7.thaw (0 * 2)
            have HO7 := hide (hO7.setU 0 (am3 x7))
            have HG := hide hg
            simp only [Nat.zero_mul] at d0 f0 HO7 HC7 hbt7
            have hmb := am3_bd x7
            have HL7 := hide (show ∀ j, j < i → 0 ≤ (upd l 0 ⟨am3 x7, (l 0).v⟩ j).u ∧ (upd l 0 ⟨am3 x7, (l 0).v⟩ j).u ≤ 1001 from fun j hj => by
              by_cases e : j = 0
              · subst e; rw [upd_same]; exact hmb
              · rw [upd_other _ _ _ _ e]; exact HL.out j hj)
            clear hmb HL
            generalize am3 x7 = mm at *
            clear HO6 hO7 HC6 hc7 ho7 hbt6 HB3 hal
            go_wp2
            go_ret
            exact ⟨⟨⟨_, _, i, _, rfl, by omega, hle, .inr ⟨g, cp, rfl, HG.out, HO7.out⟩, HL7.out⟩⟩, HC7.out.more (by omega), hbt7⟩
        · obtain rfl : i = 0 := by omega
          have HT := hide (own_ansT HO.out)
          have hle := own_le HO.out
          clear HO
          go_wp2
          go_ret
          exact ⟨⟨⟨_, _, 0, l, rfl, by omega, hle, HT.out, HL.out⟩⟩, HCr.out.more (by omega), hbt⟩
  | true =>
    go_wp2_with fail
    refine (cur_pick B cb (N + 2 + 1) 2 _ HC3.out (by omega) (by omega)).mono ?_
    rintro e w4 ⟨⟨x4, hx4, rfl⟩, hc4, ho4⟩
    have HC4 := hide hc4
    have hbt4 := hbt3.trans ho4
    clear HC3 hc4 hbt3 ho4
    go_wp2
    go_loopw [3, 4, 5, 6] (fun li di vi ci wr => ∃ (i cnt dv vv : Nat) (l : Nat → Im) (ao : Option Addr) (cp N' : Nat), i + cnt ≤ 21 ∧ N' + 2 * cnt ≤ N + 50 ∧ dv + 4 * cnt ≤ 100 ∧ vv + 3 * cnt ≤ 100 ∧ ci = .int .i64 (cnt : Int) ∧ di = .int .i64 (dv : Int) ∧ vi = .int .i64 (vv : Int) ∧ li = .slice ao i cp ∧ Hid (wr.ownsRow w.heap.size 57 2 (.slice ao i cp) i (tvs i l)) ∧ Hid (∀ j, j < i → 0 ≤ (l j).u ∧ (l j).u ≤ 1001) ∧ Hid (CurAt wr B cb N') ∧ But cb w wr) (fun _ _ _ c _ => (intOf c).toNat)
    case atStart => exact ⟨0, 20 + x4, 0, x0, fun _ => im0, none, 0, N + 4, by omega, by omega, by omega, by omega, by go_num, rfl, rfl, rfl, hide (World.ownsRow_nil _ _ _ _), hide (fun j hj => absurd hj (by omega)), HC4, hbt4⟩
    case round =>
      rename World => wo
      obtain ⟨i, cnt, dv, vv, l, ao, cp, N', hic, hNc, hdv, hvv, rfl, rfl, rfl, rfl, HO, HL, HCr, hbt⟩ := hrel
      by_cases hcn : 0 < cnt
      · obtain ⟨cn, rfl⟩ : ∃ cn, cnt = cn + 1 := ⟨cnt - 1, by omega⟩
        have hgt : ((cn + 1 : Nat) : Int) > 0 := by omega
        go_wp2_with fail
        refine (cur_pick B cb N' 4 _ HCr.out (by omega) (by omega)).mono ?_
        rintro e w5 ⟨⟨x5, hx5, rfl⟩, hc5, ho5⟩
        have hbt5 := hbt.trans ho5
        have hsz5 := hbt5.size
        have hown := ho5.owns HO.out hcl
        have HC5 := hide hc5
        have hid : (dv : Int) + (1 + (x5 : Int)) = ((dv + (1 + x5) : Nat) : Int) := by omega
        have hidb : dv + (1 + x5) + 4 * cn ≤ 100 := by omega
        clear HO HCr hc5 ho5 hbt
        generalize dv + (1 + x5) = dw at *
        go_wp2_with (at_builtin; refine wpList_append_own _ rfl _ _ 24 rfl w.heap.size 57 i0 _ 2 16 Tryd.underlying24 hi hz0 hz1 hz2 rfl (by decide) _ i _ rfl (hown.alloc _) ⟨w5.heap.size, 0, none⟩ 1 1 [.int .i64 (dw : Int), .int .i64 (vv : Int)] rfl rfl (news2 w5 _ _ _) (one2 _ _) (by unfold maxLen; omega) (by omega) (by simp; omega) ?_)
        intro v' w6 hown6 hgrow _
        have hbt6 : But cb w w6 := (hbt5.trans (But.of_below ((Below.refl _ _).alloc (Nat.le_refl _) _))).grown hgrow (fun k hk => (hown.lt k hk).1)
        have HC6 := hide ((HC5.out.below ((Below.refl _ _).alloc (Nat.le_refl _) _)).grown (hown.alloc _) hcl hgrow)
        obtain ⟨a6, c6, rfl⟩ := own_form hown6
        rw [tvs_put i l ⟨(dw : Int), (vv : Int)⟩] at hown6
        have HO6 := hide hown6
        have HL6 := hide (show ∀ j, j < i + 1 → 0 ≤ (upd l i ⟨(dw : Int), (vv : Int)⟩ j).u ∧ (upd l i ⟨(dw : Int), (vv : Int)⟩ j).u ≤ 1001 from fun j hj => by
          by_cases e : j = i
          · subst e; rw [upd_same]; exact ⟨by show (0 : Int) ≤ (dw : Int); omega, by show (dw : Int) ≤ 1001; omega⟩
          · rw [upd_other _ _ _ _ e]; exact HL.out j (by omega))
        clear HL
        clear hown6 hgrow hown HC5 hbt5
        go_wp2_with fail
        refine (cur_pick B cb (N' + 1) 3 _ HC6.out (by omega) (by omega)).mono ?_
        rintro e w7 ⟨⟨x7, hx7, rfl⟩, hc7, ho7⟩
        have HO7 := hide (ho7.owns HO6.out hcl)
        have hbt7 := hbt6.trans ho7
        have HC7 := hide hc7
        clear HO6 hbt6 hc7 ho7 HC6
        go_wp2
        exact ⟨⟨i + 1, cn, dw, vv + (1 + x7), _, a6, c6, N' + 2, by omega, by omega, by omega, by omega, by go_num, rfl, by go_num, rfl, HO7, HL6, HC7, hbt7⟩, by simp [intOf]⟩
      · obtain rfl : cnt = 0 := by omega
        by_cases h1 : 0 < i
        · have h1' : decide ((i : Int) > 0) = true := decide_eq_true (by omega)
          have h1'' : (0 : Int) < (i : Int) := by omega
          go_wp2_with fail
          refine (cur_one B cb N' 30 _ HCr.out (by omega) (by omega)).mono ?_
          rintro e w5 ⟨⟨b5, rfl⟩, hc5, ho5⟩
          have hbt5 := hbt.trans ho5
          have hown := ho5.owns HO.out hcl
          have HC5 := hide hc5
          clear HO HCr hc5 ho5 hbt
          cases b5 with
          | false =>
            have HT := hide (own_ansT hown)
            have hle := own_le hown
            clear hown
            go_wp2
            go_ret
            exact ⟨⟨⟨_, _, i, l, rfl, by omega, hle, HT.out, HL.out⟩⟩, HC5.out.more (by omega), hbt5⟩
          | true =>
            have hle := own_le hown
            have hbs := HC5.out.base
            rcases own_ansT hown with ⟨-, h0⟩ | ⟨g, c, hform, hg, hO⟩
            · exact absurd h0 (by omega)
            cases hform
            have hal := (Below.refl w5.heap.size w5).alloc (Nat.le_refl _) (.cells #[.int .i64 0, .int .i64 5, .int .i64 1001] 3)
            have HB3 := hide (Blk.fresh w5 #[.int .i64 0, .int .i64 5, .int .i64 1001] 3 (iv am3) 3 rfl)
            have hlt5 := HC5.out.lt
            have HC6 := hide (HC5.out.below hal)
            have HO6 := hide (hO.down hal)
            have hbt6 := hbt5.trans (But.of_below hal)
            have hgl := hO.lt
            clear hown hO HC5 hbt5
            go_wp2_with fail
            refine (cur_amongn B cb (N' + 1) w5.heap.size 3 am3 _ HC6.out (by omega) HB3.out (by omega) (by omega) (by omega)).mono ?_
            rintro e w7 ⟨⟨x7, hx7, rfl⟩, hc7, ho7⟩
            have hO7 : OwnI w7 g i cp l := by
              obtain ⟨hc0, k, hk, he⟩ := HO6.out
              exact ⟨hc0, k, ho7.blk hk (by omega), he⟩
            have HC7 := hide (hc7.set (g := g) (by omega) (by omega) (0 * 2) (.int .i64 (am3 x7)))
            have hbt7 := (hbt6.trans ho7).set hg (0 * 2) (.int .i64 (am3 x7))
            have d0 := (hO7.cell (show 0 < i by omega)).1
            have f0 := hO7.thaw (0 * 2)
            have HO7 := hide (hO7.setU 0 (am3 x7))
            have HG := hide hg
            simp only [Nat.zero_mul] at d0 f0 HO7 HC7 hbt7
            have hmb := am3_bd x7
            have HL7 := hide (show ∀ j, j < i → 0 ≤ (upd l 0 ⟨am3 x7, (l 0).v⟩ j).u ∧ (upd l 0 ⟨am3 x7, (l 0).v⟩ j).u ≤ 1001 from fun j hj => by
              by_cases e : j = 0
              · subst e; rw [upd_same]; exact hmb
              · rw [upd_other _ _ _ _ e]; exact HL.out j hj)
            clear hmb HL
            generalize am3 x7 = mm at *
            clear HO6 hO7 HC6 hc7 ho7 hbt6 HB3 hal
            go_wp2
            go_ret
            exact ⟨⟨⟨_, _, i, _, rfl, by omega, hle, .inr ⟨g, cp, rfl, HG.out, HO7.out⟩, HL7.out⟩⟩, HC7.out.more (by omega), hbt7⟩
        · obtain rfl : i = 0 := by omega
          have HT := hide (own_ansT HO.out)
          have hle := own_le HO.out
          clear HO
          go_wp2
          go_ret
          exact ⟨⟨⟨_, _, 0, l, rfl, by omega, hle, HT.out, HL.out⟩⟩, HCr.out.more (by omega), hbt⟩
end Go.Proofs.YtbajiamkgffhkaaDoor

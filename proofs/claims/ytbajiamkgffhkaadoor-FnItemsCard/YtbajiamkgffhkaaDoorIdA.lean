/-
  Events that are drawn.
-/
import Derived.Test.YtbajiamkgffhkaaDoorIcA
import Derived.Test.YtbajiamkgffhkaaDoorItV
import Derived.Test.YtbajiamkgffhkaaDoorEvM
import Derived.Deep.RegionWith
namespace Go.Proofs.YtbajiamkgffhkaaDoor
open Go.RowKit M
open Clk (upd upd_same upd_other)
namespace M
/-- The cells of events, place by place. -/
def ew (l : Nat → Ev) : Nat → Value := fun j => if j % 4 = 0 then .int .i64 (l (j / 4)).id else if j % 4 = 1 then .int .i64 (l (j / 4)).ver else if j % 4 = 2 then .int .i64 (l (j / 4)).kind else .string (l (j / 4)).name
theorem ew_0 (l : Nat → Ev) (i : Nat) : ew l (i * 4) = .int .i64 (l i).id := by
  unfold ew; rw [if_pos (by omega), show i * 4 / 4 = i by omega]
theorem ew_1 (l : Nat → Ev) (i : Nat) : ew l (i * 4 + 1) = .int .i64 (l i).ver := by
  unfold ew; rw [if_neg (by omega), if_pos (by omega), show (i * 4 + 1) / 4 = i by omega]
theorem ew_2 (l : Nat → Ev) (i : Nat) : ew l (i * 4 + 2) = .int .i64 (l i).kind := by
  unfold ew; rw [if_neg (by omega), if_neg (by omega), if_pos (by omega), show (i * 4 + 2) / 4 = i by omega]
theorem ew_3 (l : Nat → Ev) (i : Nat) : ew l (i * 4 + 3) = .string (l i).name := by
  unfold ew; rw [if_neg (by omega), if_neg (by omega), if_neg (by omega), show (i * 4 + 3) / 4 = i by omega]
def ews (n : Nat) (l : Nat → Ev) : List Value := (List.range (n * 4)).map (ew l)
theorem ews_len (n : Nat) (l : Nat → Ev) : (ews n l).length = n * 4 := by simp [ews]
theorem ews_get {n : Nat} {l : Nat → Ev} {q : Nat} (h : q < n * 4) : (ews n l)[q]? = some (ew l q) := by simp [ews, h]
theorem ews_put (n : Nat) (l : Nat → Ev) (x : Ev) : ews n l ++ [.int .i64 x.id, .int .i64 x.ver, .int .i64 x.kind, .string x.name] = ews (n + 1) (upd l n x) := by
  have e1 : ews n l = ews n (upd l n x) := by
    unfold ews
    exact List.map_congr_left fun j hj => by
      have := List.mem_range.1 hj
      unfold ew; rw [upd_other _ _ _ _ (show j / 4 ≠ n by omega)]
  rw [e1]
  unfold ews
  rw [show (n + 1) * 4 = n * 4 + 1 + 1 + 1 + 1 by omega, List.range_succ, List.range_succ, List.range_succ, List.range_succ]
  simp [ew_0, ew_1, ew_2, ew_3, upd_same]
/-- n events at the head of a block of the call's own. -/
def OwnV (w : World) (b n c : Nat) (l : Nat → Ev) : Prop := n ≤ c ∧ ∃ h : Nat → Value, Blk w b (c * 4) h 37 ∧ ∀ q, q < n * 4 → h q = ew l q
theorem OwnV.lt {w : World} {b n c : Nat} {l : Nat → Ev} (h : OwnV w b n c l) : b < w.heap.size := by
  obtain ⟨_, k, hb, _⟩ := h; exact hb.lt
theorem OwnV.cellq {w : World} {b n c : Nat} {l : Nat → Ev} (h : OwnV w b n c l) {q : Nat} (hq : q < n * 4) : w.cell? ⟨b, q, none⟩ = some (ew l q) := by
  obtain ⟨hc, k, hb, hk⟩ := h
  rw [← hk q hq]; exact hb.cell (by omega)
theorem OwnV.thaw {w : World} {b n c : Nat} {l : Nat → Ev} (h : OwnV w b n c l) (q : Nat) : w.frozen? ⟨b, q, none⟩ = false := by
  obtain ⟨hc, k, hb, hk⟩ := h; exact hb.thaw q
theorem OwnV.but {w w' : World} {cb b n c : Nat} {l : Nat → Ev} (h : OwnV w b n c l) (hb : But cb w w') (hne : b ≠ cb) : OwnV w' b n c l := by
  obtain ⟨hc, k, hk, he⟩ := h
  exact ⟨hc, k, hb.blk hk hne, he⟩
theorem ew_set {l l' : Nat → Ev} {i q : Nat} {v : Value} (hs : ew l' q = v) (ho : ∀ j, j ≠ q → ew l' j = ew l j) (j : Nat) (_ : i = i) : upd (ew l) q v j = ew l' j := by
  by_cases e : j = q
  · subst e; rw [upd_same, hs]
  · rw [upd_other _ _ _ _ e, ho j e]
theorem OwnV.setQ {w : World} {b n c : Nat} {l l' : Nat → Ev} (h : OwnV w b n c l) (q : Nat) (v : Value) (hs : ew l' q = v) (ho : ∀ j, j ≠ q → ew l' j = ew l j) : OwnV (w.setCell ⟨b, q, none⟩ v) b n c l' := by
  obtain ⟨hc, k, hk, he⟩ := h
  refine ⟨hc, _, hk.set q v, fun j hj => ?_⟩
  by_cases e : j = q
  · subst e; rw [upd_same, hs]
  · rw [upd_other _ _ _ _ e, ho j e]; exact he j hj
theorem OwnV.setVer {w : World} {b n c : Nat} {l : Nat → Ev} (h : OwnV w b n c l) (i : Nat) (x : Int) : OwnV (w.setCell ⟨b, i * 4 + 1, none⟩ (.int .i64 x)) b n c (upd l i { l i with ver := x }) := by
  refine h.setQ _ _ (by rw [ew_1, upd_same]) (fun j hj => ?_)
  by_cases e : j / 4 = i
  · unfold ew
    rw [e, upd_same]
    have : ¬ j % 4 = 1 := by omega
    simp [this]
  · unfold ew; rw [upd_other _ _ _ _ e]
theorem OwnV.setId {w : World} {b n c : Nat} {l : Nat → Ev} (h : OwnV w b n c l) (i : Nat) (x : Int) : OwnV (w.setCell ⟨b, i * 4, none⟩ (.int .i64 x)) b n c (upd l i { l i with id := x }) := by
  refine h.setQ _ _ (by rw [ew_0, upd_same]) (fun j hj => ?_)
  by_cases e : j / 4 = i
  · unfold ew
    rw [e, upd_same]
    have : ¬ j % 4 = 0 := by omega
    simp [this]
  · unfold ew; rw [upd_other _ _ _ _ e]
/-- Events as an answer. -/
def AnsV (w : World) (B : Nat) (r : Value) (n : Nat) (l : Nat → Ev) : Prop := (r = .slice none 0 0 ∧ n = 0) ∨ ∃ b c, r = .slice (some ⟨b, 0, none⟩) n c ∧ B ≤ b ∧ OwnV w b n c l
theorem own_ansV {w : World} {B n : Nat} {v : Value} {l : Nat → Ev} (h : w.ownsRow B 37 4 v n (ews n l)) : AnsV w B v n l := by
  rcases h.2 with ⟨hv, h0⟩ | ⟨g, cap, cur, rfl, hB, hg, hc, hm, hs, ht⟩
  · exact .inl ⟨hv, h0⟩
  · refine .inr ⟨g, cap, rfl, hB, hc, fun i => cur.getD i undef, ?_, fun i hi => ?_⟩
    · have := blk_of hg
      rw [hs] at this
      exact this
    · have h1 : (ews n l)[i]? = some (ew l i) := ews_get hi
      rw [← ht, List.getElem?_take_of_lt (by omega), Array.getElem?_toList] at h1
      have : i < cur.size := by omega
      simp [Array.getD, this] at h1 ⊢
      exact h1
def evL (n : Nat) (l : Nat → Ev) : List Ev := (List.range n).map l
theorem evL_len (n : Nat) (l : Nat → Ev) : (evL n l).length = n := by simp [evL]
theorem evL_get {n : Nat} {l : Nat → Ev} {i : Nat} {e : Ev} (h : (evL n l)[i]? = some e) : i < n ∧ e = l i := by
  have hi : i < n := by
    have := (List.getElem?_eq_some_iff.1 h).1
    rwa [evL_len] at this
  simp [evL, hi] at h
  exact ⟨hi, h.symm⟩
theorem AnsV.slice {w : World} {B n : Nat} {r : Value} {l : Nat → Ev} (h : AnsV w B r n l) : SliceOf w r (evL n l) := by
  rcases h with ⟨rfl, rfl⟩ | ⟨b, c, rfl, _, hO⟩
  · exact ⟨none, 0, rfl, fun h => absurd rfl h⟩
  · refine ⟨some ⟨b, 0, none⟩, c, by rw [evL_len], fun _ => ⟨b, 0, rfl, hO.lt, fun i e he => ?_⟩⟩
    obtain ⟨hi, rfl⟩ := evL_get he
    rw [Nat.zero_add]
    exact ⟨by rw [hO.cellq (by omega), ew_0], by rw [hO.cellq (by omega), ew_1], by rw [hO.cellq (by omega), ew_2], by rw [hO.cellq (by omega), ew_3]⟩
theorem news4 (w : World) (c0 c1 c2 c3 : Value) (t : TypeId) : ∀ (j : Nat) u, [c0, c1, c2, c3][j]? = some u → (w.alloc (.cells #[c0, c1, c2, c3] t)).cell? ((⟨w.heap.size, 0, none⟩ : Addr).add j) = some u := by
  intro j u hj
  match j, hj with
  | 0, hj => simp at hj; subst hj; simp [Addr.add]
  | 1, hj => simp at hj; subst hj; simp [Addr.add]
  | 2, hj => simp at hj; subst hj; simp [Addr.add]
  | 3, hj => simp at hj; subst hj; simp [Addr.add]
theorem one4 (x y z : Int) (s : ByteArray) : ∀ u ∈ [(.int .i64 x : Value), .int .i64 y, .int .i64 z, .string s], u.oneCell' = true := by
  intro u hu; simp at hu; rcases hu with rfl | rfl | rfl | rfl <;> rfl
theorem CurAt.drew {w : World} {B cb N : Nat} (h : CurAt w B cb N) : CurAt w.drew B cb N := h.below (Below.refl _ _).drew
theorem But.of_drew {cb : Nat} {w w' : World} (h : But cb w.drew w') : But cb w w' := ⟨h.os, h.tape, h.output, h.size, h.block⟩
abbrev nmA : ByteArray := ⟨#[97]⟩
/-- Events that were drawn. -/
structure DE (B : Nat) (w : World) (e : Ending) : Prop where
  h : ∃ a cap n l, e = .returned (.slice a n cap) ∧ n ≤ 10 ∧ AnsV w B (.slice a n cap) n l ∧ ∀ i, i < n → (l i).name = nmA
end M
set_option maxRecDepth 20000 in
set_option maxHeartbeats 8000000 in
theorem draw_events (v : Value) (nb : Nat) (fb : Nat → Nat) (w : World) (hv : OctetsOf w v nb fb) (hnb : nb ≤ 1048576) :
    Calls Tryd.prog 14 #[v] w fun e w' => DE w.heap.size w' e ∧ Below w.heap.size w w' := by
  obtain ⟨i0, hi, hz0, hz1, hz2⟩ := info_parts info_ev
  obtain ⟨av, cv, rfl⟩ := hv.form
  have hal := (Below.refl w.heap.size w).alloc (Nat.le_refl _) (.cells #[.slice av nb cv, .int .i64 0, .int .u64 0] 63)
  have hC : CurAt (w.alloc (.cells #[.slice av nb cv, .int .i64 0, .int .u64 0] 63)) w.heap.size w.heap.size 0 := by
    have hb := Blk.fresh w #[.slice av nb cv, .int .i64 0, .int .u64 0] 3 (cu (.slice av nb cv) (0 : Nat) 0) 63 rfl
    exact ⟨_, nb, fb, 0, 0, Nat.le_refl _, hnb, Nat.le_refl _, hb, w, rfl, hv, hal⟩
  have HC := hide hC
  obtain ⟨cb, hcb⟩ : ∃ cb, w.heap.size = cb := ⟨_, rfl⟩
  have HAL := hide hal
  have hs0 : (w.alloc (.cells #[.slice av nb cv, .int .i64 0, .int .u64 0] 63)).heap.size = w.heap.size + 1 := by simp
  have HS0 := hide hs0
  clear hC hv hcb cb hal hs0
  go_enter Tryd.func14, Tryd.ntmps14
  go_wp2_with fail
  refine (cur_pick w.heap.size w.heap.size 0 4 _ HC.out (by omega) (by omega)).mono ?_
  rintro e w1 ⟨⟨x0, hx0, rfl⟩, hc1, ho1⟩
  have HC1 := hide hc1
  clear HC hc1
  go_wp2_with fail
  refine (cur_pick w.heap.size w.heap.size 1 10 _ HC1.out (by omega) (by omega)).mono ?_
  rintro e w2 ⟨⟨x1, hx1, rfl⟩, hc2, ho2⟩
  have HC2 := hide hc2
  have hbt2 := ho1.trans ho2
  clear HC1 hc2 ho1 ho2
  obtain ⟨WA, hWA⟩ : ∃ WA, w.alloc (.cells #[.slice av nb cv, .int .i64 0, .int .u64 0] 63) = WA := ⟨_, rfl⟩
  rw [hWA] at HAL HS0 hbt2
  have hcl : w.heap.size < WA.heap.size := by have := HS0.out; omega
  clear hWA
  go_wp2
  go_loopw [4, 5, 6] (fun li vi ci wr => ∃ (i cnt vv : Nat) (l : Nat → Ev) (ao : Option Addr) (cp N' : Nat), i + cnt ≤ 10 ∧ N' + 3 * cnt ≤ 100 ∧ vv + 4 * cnt ≤ 100 ∧ ci = .int .i64 (cnt : Int) ∧ vi = .int .i64 (vv : Int) ∧ li = .slice ao i cp ∧ Hid (wr.ownsRow WA.heap.size 37 4 (.slice ao i cp) i (ews i l)) ∧ Hid (∀ j, j < i → (l j).name = nmA ∧ 0 ≤ (l j).id ∧ (l j).id ≤ 11) ∧ Hid (CurAt wr w.heap.size w.heap.size N') ∧ But w.heap.size WA wr) (fun _ _ c _ => (intOf c).toNat)
  case atStart => exact ⟨0, x1, x0, fun _ => e0, none, 0, 2, by omega, by omega, by omega, rfl, rfl, rfl, hide (World.ownsRow_nil _ _ _ _), hide (fun j hj => absurd hj (by omega)), HC2, hbt2⟩
  case round =>
    rename World => wo
    obtain ⟨i, cnt, vv, l, ao, cp, N', hic, hNc, hvv, rfl, rfl, rfl, HO, HL, HCr, hbt⟩ := hrel
    clear HC2 hbt2
    by_cases hcn : 0 < cnt
    · obtain ⟨cn, rfl⟩ : ∃ cn, cnt = cn + 1 := ⟨cnt - 1, by omega⟩
      have hgt : ((cn + 1 : Nat) : Int) > 0 := by omega
      go_wp2_with fail
      refine (cur_pick w.heap.size w.heap.size N' 2 _ HCr.out (by omega) (by omega)).mono ?_
      rintro e w5 ⟨⟨x5, hx5, rfl⟩, hc5, ho5⟩
      have HC5 := hide hc5
      have hbt5 := hbt.trans ho5
      have HO5 := hide (ho5.owns HO.out hcl)
      clear HO HCr hc5 ho5 hbt
      go_wp2_with fail
      refine (cur_pick w.heap.size w.heap.size (N' + 1) 3 _ HC5.out (by omega) (by omega)).mono ?_
      rintro e w6 ⟨⟨x6, hx6, rfl⟩, hc6, ho6⟩
      have HC6 := hide hc6
      have hbt6 := hbt5.trans ho6
      have HO6 := hide (ho6.owns HO5.out hcl)
      have hmul : (x5 : Int) * (x6 : Int) = ((x5 * x6 : Nat) : Int) := by simp
      have hmb : x5 * x6 ≤ 4 := by
        have h1 : x5 ≤ 1 := by omega
        have h2 : x6 ≤ 2 := by omega
        exact Nat.le_trans (Nat.mul_le_mul h1 h2) (by omega)
      clear HO5 HC5 hc6 ho6 hbt5
      generalize x5 * x6 = xm at *
      go_wp2_with fail
      refine (cur_pick w.heap.size w.heap.size (N' + 2) 6 _ HC6.out (by omega) (by omega)).mono ?_
      rintro e w7 ⟨⟨x7, hx7, rfl⟩, hc7, ho7⟩
      have HC7 := hide hc7
      have hbt7 := hbt6.trans ho7
      have hown := ho7.owns HO6.out hcl
      have hsz7 := hbt7.size
      have hvx : (vv : Int) + (xm : Int) = ((vv + xm : Nat) : Int) := by omega
      have hvb : vv + xm + 4 * cn ≤ 100 := by omega
      clear HO6 HC6 hc7 ho7 hbt6 hmul hx5 hx6
      generalize vv + xm = vw at *
      go_wp2_with (at_builtin; refine wpList_append_own _ rfl _ _ 27 rfl WA.heap.size 37 i0 _ 4 40 Tryd.underlying27 hi hz0 hz1 hz2 rfl (by decide) _ i _ rfl (hown.alloc _) ⟨w7.heap.size, 0, none⟩ 1 1 [.int .i64 ((i : Int) + 1), .int .i64 (vw : Int), .int .i64 (1 + (x7 : Int)), .string nmA] rfl rfl (news4 w7 _ _ _ _ _) (one4 _ _ _ _) (by unfold maxLen; omega) (by omega) (by simp; omega) ?_)
      intro v' w8 hown8 hgrow _
      have hbt8 : But w.heap.size WA w8 := (hbt7.trans (But.of_below ((Below.refl _ _).alloc (Nat.le_refl _) _))).grown hgrow (fun k hk => (hown.lt k hk).1)
      have HC8 := hide ((HC7.out.below ((Below.refl _ _).alloc (Nat.le_refl _) _)).grown (hown.alloc _) hcl hgrow)
      obtain ⟨a8, c8, rfl⟩ := own_form hown8
      rw [ews_put i l ⟨(i : Int) + 1, (vw : Int), 1 + (x7 : Int), nmA⟩] at hown8
      have HO8 := hide hown8
      have HL8 := hide (show ∀ j, j < i + 1 → (upd l i ⟨(i : Int) + 1, (vw : Int), 1 + (x7 : Int), nmA⟩ j).name = nmA ∧ 0 ≤ (upd l i ⟨(i : Int) + 1, (vw : Int), 1 + (x7 : Int), nmA⟩ j).id ∧ (upd l i ⟨(i : Int) + 1, (vw : Int), 1 + (x7 : Int), nmA⟩ j).id ≤ 11 from fun j hj => by
        by_cases e : j = i
        · subst e; rw [upd_same]; exact ⟨rfl, by show 0 ≤ (j : Int) + 1; omega, by show (j : Int) + 1 ≤ 11; omega⟩
        · rw [upd_other _ _ _ _ e]; exact HL.out j (by omega))
      clear hown8 hgrow hown HC7 hbt7 HL
      go_wp2
      exact ⟨⟨i + 1, cn, vw, _, a8, c8, N' + 3, by omega, by omega, by omega, by go_num, rfl, rfl, HO8, HL8, HC8, hbt8⟩, by simp [intOf]⟩
    · obtain rfl : cnt = 0 := by omega
      by_cases h1 : 0 < i
      · have h1' : decide ((i : Int) > 0) = true := decide_eq_true (by omega)
        have h1'' : (0 : Int) < (i : Int) := by omega
        go_wp2_with fail
        refine (cur_one w.heap.size w.heap.size N' 12 _ HCr.out (by omega) (by omega)).mono ?_
        rintro e w5 ⟨⟨b5, rfl⟩, hc5, ho5⟩
        have hbt5 := hbt.trans ho5
        have HOV := hide (own_ansV (ho5.owns HO.out hcl))
        have HC5 := hide hc5
        clear HO HCr hc5 ho5 hbt
        cases b5 with
        | false =>
          have HF := hide (show AnsV w5 w.heap.size (.slice ao i cp) i l ∧ Below w.heap.size w w5 from ⟨by
            rcases HOV.out with h | ⟨b, c, h, hb, hO⟩
            · exact .inl h
            · exact .inr ⟨b, c, h, by omega, hO⟩, HAL.out.trans (hbt5.below (Nat.le_refl _) (by omega))⟩)
          clear HOV hbt5 HC5
          go_wp2
          go_ret
          exact ⟨⟨⟨_, _, i, l, rfl, by omega, HF.out.1, fun j hj => (HL.out j hj).1⟩⟩, HF.out.2⟩
        | true =>
          rcases HOV.out with ⟨-, h0⟩ | ⟨g, c, hform, hg, hO⟩
          · exact absurd h0 (by omega)
          cases hform
          have HO5 := hide hO
          have hgc : g ≠ w.heap.size := by omega
          clear HOV hO
          go_wp2_with fail
          refine (cur_pick w.heap.size w.heap.size (N' + 1) i _ HC5.out (by omega) (by omega)).mono ?_
          rintro e w6 ⟨⟨k, hk, rfl⟩, hc6, ho6⟩
          have hki : k < i := by omega
          have HC6 := hide hc6
          have HO6 := hide (HO5.out.but ho6 hgc)
          have hbt6 := hbt5.trans ho6
          clear HC5 HO5 hc6 ho6 hbt5 hk
          go_wp2_with fail
          refine (cur_pick w.heap.size w.heap.size (N' + 2) 5 _ HC6.out (by omega) (by omega)).mono ?_
          rintro e w7 ⟨⟨y, hy, rfl⟩, hc7, ho7⟩
          have hO7 := HO6.out.but ho7 hgc
          have d1 := hO7.cellq (show k * 4 + 1 < i * 4 by omega)
          rw [ew_1] at d1
          have f1 := hO7.thaw (k * 4 + 1)
          have hk0 : (0 : Int) ≤ (k : Int) := by omega
          have hk1 : (k : Int) < (i : Int) := by omega
          obtain ⟨l2, hl2⟩ : ∃ l2, upd l k { l k with ver := (y : Int) } = l2 := ⟨_, rfl⟩
          have HS7 := hide (hO7.setVer k (y : Int))
          have HL2 := hide (show ∀ j, j < i → (l2 j).name = nmA ∧ 0 ≤ (l2 j).id ∧ (l2 j).id ≤ 11 from fun j hj => by
            rw [← hl2]
            by_cases e : j = k
            · subst e; rw [upd_same]; exact HL.out j hj
            · rw [upd_other _ _ _ _ e]; exact HL.out j hj)
          rw [hl2] at HS7
          have HC7 := hide (hc7.set (g := g) hgc (by omega) (k * 4 + 1) (.int .i64 (y : Int)))
          have hbt7 := (hbt6.trans ho7).set hg (k * 4 + 1) (.int .i64 (y : Int))
          clear HC6 HO6 hO7 hc7 ho7 hbt6 HL hl2
          have hid := HL2.out k hki
          obtain ⟨-, hid0, hid1⟩ := hid
          go_wp2
          generalize w7.setCell ⟨g, k * 4 + 1, none⟩ (.int .i64 (y : Int)) = WX at *
          have d0 := HS7.out.cellq (show k * 4 < i * 4 by omega)
          rw [ew_0] at d0
          have f0 := HS7.out.thaw (k * 4)
          clear d1 f1
          go_region_with (go_at_call 33; refine (cur_pick w.heap.size w.heap.size (N' + 3) 2 _ (CurAt.drew HC7.out) (by omega) (by omega)).mono ?_; rintro e wp ⟨⟨z, hz, rfl⟩, hcp, hop⟩; have hOp := HS7.out.but (But.of_drew hop) hgc; have d0p := hOp.cellq (show k * 4 < i * 4 by omega); rw [ew_0] at d0p; have f0p := hOp.thaw (k * 4))
          all_goals
            have HZ := hide (hOp.setId k (IntKind.i64.wrap ((l2 k).id + (z : Int))))
            have hbz := ((hbt7.trans (But.of_drew hop)).set hg (k * 4) (.int .i64 (IntKind.i64.wrap ((l2 k).id + (z : Int)))))
            have HF := hide (HAL.out.trans (hbz.below (Nat.le_refl _) (by omega)))
            clear hOp d0p f0p hop hcp hbz d0 f0
            go_wp2
            go_ret
            exact ⟨⟨⟨_, _, i, _, rfl, by omega, .inr ⟨g, cp, rfl, by omega, HZ.out⟩, fun j hj => by
              by_cases e : j = k
              · subst e; rw [upd_same]; exact (HL2.out j hj).1
              · rw [upd_other _ _ _ _ e]; exact (HL2.out j hj).1⟩⟩, HF.out⟩
      · obtain rfl : i = 0 := by omega
        have HF := hide (show AnsV wo w.heap.size (.slice ao 0 cp) 0 l ∧ Below w.heap.size w wo from ⟨by
          rcases own_ansV HO.out with h | ⟨b, c, h, hb, hO⟩
          · exact .inl h
          · exact .inr ⟨b, c, h, by omega, hO⟩, HAL.out.trans (hbt.below (Nat.le_refl _) (by omega))⟩)
        clear HO HCr hbt
        go_wp2
        go_ret
        exact ⟨⟨⟨_, _, 0, l, rfl, by omega, HF.out.1, fun j hj => absurd hj (by omega)⟩⟩, HF.out.2⟩
end Go.Proofs.YtbajiamkgffhkaaDoor

/-
  AppendItem of the program: one more event behind good items.
-/
import Derived.Test.YtbajiamkgffhkaaDoorItG
import Derived.ArgAppend
namespace Go.Proofs.YtbajiamkgffhkaaDoor
open Go.RowKit M
open Clk (upd upd_same upd_other)
namespace M
theorem items_holds {w : World} {a : Option Addr} {n cap K : Nat} {l : Nat → Im} (h : ItemsOf w (.slice a n cap) n l) (hK : K ≤ n) : ∀ b : Addr, a = some b → ∀ j u, (tvs K l)[j]? = some u → w.cell? (b.add j) = some u := by
  intro b hb j u hj
  have hjl : j < K * 2 := by
    have := (List.getElem?_eq_some_iff.1 hj).1
    rwa [tvs_len] at this
  rw [tvs_get hjl] at hj
  obtain rfl : tv l j = u := by simpa using hj
  obtain ⟨a', cap', hv, hr⟩ := h
  obtain ⟨b', off, ha, hlt, hrow⟩ := hr (by omega)
  cases hv
  rw [hb] at ha
  cases ha
  have e : (⟨b', off, none⟩ : Addr).add j = ⟨b', off + j, none⟩ := by simp [Addr.add]
  rw [e]
  obtain ⟨c0, c1⟩ := hrow (j / 2) (by omega)
  rcases (show j % 2 = 0 ∨ j % 2 = 1 by omega) with q | q
  · rw [show j = j / 2 * 2 by omega, tv_even]; exact c0
  · rw [show j = j / 2 * 2 + 1 by omega, tv_odd]; exact c1
theorem items_none {w : World} {a : Option Addr} {n cap K : Nat} {l : Nat → Im} (h : ItemsOf w (.slice a n cap) n l) (hK : K ≤ n) : a = none → K = 0 ∧ K = 0 := by
  intro ha
  rcases Nat.eq_zero_or_pos K with h0 | h0
  · exact ⟨h0, h0⟩
  · obtain ⟨a', cap', hv, hr⟩ := h
    obtain ⟨b', off, ha', -⟩ := hr (by omega)
    cases hv
    rw [ha] at ha'
    cases ha'
theorem news2 (w : World) (c d : Value) (t : TypeId) : ∀ (j : Nat) u, [c, d][j]? = some u → (w.alloc (.cells #[c, d] t)).cell? ((⟨w.heap.size, 0, none⟩ : Addr).add j) = some u := by
  intro j u hj
  match j, hj with
  | 0, hj => simp at hj; subst hj; simp [Addr.add]
  | 1, hj => simp at hj; subst hj; simp [Addr.add]
/-- What AppendItem of the program answers. -/
def AP (w w' : World) (n : Nat) (l : Nat → Im) (id x : Int) (e : Ending) : Prop :=
  ((GoodP n l id x ∧ ∃ r, e = .returned (.tuple #[r, .bool true]) ∧ AnsT w' w.heap.size r (kpt n l x + 1) (apL n l id x)) ∨ (¬ GoodP n l id x ∧ e = .returned (.tuple #[.slice none 0 0, .bool false]))) ∧ Below w.heap.size w w'
theorem kpt_zero (l : Nat → Im) (x : Int) : kpt 0 l x = 0 := by unfold kpt; rfl
theorem kpt_same {k : Nat} {l : Nat → Im} {x : Int} (h : (l k).v = x) : kpt (k + 1) l x = k := by unfold kpt lst; rw [if_pos ⟨by omega, h⟩]; rfl
theorem kpt_new {k : Nat} {l : Nat → Im} {x : Int} (h : (l k).v ≠ x) : kpt (k + 1) l x = k + 1 := by unfold kpt lst; rw [if_neg (fun q => h q.2)]
end M
set_option maxRecDepth 20000 in
set_option maxHeartbeats 4000000 in
theorem impl_append (a : Option Addr) (n cap : Nat) (l : Nat → Im) (id x : Int) (w : World) (hv : ItemsOf w (.slice a n cap) n l) (hcap : n ≤ cap) (hn : n ≤ 1048576) :
    Calls Tryd.prog 17 #[.slice a n cap, .int .i64 id, .int .i64 x] w fun e w' => AP w w' n l id x e := by
  have HV := hide hv
  clear hv
  cases hg : decide (GoodI n l)
  · have HN := hide (show ¬ GoodP n l id x from fun h => of_decide_eq_false hg h.1)
    go_enter Tryd.func17, Tryd.ntmps17
    go_wp2_with fail
    refine (impl_goodI _ n l _ HV.out hn).mono ?_
    rintro e w1 ⟨rfl, hb1⟩
    rw [hg]
    clear HV
    go_wp2
    go_ret2
    exact ⟨.inr ⟨HN.out, rfl⟩, hb1⟩
  have HG := hide (of_decide_eq_true hg)
  have hah := HG.out.2.ah_le (Nat.le_refl n)
  have hfld : ∀ W : World, (Instr.field 57 (.agg #[.int .i64 (lst l n).u, .int .i64 (lst l n).v]) 0).run Tryd.prog W = .ok (.int .i64 (ah l n)) W := fun W => by unfold ah; generalize lst l n = y; kernel_rfl
  obtain ⟨ha0, ha1⟩ := hah
  by_cases hid : id = ah l n + 1
  case neg =>
    have HN := hide (show ¬ GoodP n l id x from fun h => hid h.2.1)
    have hid2 : (id != ah l n + 1) = true := by simp [hid]
    go_enter Tryd.func17, Tryd.ntmps17
    go_wp2_with fail
    refine (impl_goodI _ n l _ HV.out hn).mono ?_
    rintro e w1 ⟨rfl, hb1⟩
    rw [hg]
    go_wp2_with fail
    refine (impl_last _ n l _ (HV.out.below hb1) hn).mono ?_
    rintro e w2 ⟨rfl, hb2⟩
    have hb3 := hb1.trans (hb2.mono hb1.size)
    clear HV hb1 hb2
    go_wp2
    go_ret2
    exact ⟨.inr ⟨HN.out, rfl⟩, hb3⟩
  have hid2 : (id != ah l n + 1) = false := by simp [hid]
  have HID := hide hid
  have h20 := HG.out.1
  clear hid
  obtain ⟨i0, hi, hz0, hz1, hz2⟩ := info_parts info_item
  cases n with
  | zero =>
    have HKP := hide (kpt_zero l x)
    have hcp0 : (0 : Int) ≤ (cap : Int) := by omega
    go_enter Tryd.func17, Tryd.ntmps17
    go_wp2_with fail
    refine (impl_goodI _ 0 l _ HV.out hn).mono ?_
    rintro e w1 ⟨rfl, hb1⟩
    rw [hg]
    go_wp2_with fail
    refine (impl_last _ 0 l _ (HV.out.below hb1) hn).mono ?_
    rintro e w2 ⟨rfl, hb2⟩
    have hB := hb1.trans (hb2.mono hb1.size)
    have HV2 := hide (HV.out.below hB)
    have hB2 := hB.alloc hB.size (.cells #[.int .i64 id, .int .i64 x] 57)
    have HV3 := hide (HV2.out.below ((Below.refl _ _).alloc (Nat.le_refl _) (.cells #[.int .i64 id, .int .i64 x] 57)))
    clear hb1 hb2 HV
    go_wp2_with (at_builtin; refine wpList_append_grows _ rfl _ _ 24 rfl 57 i0 _ 2 16 Tryd.underlying24 hi hz0 hz1 hz2 rfl (by decide) a 0 0 (tvs 0 l) rfl (items_none HV3.out (by omega)) (tvs_len _ _) (items_holds HV3.out (by omega)) ⟨w2.heap.size, 0, none⟩ 1 1 [.int .i64 id, .int .i64 x] rfl rfl ?c1 ?c2 ?c3 ?c4 ?c5 ?_)
    try (case c1 => exact news2 w2 _ _ _)
    case c2 => first | (intro u hu; simp at hu; rcases hu with rfl | rfl <;> rfl) | exact ⟨rfl, rfl⟩
    case c3 => omega
    case c4 => unfold maxLen; omega
    case c5 => omega
    intro v' w4 hown hgrow
    have hbw4 : Below w.heap.size w w4 := hB2.grown hgrow (by have := hB.size; simp; omega) (fun j hj => by cases hj)
    obtain ⟨a4, c4, rfl⟩ := own_form hown
    rw [tvs_put 0 l ⟨id, x⟩] at hown
    have HO := hide (own_ansT hown)
    have hsw : w.heap.size ≤ w2.heap.size + 1 := by have := hB.size; omega
    clear hown hgrow HV2 HV3 hB hB2
    go_wp2_with fail
    refine (impl_goodI _ (0 + 1) (upd l 0 ⟨id, x⟩) _ HO.out.items (by omega)).mono ?_
    rintro e w5 ⟨rfl, hb5⟩
    have hbw5 := hbw4.trans (hb5.mono hbw4.size)
    have HO5 := hide ((HO.out.down hb5).mono hsw)
    clear hb5 hbw4 HO
    cases hg2 : decide (GoodI (0 + 1) (upd l 0 ⟨id, x⟩))
    · have HN := hide (show ¬ GoodP 0 l id x from fun h => by have := h.2.2; unfold apL at this; rw [HKP.out] at this; exact of_decide_eq_false hg2 this)
      go_wp2
      go_ret2
      exact ⟨.inr ⟨HN.out, rfl⟩, hbw5⟩
    · have HP := hide (show GoodP 0 l id x from ⟨HG.out, HID.out, by unfold apL; rw [HKP.out]; exact of_decide_eq_true hg2⟩)
      go_wp2
      go_ret2
      exact ⟨.inl ⟨HP.out, _, rfl, by unfold apL; rw [HKP.out]; exact HO5.out⟩, hbw5⟩
  | succ k =>
    have HW := hide (show ∃ b off, a = some ⟨b, off, none⟩ ∧ b < w.heap.size ∧ w.cell? ⟨b, off + k * 2 + 1, none⟩ = some (.int .i64 (l k).v) from by
      obtain ⟨a1, cp1, he, hr⟩ := HV.out
      obtain ⟨b, off, ha, hlt, hrow⟩ := hr (by omega)
      cases he
      exact ⟨b, off, ha, hlt, (hrow k (by omega)).2⟩)
    obtain ⟨b, off, rfl, hlt, hc⟩ := HW.out
    have HC := hide hc
    have hk1 : ((k + 1 : Nat) : Int) - 1 = (k : Int) := by omega
    have hk3 : (k : Int) + 1 - 1 = (k : Int) := by omega
    have hk2 : decide (((k + 1 : Nat) : Int) > 0) = true := decide_eq_true (by omega)
    have hcp0 : ((k + 1 : Nat) : Int) ≤ (cap : Int) := by omega
    have hcp1 : (k : Int) ≤ (cap : Int) := by omega
    have hcp2 : (k : Int) + 1 ≤ (cap : Int) := by omega
    clear hc HW
    by_cases hx : (l k).v = x
    · have HKP := hide (kpt_same hx)
      have hx2 : ((l k).v == x) = true := by simp [hx]
      go_enter Tryd.func17, Tryd.ntmps17
      go_wp2_with fail
      refine (impl_goodI _ (k + 1) l _ HV.out hn).mono ?_
      rintro e w1 ⟨rfl, hb1⟩
      rw [hg]
      go_wp2_with fail
      refine (impl_last _ (k + 1) l _ (HV.out.below hb1) hn).mono ?_
      rintro e w2 ⟨rfl, hb2⟩
      have hB := hb1.trans (hb2.mono hb1.size)
      have HV2 := hide (HV.out.below hB)
      have hB2 := hB.alloc hB.size (.cells #[.int .i64 id, .int .i64 x] 57)
      have HV3 := hide (HV2.out.below ((Below.refl _ _).alloc (Nat.le_refl _) (.cells #[.int .i64 id, .int .i64 x] 57)))
      clear hb1 hb2 HV
      have c1 := (hB.cell (p := ⟨b, off + k * 2 + 1, none⟩) hlt).trans HC.out
      clear HC hx
      go_wp2_with (at_builtin; refine wpList_append_grows _ rfl _ _ 24 rfl 57 i0 _ 2 16 Tryd.underlying24 hi hz0 hz1 hz2 rfl (by decide) (some ⟨b, off, none⟩) k k (tvs k l) rfl (items_none HV3.out (by omega)) (tvs_len _ _) (items_holds HV3.out (by omega)) ⟨w2.heap.size, 0, none⟩ 1 1 [.int .i64 id, .int .i64 x] rfl rfl ?c1 ?c2 ?c3 ?c4 ?c5 ?_)
      try (case c1 => exact news2 w2 _ _ _)
      case c2 => first | (intro u hu; simp at hu; rcases hu with rfl | rfl <;> rfl) | exact ⟨rfl, rfl⟩
      case c3 => omega
      case c4 => unfold maxLen; omega
      case c5 => omega
      intro v' w4 hown hgrow
      have hbw4 : Below w.heap.size w w4 := hB2.grown hgrow (by have := hB.size; simp; omega) (fun j hj => by cases hj)
      obtain ⟨a4, c4, rfl⟩ := own_form hown
      rw [tvs_put k l ⟨id, x⟩] at hown
      have HO := hide (own_ansT hown)
      have hsw : w.heap.size ≤ w2.heap.size + 1 := by have := hB.size; omega
      clear hown hgrow HV2 HV3 hB hB2
      go_wp2_with fail
      refine (impl_goodI _ (k + 1) (upd l k ⟨id, x⟩) _ HO.out.items (by omega)).mono ?_
      rintro e w5 ⟨rfl, hb5⟩
      have hbw5 := hbw4.trans (hb5.mono hbw4.size)
      have HO5 := hide ((HO.out.down hb5).mono hsw)
      clear hb5 hbw4 HO
      cases hg2 : decide (GoodI (k + 1) (upd l k ⟨id, x⟩))
      · have HN := hide (show ¬ GoodP (k + 1) l id x from fun h => by have := h.2.2; unfold apL at this; rw [HKP.out] at this; exact of_decide_eq_false hg2 this)
        go_wp2
        go_ret2
        exact ⟨.inr ⟨HN.out, rfl⟩, hbw5⟩
      · have HP := hide (show GoodP (k + 1) l id x from ⟨HG.out, HID.out, by unfold apL; rw [HKP.out]; exact of_decide_eq_true hg2⟩)
        go_wp2
        go_ret2
        exact ⟨.inl ⟨HP.out, _, rfl, by unfold apL; rw [HKP.out]; exact HO5.out⟩, hbw5⟩
    · have HKP := hide (kpt_new hx)
      have hx2 : ((l k).v == x) = false := by simp [hx]
      go_enter Tryd.func17, Tryd.ntmps17
      go_wp2_with fail
      refine (impl_goodI _ (k + 1) l _ HV.out hn).mono ?_
      rintro e w1 ⟨rfl, hb1⟩
      rw [hg]
      go_wp2_with fail
      refine (impl_last _ (k + 1) l _ (HV.out.below hb1) hn).mono ?_
      rintro e w2 ⟨rfl, hb2⟩
      have hB := hb1.trans (hb2.mono hb1.size)
      have HV2 := hide (HV.out.below hB)
      have hB2 := hB.alloc hB.size (.cells #[.int .i64 id, .int .i64 x] 57)
      have HV3 := hide (HV2.out.below ((Below.refl _ _).alloc (Nat.le_refl _) (.cells #[.int .i64 id, .int .i64 x] 57)))
      clear hb1 hb2 HV
      have c1 := (hB.cell (p := ⟨b, off + k * 2 + 1, none⟩) hlt).trans HC.out
      clear HC hx
      go_wp2_with (at_builtin; refine wpList_append_grows _ rfl _ _ 24 rfl 57 i0 _ 2 16 Tryd.underlying24 hi hz0 hz1 hz2 rfl (by decide) (some ⟨b, off, none⟩) (k + 1) (k + 1) (tvs (k + 1) l) rfl (items_none HV3.out (by omega)) (tvs_len _ _) (items_holds HV3.out (by omega)) ⟨w2.heap.size, 0, none⟩ 1 1 [.int .i64 id, .int .i64 x] rfl rfl ?c1 ?c2 ?c3 ?c4 ?c5 ?_)
      try (case c1 => exact news2 w2 _ _ _)
      case c2 => first | (intro u hu; simp at hu; rcases hu with rfl | rfl <;> rfl) | exact ⟨rfl, rfl⟩
      case c3 => omega
      case c4 => unfold maxLen; omega
      case c5 => omega
      intro v' w4 hown hgrow
      have hbw4 : Below w.heap.size w w4 := hB2.grown hgrow (by have := hB.size; simp; omega) (fun j hj => by cases hj)
      obtain ⟨a4, c4, rfl⟩ := own_form hown
      rw [tvs_put (k + 1) l ⟨id, x⟩] at hown
      have HO := hide (own_ansT hown)
      have hsw : w.heap.size ≤ w2.heap.size + 1 := by have := hB.size; omega
      clear hown hgrow HV2 HV3 hB hB2
      go_wp2_with fail
      refine (impl_goodI _ ((k + 1) + 1) (upd l (k + 1) ⟨id, x⟩) _ HO.out.items (by omega)).mono ?_
      rintro e w5 ⟨rfl, hb5⟩
      have hbw5 := hbw4.trans (hb5.mono hbw4.size)
      have HO5 := hide ((HO.out.down hb5).mono hsw)
      clear hb5 hbw4 HO
      cases hg2 : decide (GoodI ((k + 1) + 1) (upd l (k + 1) ⟨id, x⟩))
      · have HN := hide (show ¬ GoodP (k + 1) l id x from fun h => by have := h.2.2; unfold apL at this; rw [HKP.out] at this; exact of_decide_eq_false hg2 this)
        go_wp2
        go_ret2
        exact ⟨.inr ⟨HN.out, rfl⟩, hbw5⟩
      · have HP := hide (show GoodP (k + 1) l id x from ⟨HG.out, HID.out, by unfold apL; rw [HKP.out]; exact of_decide_eq_true hg2⟩)
        go_wp2
        go_ret2
        exact ⟨.inl ⟨HP.out, _, rfl, by unfold apL; rw [HKP.out]; exact HO5.out⟩, hbw5⟩
end Go.Proofs.YtbajiamkgffhkaaDoor

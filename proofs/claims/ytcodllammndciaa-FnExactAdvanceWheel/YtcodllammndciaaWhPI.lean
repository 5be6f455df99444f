/-
  The specification puts a number into a list in order.
-/
import Derived.Test.YtcodllammndciaaWhAd
namespace Go.Proofs.Ytcodllammndciaa
open Go.RowKit M
open Clk (upd upd_same upd_other)
open Go.Sort (grow)
namespace M
def insL (L : List Int) (n : Int) : List Int := (L.takeWhile fun x => decide (x < n)) ++ n :: (L.dropWhile fun x => decide (x < n))
theorem insL_at {L : List Int} {n : Int} {k : Nat} (hk : (L.takeWhile fun x => decide (x < n)).length = k) : insL L n = L.take k ++ n :: L.drop k := by
  obtain ⟨h1, h2⟩ := tw_take (fun x => decide (x < n)) L
  rw [hk] at h1 h2
  unfold insL
  rw [h1, h2]
theorem insL_len (L : List Int) (n : Int) : (insL L n).length = L.length + 1 := by
  unfold insL
  have h := congrArg List.length (List.takeWhile_append_dropWhile (p := fun x : Int => decide (x < n)) (l := L))
  rw [List.length_append] at h
  rw [List.length_append, List.length_cons]
  omega
theorem own_getD {w : World} {B g c : Nat} {L : List Int} (h : w.ownsRow B 3 1 (.slice (some ⟨g, 0, none⟩) L.length c) L.length (pvi L)) {j : Nat} (hj : j < L.length) : w.cell? ⟨g, j, none⟩ = some (.int .i64 (L.getD j 0)) := by
  have h1 := own_news h j (.int .i64 (L.getD j 0)) (by unfold pvi; rw [List.getElem?_map, List.getElem?_eq_getElem hj]; simp [hj])
  rw [show (⟨g, 0, none⟩ : Addr).add j = ⟨g, j, none⟩ by unfold Addr.add; split <;> simp_all] at h1
  exact h1
end M
set_option maxRecDepth 20000 in
set_option maxHeartbeats 8000000 in
theorem put_int (B : Nat) (v : Value) (L : List Int) (z : Int) (w : World) (hv : w.ownsRow B 3 1 v L.length (pvi L)) (hL : L.length ≤ 1000) :
    Calls Try.prog 79 #[v, .int .i64 z] w fun e w' => (∃ r, e = .returned r ∧ w'.ownsRow w.heap.size 3 1 r (L.length + 1) (pvi (insL L z))) ∧ Below w.heap.size w w' := by
  obtain ⟨i0, hi, hz0, hz1, hz2⟩ := info_parts info_int
  rcases hv.2 with ⟨rfl, h0⟩ | ⟨g, cap, cur, rfl, hB, hg, hn, hc, hcs, ht⟩
  · have hL0 : L = [] := List.length_eq_zero_iff.1 h0
    subst hL0
    have hbA := (Below.refl w.heap.size w).alloc (Nat.le_refl _) (.cells #[.int .i64 z] 3)
    have hO := World.ownsRow_nil (w.alloc (.cells #[.int .i64 z] 3)) w.heap.size 3 1
    have HO := hide hO
    clear hv hO
    go_enter Try.func79, Try.ntmps79
    go_wp2_with fail
    refine wp_loop_rounds 1 ?_; rw [rounds_succ]
    go_wp2_with (at_builtin; refine wpList_append_own _ rfl _ _ 45 rfl w.heap.size 3 i0 _ 1 8 Try.underlying45 hi hz0 hz1 hz2 rfl (by decide) _ 0 _ rfl HO.out ⟨w.heap.size, 0, none⟩ 1 1 [.int .i64 z] rfl rfl (news1 w _ _) (by intro u hu; simp at hu; subst hu; rfl) (by unfold maxLen; omega) (by omega) (by simp) ?_)
    intro v7 w7 hown7 hgrow7 hne7
    have hb7 : Below w.heap.size w w7 := hbA.grown hgrow7 (by simp) (fun q hq => by cases hq)
    rcases hown7.2 with ⟨e7, _⟩ | ⟨g7, c7, cur7, rfl, _, _, hc7, _⟩
    · exact absurd e7 hne7
    · have HR := hide (show w7.ownsRow w.heap.size 3 1 (.slice (some ⟨g7, 0, none⟩) 1 c7) 1 (pvi (insL [] z)) from hown7)
      clear hown7 hgrow7 hne7 HO hbA
      go_wp2
      go_ret
      exact ⟨⟨_, rfl, HR.out⟩, hb7⟩
  · obtain ⟨N, hN⟩ : ∃ N, L.length = N := ⟨_, rfl⟩
    have HV := hide hv
    have hgl : g < w.heap.size := (Array.getElem?_eq_some_iff.1 hg).1
    have HC := hide (fun j (hj : j < L.length) => own_getD hv hj)
    have HN := hide hN
    rw [hN] at hn hL
    rw [hN]
    clear hv hg ht hcs hN
    go_enter Try.func79, Try.ntmps79
    go_wp2_with fail
    go_loopw [5] (fun y wr => ∃ k : Nat, k ≤ N ∧ y = .int .i64 (k : Int) ∧ Hid (∀ j, j < k → L.getD j 0 < z) ∧ wr = w) (fun y _ => N - (intOf y).toNat)
    case atStart => exact ⟨0, by omega, rfl, hide (fun j h => by omega), rfl⟩
    case round =>
      obtain ⟨k, hkN, rfl, HP, rfl⟩ := hrel
      have HEx := hide (show (k < N → ¬ L.getD k 0 < z) → insL L z = L.take k ++ z :: L.drop k from fun h => by
        have hN := HN.out
        refine insL_at (tw_char _ L k (fun j hj => ⟨L.getD j 0, by have : j < L.length := by omega
                                                                   simp [this], by simpa using HP.out j hj⟩) (fun x hx => ?_) (by omega))
        have hk : k < L.length := (List.getElem?_eq_some_iff.1 hx).1
        have h2 := h (by omega)
        have h3 : L.getD k 0 = x := by simp [List.getD, hx]
        rw [h3] at h2
        simpa using h2)
      by_cases hlt : k < N
      · have c0 := HC.out k (by rw [HN.out]; exact hlt)
        have hk0 : (0 : Int) ≤ (k : Int) := by omega
        have hk1 : (k : Int) < (N : Int) := by omega
        by_cases hz : L.getD k 0 < z
        · have HP2 := hide (show ∀ j, j < k + 1 → L.getD j 0 < z from fun j hj => by
            rcases (show j < k ∨ j = k by omega) with h | h
            · exact HP.out j h
            · subst h; exact hz)
          have hzd : decide (L.getD k 0 < z) = true := decide_eq_true hz
          clear HP HEx HV HC hz
          generalize L.getD k 0 = x at *
          go_wp2
          exact ⟨⟨k + 1, by omega, by go_num, HP2, trivial⟩, by simp [intOf]; omega⟩
        · have HE := hide (HEx.out (fun _ => hz))
          have hzd : decide (L.getD k 0 < z) = false := decide_eq_false hz
          clear hz
          generalize L.getD k 0 = x at *
          have hkc : k ≤ cap := by omega
          have hki : (k : Int) ≤ (cap : Int) := by omega
          have hkN' : (k : Int) ≤ (N : Int) := by omega
          have hk00 : (0 : Int) ≤ (k : Int) := by omega
          have HT1 := hide (show ∀ j u, (pvi (L.take k))[j]? = some u → wr.cell? ((⟨g, 0, none⟩ : Addr).add j) = some u from fun j u hj => by
            refine own_news HV.out j u ?_
            unfold pvi at hj ⊢
            rw [List.getElem?_map] at hj ⊢
            have hjk : j < (L.take k).length := by
              rcases Nat.lt_or_ge j (L.take k).length with h | h
              · exact h
              · rw [List.getElem?_eq_none h] at hj; cases hj
            rw [List.getElem?_take_of_lt (by rw [List.length_take] at hjk; omega)] at hj
            exact hj)
          have HTl := hide (show (pvi (L.take k)).length = k * 1 from by rw [pvi_len, List.length_take, HN.out]; omega)
          have HDr := hide (show ∀ (W : World), Below wr.heap.size wr W → ∀ j u, (pvi (L.drop k))[j]? = some u → W.cell? ((⟨g, k, none⟩ : Addr).add j) = some u from fun W hb j u hj => by
            have h1 : (pvi L)[k + j]? = some u := by
              unfold pvi at hj ⊢
              rw [List.getElem?_map] at hj ⊢
              rw [List.getElem?_drop] at hj
              exact hj
            have h2 := own_news HV.out (k + j) u h1
            rw [show (⟨g, 0, none⟩ : Addr).add (k + j) = ⟨g, k + j, none⟩ by unfold Addr.add; split <;> simp_all] at h2
            rw [show (⟨g, k, none⟩ : Addr).add j = ⟨g, k + j, none⟩ by unfold Addr.add; split <;> simp_all]
            exact (hb.cell (p := ⟨g, k + j, none⟩) hgl).trans h2)
          have HDl := hide (show (pvi (L.drop k)).length = (N - k) * 1 from by rw [pvi_len, List.length_drop, HN.out]; omega)
          have HO1 := hide (pvi_one (L.take k))
          have HO2 := hide (pvi_one (L.drop k))
          have HNil := hide (World.ownsRow_nil wr wr.heap.size 3 1)
          have HPv := hide (show pvi (insL L z) = pvi (L.take k) ++ [.int .i64 z] ++ pvi (L.drop k) from by rw [HE.out, pvi_app]; simp [pvi])
          have hNk : k + 1 + (N - k) = N + 1 := by omega
          generalize pvi (L.take k) = P1 at *
          generalize pvi (L.drop k) = P2 at *
          clear HP HEx HV HC HE
          go_wp2_with (at_builtin; refine wpList_append_own _ rfl _ _ 45 rfl wr.heap.size 3 i0 _ 1 8 Try.underlying45 hi hz0 hz1 hz2 rfl (by decide) _ 0 _ rfl HNil.out ⟨g, 0, none⟩ k cap P1 rfl HTl.out HT1.out HO1.out (by unfold maxLen; omega) (by omega) (by omega) ?_)
          intro v7 w7 hown7 hgrow7 _
          obtain ⟨a7, c7, rfl⟩ := own_form hown7
          have hb7 : Below wr.heap.size wr w7 := (Below.refl _ _).grown hgrow7 (Nat.le_refl _) (fun q hq => by cases hq)
          have hbA := (Below.refl w7.heap.size w7).alloc (Nat.le_refl _) (.cells #[.int .i64 z] 3)
          have HO7 := hide (owns_below hown7 hbA)
          have hb8 := hb7.trans (hbA.mono hb7.size)
          have hs7 := hb7.size
          clear hown7 hgrow7 HT1 HTl HO1 HNil
          go_wp2_with (at_builtin; refine wpList_append_own _ rfl _ _ 45 rfl wr.heap.size 3 i0 _ 1 8 Try.underlying45 hi hz0 hz1 hz2 rfl (by decide) _ k _ rfl HO7.out ⟨w7.heap.size, 0, none⟩ 1 1 [.int .i64 z] rfl rfl (news1 w7 _ _) (by intro u hu; simp at hu; subst hu; rfl) (by unfold maxLen; omega) (by omega) (by simp; omega) ?_)
          intro v9 w9 hown9 hgrow9 hne9
          have hb9 : Below wr.heap.size wr w9 := hb8.grown hgrow9 (by simp; omega) (fun q hq => (HO7.out.lt q hq).1)
          rcases hown9.2 with ⟨e9, h9⟩ | ⟨g9, c9, cur9, rfl, _, _, hc9, hm9, _⟩
          · omega
          · have HO9 := hide hown9
            have hs9 := hb9.size
            clear hown9 hgrow9 hne9 HO7 hbA hb8 hb7
            have hck' : ¬ k = cap := by omega
            go_wp2_with (at_builtin; refine wpList_append_own _ rfl _ _ 45 rfl wr.heap.size 3 i0 _ 1 8 Try.underlying45 hi hz0 hz1 hz2 rfl (by decide) _ (k + 1) _ rfl HO9.out ⟨g, k, none⟩ (N - k) (cap - k) P2 rfl HDl.out (HDr.out _ hb9) HO2.out (by unfold maxLen; omega) (by omega) (by omega) ?_)
            intro v10 w10 hown10 hgrow10 _
            have hb10 : Below wr.heap.size wr w10 := hb9.grown hgrow10 hs9 (fun q hq => (HO9.out.lt q hq).1)
            obtain ⟨a10, c10, rfl⟩ := own_form hown10
            have HR := hide (show w10.ownsRow wr.heap.size 3 1 (.slice a10 (N + 1) c10) (N + 1) (pvi (insL L z)) from by rw [HPv.out, List.append_assoc]; exact hown10)
            clear hown10 hgrow10 HO9 HPv HDr HDl HO2
            go_wp2
            go_ret
            exact ⟨⟨_, rfl, HR.out⟩, hb10⟩
      · obtain rfl : k = N := by omega
        have HE := hide (HEx.out (fun h => by omega))
        clear hlt
        have hkc : k ≤ cap := by omega
        have hki : (k : Int) ≤ (cap : Int) := by omega
        have hkN' : (k : Int) ≤ (k : Int) := by omega
        have hk00 : (0 : Int) ≤ (k : Int) := by omega
        have HT1 := hide (show ∀ j u, (pvi (L.take k))[j]? = some u → wr.cell? ((⟨g, 0, none⟩ : Addr).add j) = some u from fun j u hj => by
          refine own_news HV.out j u ?_
          unfold pvi at hj ⊢
          rw [List.getElem?_map] at hj ⊢
          have hjk : j < (L.take k).length := by
            rcases Nat.lt_or_ge j (L.take k).length with h | h
            · exact h
            · rw [List.getElem?_eq_none h] at hj; cases hj
          rw [List.getElem?_take_of_lt (by rw [List.length_take] at hjk; omega)] at hj
          exact hj)
        have HTl := hide (show (pvi (L.take k)).length = k * 1 from by rw [pvi_len, List.length_take, HN.out]; omega)
        have HDr := hide (show ∀ (W : World), Below wr.heap.size wr W → ∀ j u, (pvi (L.drop k))[j]? = some u → W.cell? ((⟨g, k, none⟩ : Addr).add j) = some u from fun W hb j u hj => by
          have h1 : (pvi L)[k + j]? = some u := by
            unfold pvi at hj ⊢
            rw [List.getElem?_map] at hj ⊢
            rw [List.getElem?_drop] at hj
            exact hj
          have h2 := own_news HV.out (k + j) u h1
          rw [show (⟨g, 0, none⟩ : Addr).add (k + j) = ⟨g, k + j, none⟩ by unfold Addr.add; split <;> simp_all] at h2
          rw [show (⟨g, k, none⟩ : Addr).add j = ⟨g, k + j, none⟩ by unfold Addr.add; split <;> simp_all]
          exact (hb.cell (p := ⟨g, k + j, none⟩) hgl).trans h2)
        have HDl := hide (show (pvi (L.drop k)).length = 0 from by rw [pvi_len, List.length_drop, HN.out]; omega)
        have HO1 := hide (pvi_one (L.take k))
        have HO2 := hide (pvi_one (L.drop k))
        have HNil := hide (World.ownsRow_nil wr wr.heap.size 3 1)
        have HPv := hide (show pvi (insL L z) = pvi (L.take k) ++ [.int .i64 z] ++ pvi (L.drop k) from by rw [HE.out, pvi_app]; simp [pvi])
        have hNk : k + 1 + (k - k) = k + 1 := by omega
        generalize pvi (L.take k) = P1 at *
        generalize pvi (L.drop k) = P2 at *
        clear HP HEx HV HC HE
        go_wp2_with (at_builtin; refine wpList_append_own _ rfl _ _ 45 rfl wr.heap.size 3 i0 _ 1 8 Try.underlying45 hi hz0 hz1 hz2 rfl (by decide) _ 0 _ rfl HNil.out ⟨g, 0, none⟩ k cap P1 rfl HTl.out HT1.out HO1.out (by unfold maxLen; omega) (by omega) (by omega) ?_)
        intro v7 w7 hown7 hgrow7 _
        obtain ⟨a7, c7, rfl⟩ := own_form hown7
        have hb7 : Below wr.heap.size wr w7 := (Below.refl _ _).grown hgrow7 (Nat.le_refl _) (fun q hq => by cases hq)
        have hbA := (Below.refl w7.heap.size w7).alloc (Nat.le_refl _) (.cells #[.int .i64 z] 3)
        have HO7 := hide (owns_below hown7 hbA)
        have hb8 := hb7.trans (hbA.mono hb7.size)
        have hs7 := hb7.size
        clear hown7 hgrow7 HT1 HTl HO1 HNil
        go_wp2_with (at_builtin; refine wpList_append_own _ rfl _ _ 45 rfl wr.heap.size 3 i0 _ 1 8 Try.underlying45 hi hz0 hz1 hz2 rfl (by decide) _ k _ rfl HO7.out ⟨w7.heap.size, 0, none⟩ 1 1 [.int .i64 z] rfl rfl (news1 w7 _ _) (by intro u hu; simp at hu; subst hu; rfl) (by unfold maxLen; omega) (by omega) (by simp; omega) ?_)
        intro v9 w9 hown9 hgrow9 hne9
        have hb9 : Below wr.heap.size wr w9 := hb8.grown hgrow9 (by simp; omega) (fun q hq => (HO7.out.lt q hq).1)
        rcases hown9.2 with ⟨e9, h9⟩ | ⟨g9, c9, cur9, rfl, _, _, hc9, hm9, _⟩
        · omega
        · have HO9 := hide hown9
          have hs9 := hb9.size
          clear hown9 hgrow9 hne9 HO7 hbA hb8 hb7
          have hP2 : P2 = [] := List.length_eq_zero_iff.1 HDl.out
          have HR := hide (show pvi (insL L z) = P1 ++ [.int .i64 z] from by rw [HPv.out, hP2, List.append_nil])
          clear HPv HDr HDl HO2 hP2
          have hsub : k - k = 0 := Nat.sub_self _
          have hemp : ∀ (W : World) (q : Nat) (j : Nat) (u : Value), ([] : List Value)[j]? = some u → W.cell? ((⟨g, q, none⟩ : Addr).add j) = some u := fun W q j u h => by simp at h
          rcases (show cap = k ∨ ¬ cap = k by omega) with hck | hck
          · subst hck
            go_wp2_with (at_builtin; refine wpList_append_own _ rfl _ _ 45 rfl wr.heap.size 3 i0 _ 1 8 Try.underlying45 hi hz0 hz1 hz2 rfl (by decide) _ (cap + 1) _ rfl HO9.out ⟨g, 0, none⟩ 0 0 [] rfl rfl (hemp _ 0) (by intro u hu; simp at hu) (by unfold maxLen; omega) (by omega) (by omega) ?_)
            intro v10 w10 hown10 hgrow10 _
            have hb10 : Below wr.heap.size wr w10 := hb9.grown hgrow10 hs9 (fun q hq => (HO9.out.lt q hq).1)
            obtain ⟨a10, c10, rfl⟩ := own_form hown10
            have HR2 := hide (show w10.ownsRow wr.heap.size 3 1 (.slice a10 (cap + 1) c10) (cap + 1) (pvi (insL L z)) from by rw [HR.out]; simpa using hown10)
            clear hown10 hgrow10 HO9 HR
            go_wp2
            go_ret
            exact ⟨⟨_, rfl, HR2.out⟩, hb10⟩
          · have hck' : ¬ k = cap := fun e => hck e.symm
            go_wp2_with (at_builtin; refine wpList_append_own _ rfl _ _ 45 rfl wr.heap.size 3 i0 _ 1 8 Try.underlying45 hi hz0 hz1 hz2 rfl (by decide) _ (k + 1) _ rfl HO9.out ⟨g, k, none⟩ 0 (cap - k) [] rfl rfl (hemp _ k) (by intro u hu; simp at hu) (by unfold maxLen; omega) (by omega) (by omega) ?_)
            intro v10 w10 hown10 hgrow10 _
            have hb10 : Below wr.heap.size wr w10 := hb9.grown hgrow10 hs9 (fun q hq => (HO9.out.lt q hq).1)
            obtain ⟨a10, c10, rfl⟩ := own_form hown10
            have HR2 := hide (show w10.ownsRow wr.heap.size 3 1 (.slice a10 (k + 1) c10) (k + 1) (pvi (insL L z)) from by rw [HR.out]; simpa using hown10)
            clear hown10 hgrow10 HO9 HR
            go_wp2
            go_ret
            exact ⟨⟨_, rfl, HR2.out⟩, hb10⟩
end Go.Proofs.Ytcodllammndciaa

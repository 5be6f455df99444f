/-
  AppendItem of the specification: one more event behind good items.
-/
import Derived.Test.YtbajiamkgffhkaaDoorItP
namespace Go.Proofs.YtbajiamkgffhkaaDoor
open Go.RowKit M
open Clk (upd upd_same upd_other)
namespace M
theorem one2 (x y : Int) : ∀ u ∈ [(.int .i64 x : Value), .int .i64 y], u.oneCell' = true := by
  intro u hu; simp at hu; rcases hu with rfl | rfl <;> rfl
theorem one_tvs (n : Nat) (l : Nat → Im) : ∀ u ∈ tvs n l, u.oneCell' = true := by
  intro u hu
  unfold tvs at hu
  obtain ⟨j, _, rfl⟩ := List.mem_map.1 hu
  unfold tv
  split <;> rfl
theorem news2' (w : World) (c d : Value) (t : TypeId) (g : Nat) (hg : w.heap.size = g) : ∀ (j : Nat) u, [c, d][j]? = some u → (w.alloc (.cells #[c, d] t)).cell? ((⟨g, 0, none⟩ : Addr).add j) = some u := by
  subst hg; exact news2 w c d t
end M
set_option maxRecDepth 20000 in
set_option maxHeartbeats 4000000 in
theorem spec_app (v : Value) (n : Nat) (l : Nat → Im) (id x : Int) (w : World) (hv : ItemsOf w v n l) (hn : n ≤ 1048576) :
    Calls Tryd.prog 26 #[v, .int .i64 id, .int .i64 x] w fun e w' => (∃ r, e = .returned r ∧ AnsT w' w.heap.size r (kpt n l x + 1) (apL n l id x)) ∧ Below w.heap.size w w' := by
  have hd0 := (Below.refl w.heap.size w).alloc (Nat.le_refl _) (.cells #[] 57)
  have HV := hide (hv.below hd0)
  obtain ⟨a, cap, rfl⟩ := hv.form
  obtain ⟨i0, hi, hz0, hz1, hz2⟩ := info_parts info_item
  have hs1 : (w.alloc (.cells #[] 57)).heap.size = w.heap.size + 1 := by simp
  have HS1 := hide hs1
  clear hv hs1
  cases n with
  | zero =>
    have HKP := hide (kpt_zero l x)
    have hB2 := hd0.alloc hd0.size (.cells #[.int .i64 id, .int .i64 x] 57)
    have HNW := hide (news2' (w.alloc (.cells #[] 57)) (.int .i64 id) (.int .i64 x) 57 _ HS1.out)
    clear HV
    cases a with
    | none =>
      go_enter Tryd.func26, Tryd.ntmps26
      go_wp2_with (at_builtin; refine wpList_append_grows _ rfl _ _ 24 rfl 57 i0 _ 2 16 Tryd.underlying24 hi hz0 hz1 hz2 rfl (by decide) (some ⟨w.heap.size, 0, none⟩) 0 0 [] rfl (fun h => by cases h) rfl (fun b _ j u hj => by simp at hj) ⟨w.heap.size + 1, 0, none⟩ 1 1 [.int .i64 id, .int .i64 x] rfl rfl HNW.out (one2 _ _) (by omega) (by unfold maxLen; omega) (by omega) ?_)
      intro v' w4 hown hgrow
      have hbw4 : Below w.heap.size w w4 := hB2.grown hgrow (by simp; omega) (fun j hj => by cases hj)
      obtain ⟨a4, c4, rfl⟩ := own_form hown
      have hown2 : w4.ownsRow w.heap.size 57 2 (.slice a4 1 c4) 1 (tvs 1 (upd l 0 ⟨id, x⟩)) := owns_mono hown (by omega)
      have HO := hide (own_ansT hown2)
      clear hown hown2 hgrow hB2 hd0 HNW
      go_wp2
      go_ret
      exact ⟨⟨_, rfl, by unfold apL; rw [HKP.out]; exact HO.out⟩, hbw4⟩
    | some ab =>
      go_enter Tryd.func26, Tryd.ntmps26
      go_wp2_with (at_builtin; refine wpList_append_grows _ rfl _ _ 24 rfl 57 i0 _ 2 16 Tryd.underlying24 hi hz0 hz1 hz2 rfl (by decide) (some ⟨w.heap.size, 0, none⟩) 0 0 [] rfl (fun h => by cases h) rfl (fun b _ j u hj => by simp at hj) ⟨w.heap.size + 1, 0, none⟩ 1 1 [.int .i64 id, .int .i64 x] rfl rfl HNW.out (one2 _ _) (by omega) (by unfold maxLen; omega) (by omega) ?_)
      intro v' w4 hown hgrow
      have hbw4 : Below w.heap.size w w4 := hB2.grown hgrow (by simp; omega) (fun j hj => by cases hj)
      obtain ⟨a4, c4, rfl⟩ := own_form hown
      have hown2 : w4.ownsRow w.heap.size 57 2 (.slice a4 1 c4) 1 (tvs 1 (upd l 0 ⟨id, x⟩)) := owns_mono hown (by omega)
      have HO := hide (own_ansT hown2)
      clear hown hown2 hgrow hB2 hd0 HNW
      go_wp2
      go_ret
      exact ⟨⟨_, rfl, by unfold apL; rw [HKP.out]; exact HO.out⟩, hbw4⟩
  | succ k =>
    have HW := hide (show ∃ b off, a = some ⟨b, off, none⟩ from by
      obtain ⟨a1, cp1, he, hr⟩ := HV.out
      obtain ⟨b, off, ha, -⟩ := hr (by omega)
      cases he
      exact ⟨b, off, ha⟩)
    obtain ⟨b, off, rfl⟩ := HW.out
    have HH := hide (items_holds (K := k + 1) HV.out (Nat.le_refl _) _ rfl)
    have hk1 : ((k + 1 : Nat) : Int) - 1 = (k : Int) := by omega
    have hk3 : (k : Int) + 1 - 1 = (k : Int) := by omega
    have hk2 : decide ((k : Int) ≥ 0) = true := decide_eq_true (by omega)
    have hi0 : (0 : Int) ≤ (k : Int) := by omega
    clear HW HV
    by_cases hx : (l k).v = x
    · have HKP := hide (kpt_same hx)
      have hx2 : ((l k).v == x) = true := by simp [hx]
      have HX := hide hx
      clear hx
      go_enter Tryd.func26, Tryd.ntmps26
      go_wp2_with (at_builtin; refine wpList_append_grows _ rfl _ _ 24 rfl 57 i0 _ 2 16 Tryd.underlying24 hi hz0 hz1 hz2 rfl (by decide) (some ⟨w.heap.size, 0, none⟩) 0 0 [] rfl (fun h => by cases h) rfl (fun b _ j u hj => by simp at hj) ⟨b, off, none⟩ (k + 1) cap (tvs (k + 1) l) rfl (tvs_len _ _) HH.out (one_tvs _ _) (by omega) (by unfold maxLen; omega) (by omega) ?_)
      intro v' w4 hown hgrow
      have hbw4 : Below w.heap.size w w4 := hd0.grown hgrow (by simp) (fun j hj => by cases hj)
      have hown2 : w4.ownsRow w.heap.size 57 2 v' (k + 1) (tvs (k + 1) l) := owns_mono hown (by omega)
      rcases own_ansT hown2 with ⟨-, h0⟩ | ⟨g, c, rfl, hg, hO⟩
      · exact absurd h0 (by omega)
      have c1 := (hO.cell (show k < k + 1 by omega)).2
      have c0 := (hO.cell (show k < k + 1 by omega)).1
      have f0 := hO.thaw (k * 2)
      have hki : (k : Int) < ((k + 1 : Nat) : Int) := by omega
      have HO := hide (hO.setU k id)
      have hbw5 := hbw4.setCell (p := ⟨g, k * 2, none⟩) hg (.int .i64 id)
      have HG := hide hg
      clear hown hown2 hgrow hO hd0 HH hg
      go_wp2
      go_ret
      exact ⟨⟨_, rfl, .inr ⟨g, c, by rw [HKP.out]; rfl, HG.out, by unfold apL; rw [HKP.out, ← HX.out]; exact HO.out⟩⟩, hbw5⟩
    · have HKP := hide (kpt_new hx)
      have hx2 : ((l k).v == x) = false := by simp [hx]
      have HX := hide hx
      clear hx
      go_enter Tryd.func26, Tryd.ntmps26
      go_wp2_with (at_builtin; refine wpList_append_grows _ rfl _ _ 24 rfl 57 i0 _ 2 16 Tryd.underlying24 hi hz0 hz1 hz2 rfl (by decide) (some ⟨w.heap.size, 0, none⟩) 0 0 [] rfl (fun h => by cases h) rfl (fun b _ j u hj => by simp at hj) ⟨b, off, none⟩ (k + 1) cap (tvs (k + 1) l) rfl (tvs_len _ _) HH.out (one_tvs _ _) (by omega) (by unfold maxLen; omega) (by omega) ?_)
      intro v' w4 hown hgrow
      have hbw4 : Below w.heap.size w w4 := hd0.grown hgrow (by simp) (fun j hj => by cases hj)
      have hown2 : w4.ownsRow w.heap.size 57 2 v' (k + 1) (tvs (k + 1) l) := owns_mono hown (by omega)
      rcases own_ansT hown2 with ⟨-, h0⟩ | ⟨g, c, rfl, hg, hO⟩
      · exact absurd h0 (by omega)
      have c1 := (hO.cell (show k < k + 1 by omega)).2
      have c0 := (hO.cell (show k < k + 1 by omega)).1
      have f0 := hO.thaw (k * 2)
      have hki : (k : Int) < ((k + 1 : Nat) : Int) := by omega
      have hB5 := hbw4.alloc hbw4.size (.cells #[.int .i64 id, .int .i64 x] 57)
      clear hown hgrow hO hd0 HH
      go_wp2_with (at_builtin; refine wpList_append_own _ rfl _ _ 24 rfl w.heap.size 57 i0 _ 2 16 Tryd.underlying24 hi hz0 hz1 hz2 rfl (by decide) _ (k + 1) _ rfl (hown2.alloc _) ⟨w4.heap.size, 0, none⟩ 1 1 [.int .i64 id, .int .i64 x] rfl rfl (news2 w4 _ _ _) (one2 _ _) (by unfold maxLen; omega) (by omega) (by have := hbw4.size; simp; omega) ?_)
      intro v' w6 hown6 hgrow6 _
      have hbw6 : Below w.heap.size w w6 := hB5.grown hgrow6 (by have := hbw4.size; simp; omega) (fun j hj => (hown2.lt j hj).1)
      rw [tvs_put (k + 1) l ⟨id, x⟩] at hown6
      obtain ⟨a6, c6, rfl⟩ := own_form hown6
      have HO := hide (own_ansT hown6)
      clear hown2 hown6 hgrow6 hB5 hbw4 c1 f0 c0
      go_wp2
      go_ret
      exact ⟨⟨_, rfl, by unfold apL; rw [HKP.out]; exact HO.out⟩, hbw6⟩
end Go.Proofs.YtbajiamkgffhkaaDoor

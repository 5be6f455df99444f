/-
  The specification's CompareVec and JoinVec, the program's JoinVec, at every two lists of numbers.
-/
import Derived.Test.YtlbcmlleoncddaaCmp
import Derived.OwnWalk
import Derived.WalkSmall
namespace Go.Proofs.Ytlbcmlleoncddaa
open Go.RowKit M
open Clk (upd upd_same upd_other)
set_option maxHeartbeats 1000000 in
theorem spec_cmp_no (v u : Value) (n m : Nat) (f g : Nat → Int) (w : World) (hv : IntsOf w v n f) (hu : IntsOf w u m g) (hn : n ≤ 1048576) (hm : m ≤ 1048576) (hno : ¬ (n = m ∧ n ≤ 6)) :
    Calls Try.prog 29 #[v, u] w fun e w' => e = .returned (.tuple #[.int .i64 0, .bool false]) ∧ Below w.heap.size w w' := by
  obtain ⟨a, cap, rfl⟩ := hv.form
  obtain ⟨a2, cap2, rfl⟩ := hu.form
  clear hv hu
  by_cases h1 : n = m
  · subst h1
    have h3 : ((n : Int) != (n : Int)) = false := by simp
    have h2 : ((n : Int) > 6) := by omega
    clear hno
    go_enter Try.func29, Try.ntmps29
    go_wp2
    go_ret2
    exact ⟨rfl, Below.refl _ _⟩
  · have h3 : ((n : Int) != (m : Int)) = true := by simp; omega
    clear hno
    go_enter Try.func29, Try.ntmps29
    go_wp2
    go_ret2
    exact ⟨rfl, Below.refl _ _⟩
set_option maxHeartbeats 2000000 in
theorem spec_cmp (v u : Value) (n : Nat) (f g : Nat → Int) (w : World) (hv : IntsOf w v n f) (hu : IntsOf w u n g) (hn : n ≤ 6) :
    Calls Try.prog 29 #[v, u] w fun e w' => e = .returned (.tuple #[.int .i64 (cmpB (anyLt f g n) (anyLt g f n)), .bool true]) ∧ Below w.heap.size w w' := by
  obtain ⟨a, cap, rfl, hr⟩ := hv
  obtain ⟨a2, cap2, rfl, hr2⟩ := hu
  have HR := hide hr
  have HR2 := hide hr2
  clear hr hr2
  have h3 : ((n : Int) != (n : Int)) = false := by simp
  go_enter Try.func29, Try.ntmps29
  go_wp2
  go_loopw [6, 7, 21] (fun x y i wr => ∃ (k : Nat) (bl bm : Bool), k ≤ n ∧ i = .int .i64 k ∧ x = .bool bl ∧ y = .bool bm ∧ Hid (anyLt f g k = bl) ∧ Hid (anyLt g f k = bm) ∧ Below w.heap.size w wr) (fun _ _ i _ => n - (intOf i).toNat)
  case atStart => exact ⟨0, false, false, Nat.zero_le _, rfl, rfl, rfl, hide rfl, hide rfl, Below.refl _ _⟩
  case round =>
    obtain ⟨k, bl, bm, hk, rfl, rfl, rfl, HL, HM, hbw⟩ := hrel
    by_cases hlt : k < n
    · obtain ⟨b, off, rfl, hb, hrow⟩ := HR.out (by omega)
      obtain ⟨b2, off2, rfl, hb2, hrow2⟩ := HR2.out (by omega)
      have q0 := (hbw.cell (p := ⟨b, off + k, none⟩) hb).trans (hrow k hlt)
      have q1 := (hbw.cell (p := ⟨b2, off2 + k, none⟩) hb2).trans (hrow2 k hlt)
      have HL2 := hide (show anyLt f g (k + 1) = (bl || decide (f k < g k)) by rw [← HL.out]; rfl)
      have HM2 := hide (show anyLt g f (k + 1) = (bm || decide (g k < f k)) by rw [← HM.out]; rfl)
      clear hrow hrow2 HR HR2 HL HM
      cases bl <;> cases bm
      all_goals
        go_wp2
        go_quiet (fail)
        go_wp2
        go_quiet (fail)
        go_wp2
        refine ⟨⟨k + 1, _, _, by omega, by go_num, rfl, rfl, hide ?_, hide ?_, ?_⟩, by simp [intOf]; omega⟩
        · rw [HL2.out]; simp
        · rw [HM2.out]; simp
        · exact below_drewN hbw _
    · obtain rfl : k = n := by omega
      have h1 := HL.out
      have h2 := HM.out
      have HC := hide (show cmpB (anyLt f g k) (anyLt g f k) = cmpB bl bm by rw [h1, h2])
      clear HR HR2 HL HM h1 h2
      cases bl <;> cases bm
      all_goals
        go_wp2
        go_ret2
        exact ⟨by rw [HC.out]; rfl, hbw⟩

namespace M
theorem splice_all (n : Nat) (f : Nat → Int) (z : Nat → Int) : (splice ((List.range n).map (iv z)) 0 ((List.range n).map (iv f))).toArray = cf n (iv f) := by
  unfold splice cf
  simp
end M
set_option maxHeartbeats 1000000 in
theorem list_vec (v : Nat → Int) (n : Nat) (w : World) (hn : n ≤ 6) :
    Calls Try.prog 51 #[vecV v, .int .i64 (n : Int)] w fun e w' => (e = .returned (.slice (some ⟨w.heap.size + 1, 0, none⟩) n n) ∧ Blk w' (w.heap.size + 1) n (iv v) 3) ∧ Below w.heap.size w w' := by
  have hmk := make_ints n (by omega)
  have HS := hide (splice_all n v (fun _ => 0))
  have hcs : (((List.range n).map (iv v)).length) = n := by simp
  go_enter Try.func51, Try.ntmps51
  go_wp2_with (refine wpList_copy_splice rfl _ _ 29 29 rfl 3 Try.underlying29 (by kernel_rfl) _ _ _ _ _ _ rfl rfl (w.heap.size + 1) 0 ((List.range n).map (iv fun _ => 0)) 3 ?c1 ((List.range n).map (iv v)) ?c2 ?c3 ?c4 ?c5 (w.heap.size + 1) (w.alloc (.cells (cf 6 (iv v)) 72)) ?c6 ?c7 ?_)
  case c1 =>
    have := heap_alloc_new (w.alloc (.cells (cf 6 (iv v)) 72)) (.cells (cf n (iv fun _ => 0)) 3)
    rw [World.size_alloc] at this; exact this
  case c2 => rw [hcs]; exact (Nat.min_eq_right hn).symm
  case c3 =>
    intro _ j u hj
    have hjn : j < n := by have := (List.getElem?_eq_some_iff.1 hj).1; simpa using this
    rw [List.getElem?_range hjn] at hj
    simp only [Option.some.injEq] at hj
    subst hj
    match j, (show j < 6 by omega) with
    | 0, _ | 1, _ | 2, _ | 3, _ | 4, _ | 5, _ => rfl
  case c4 => rw [hcs]; simp
  case c5 => intro u hu; obtain ⟨j, _, rfl⟩ := List.mem_map.1 hu; rfl
  case c6 => exact (Below.refl _ _).alloc (by simp) _
  case c7 => exact Nat.le_refl _
  intro w1 HG hb1
  have hg := HG.out
  rw [HS.out] at hg
  have HB := hide (show Blk w1 (w.heap.size + 1) n (iv v) 3 from hg)
  have hbw : Below w.heap.size w w1 := ((Below.refl w.heap.size w).alloc (Nat.le_refl _) _).trans (hb1.mono (by omega))
  clear HG hg HS
  go_wp2
  go_ret
  exact ⟨⟨rfl, HB.out⟩, hbw⟩

namespace M
theorem blk_below {W w : World} {b : Nat} {o : Obj} (h : W.heap[b]? = some o) (hb : Below W.heap.size W w) : w.heap[b]? = some o := by
  rw [hb.block b]
  · exact h
  · rcases Nat.lt_or_ge b W.heap.size with h' | h'
    · exact h'
    · rw [Array.getElem?_eq_none h'] at h; cases h
theorem owns_below {w w' : World} {B e size n : Nat} {v : Value} {xs : List Value} (h : w.ownsRow B e size v n xs) (hb : Below w.heap.size w w') : w'.ownsRow B e size v n xs := by
  refine ⟨h.1, ?_⟩
  rcases h.2 with h0 | ⟨g, cap, cur, hv, hB, hg, r⟩
  · exact .inl h0
  · exact .inr ⟨g, cap, cur, hv, hB, blk_below hg hb, r⟩
theorem own_form {w : World} {B e s n : Nat} {v : Value} {xs : List Value} (h : w.ownsRow B e s v n xs) : ∃ a cap, v = .slice a n cap := by
  rcases h.2 with ⟨rfl, rfl⟩ | ⟨g, cap, cur, rfl, _⟩
  · exact ⟨_, _, rfl⟩
  · exact ⟨_, _, rfl⟩
/-- The cells of a row that the call owns. -/
theorem own_cells {w : World} {B e s n : Nat} {v : Value} {xs : List Value} (h : w.ownsRow B e s v n xs) (hx : xs.length = n * s) : ∃ a cap, v = .slice a n cap ∧ (0 < n → ∃ g, a = some ⟨g, 0, none⟩ ∧ B ≤ g ∧ g < w.heap.size ∧ (∀ i u, xs[i]? = some u → w.cell? ⟨g, i, none⟩ = some u)) := by
  rcases h.2 with ⟨rfl, h0⟩ | ⟨g, cap, cur, rfl, hB, hg, hn, hc, hs, ht⟩
  · exact ⟨_, _, by rw [h0], fun hp => by omega⟩
  · refine ⟨_, cap, rfl, fun _ => ⟨g, rfl, hB, ?_, fun i u hi => ?_⟩⟩
    · rcases Nat.lt_or_ge g w.heap.size with h' | h'
      · exact h'
      · rw [Array.getElem?_eq_none h'] at hg; cases hg
    · have hil : i < xs.length := (List.getElem?_eq_some_iff.1 hi).1
      rw [← ht, List.getElem?_take_of_lt (by omega), Array.getElem?_toList] at hi
      simp [World.cell?, hg, hi]
theorem own_ints {w : World} {B e n : Nat} {v : Value} {f : Nat → Int} (h : w.ownsRow B e 1 v n ((List.range n).map (iv f))) : IntsOf w v n f := by
  obtain ⟨a, cap, hv, hr⟩ := own_cells h (by simp)
  refine ⟨a, cap, hv, fun hn => ?_⟩
  obtain ⟨g, ha, _, hlt, hc⟩ := hr hn
  exact ⟨g, 0, ha, hlt, fun i hi => by rw [Nat.zero_add]; exact hc i _ (by rw [List.getElem?_map, List.getElem?_range hi]; rfl)⟩
theorem range_snoc (f : Nat → Value) (k : Nat) : (List.range (k + 1)).map f = (List.range k).map f ++ [f k] := by rw [List.range_succ]; simp
theorem news1 (w : World) (c : Value) (t : TypeId) : ∀ (j : Nat) u, [c][j]? = some u → (w.alloc (.cells #[c] t)).cell? ((⟨w.heap.size, 0, none⟩ : Addr).add j) = some u := by
  intro j u hj
  match j, hj with
  | 0, hj => simp at hj; subst hj; simp [Addr.add]
def lenV : Value → Nat
  | .slice _ n _ => n
  | _ => 0
end M
set_option maxHeartbeats 1000000 in
theorem spec_join_no (v u : Value) (n m : Nat) (f g : Nat → Int) (w : World) (hv : IntsOf w v n f) (hu : IntsOf w u m g) (hn : n ≤ 1048576) (hm : m ≤ 1048576) (hno : ¬ (n = m ∧ n ≤ 6)) :
    Calls Try.prog 32 #[v, u] w fun e w' => e = .returned (.tuple #[.slice none 0 0, .bool false]) ∧ Below w.heap.size w w' := by
  obtain ⟨a, cap, rfl⟩ := hv.form
  obtain ⟨a2, cap2, rfl⟩ := hu.form
  clear hv hu
  by_cases h1 : n = m
  · subst h1
    have h3 : ((n : Int) != (n : Int)) = false := by simp
    have h2 : ((n : Int) > 6) := by omega
    clear hno
    go_enter Try.func32, Try.ntmps32
    go_wp2
    go_ret2
    exact ⟨rfl, Below.refl _ _⟩
  · have h3 : ((n : Int) != (m : Int)) = true := by simp; omega
    clear hno
    go_enter Try.func32, Try.ntmps32
    go_wp2
    go_ret2
    exact ⟨rfl, Below.refl _ _⟩
set_option maxHeartbeats 2000000 in
theorem spec_join (v u : Value) (n : Nat) (f g : Nat → Int) (w : World) (hv : IntsOf w v n f) (hu : IntsOf w u n g) (hn : n ≤ 6) :
    Calls Try.prog 32 #[v, u] w fun e w' => (∃ r, e = .returned (.tuple #[r, .bool true]) ∧ w'.ownsRow w.heap.size 3 1 r n ((List.range n).map (iv (mxf f g)))) ∧ Below w.heap.size w w' := by
  obtain ⟨i0, hi, hz0, hz1, hz2⟩ := info_parts info_int
  obtain ⟨a, cap, rfl, hr⟩ := hv
  obtain ⟨a2, cap2, rfl, hr2⟩ := hu
  have HR := hide hr
  have HR2 := hide hr2
  clear hr hr2
  have h3 : ((n : Int) != (n : Int)) = false := by simp
  go_enter Try.func32, Try.ntmps32
  go_wp2
  go_loopw [6, 21] (fun x i wr => ∃ (k : Nat) (ao : Option Addr) (c : Nat), k ≤ n ∧ i = .int .i64 k ∧ x = .slice ao k c ∧ Hid (wr.ownsRow w.heap.size 3 1 (.slice ao k c) k ((List.range k).map (iv (mxf f g)))) ∧ Below w.heap.size w wr) (fun _ i _ => n - (intOf i).toNat)
  case atStart => exact ⟨0, none, 0, Nat.zero_le _, rfl, rfl, hide (World.ownsRow_nil _ _ _ _), Below.refl _ _⟩
  case round =>
    obtain ⟨k, ao, c, hk, rfl, rfl, HO, hbw⟩ := hrel
    by_cases hlt : k < n
    · obtain ⟨b, off, rfl, hb, hrow⟩ := HR.out (by omega)
      obtain ⟨b2, off2, rfl, hb2, hrow2⟩ := HR2.out (by omega)
      have q0 := (hbw.cell (p := ⟨b, off + k, none⟩) hb).trans (hrow k hlt)
      have q1 := (hbw.cell (p := ⟨b2, off2 + k, none⟩) hb2).trans (hrow2 k hlt)
      have HS := hide (range_snoc (iv (mxf f g)) k)
      have hown := HO.out
      clear hrow hrow2 HR HR2 HO
      by_cases hgt : g k > f k
      · have HM := hide (show mxf f g k = g k by unfold mxf; omega)
        go_wp2_with (at_builtin; refine wpList_append_own _ rfl _ _ 29 rfl w.heap.size 3 i0 _ 1 8 Try.underlying29 hi hz0 hz1 hz2 rfl (by decide) _ k _ rfl (hown.alloc _) ⟨wr.heap.size, 0, none⟩ 1 1 [.int .i64 (g k)] rfl rfl ?c1 ?c2 ?c3 ?c4 ?c5 ?_)
        try (case c1 => exact news1 wr _ _)
        case c2 => first | rfl | (intro u hu; simp at hu; subst hu; rfl)
        case c3 => unfold maxLen; omega
        case c4 => omega
        case c5 => have := hbw.size; simp; omega
        intro v' w4 hown4 hgrow _
        have hbw4 : Below w.heap.size w w4 := (hbw.alloc hbw.size _).grown hgrow (by have := hbw.size; simp; omega) (fun j hj => (hown.lt j hj).1)
        obtain ⟨a4, c4, rfl⟩ := own_form hown4
        have HO4 := hide (show w4.ownsRow w.heap.size 3 1 (.slice a4 (k + 1) c4) (k + 1) ((List.range (k + 1)).map (iv (mxf f g))) by rw [HS.out]; unfold iv; rw [HM.out]; exact hown4)
        clear hown4 hgrow hown
        go_wp2
        go_roundw
        case rel => exact ⟨k + 1, a4, c4, by omega, by go_num, rfl, HO4, hbw4⟩
        case measure => simp [intOf]; omega
      · have HM := hide (show mxf f g k = f k by unfold mxf; omega)
        go_wp2_with (at_builtin; refine wpList_append_own _ rfl _ _ 29 rfl w.heap.size 3 i0 _ 1 8 Try.underlying29 hi hz0 hz1 hz2 rfl (by decide) _ k _ rfl (hown.alloc _) ⟨wr.heap.size, 0, none⟩ 1 1 [.int .i64 (f k)] rfl rfl ?c1 ?c2 ?c3 ?c4 ?c5 ?_)
        try (case c1 => exact news1 wr _ _)
        case c2 => first | rfl | (intro u hu; simp at hu; subst hu; rfl)
        case c3 => unfold maxLen; omega
        case c4 => omega
        case c5 => have := hbw.size; simp; omega
        intro v' w4 hown4 hgrow _
        have hbw4 : Below w.heap.size w w4 := (hbw.alloc hbw.size _).grown hgrow (by have := hbw.size; simp; omega) (fun j hj => (hown.lt j hj).1)
        obtain ⟨a4, c4, rfl⟩ := own_form hown4
        have HO4 := hide (show w4.ownsRow w.heap.size 3 1 (.slice a4 (k + 1) c4) (k + 1) ((List.range (k + 1)).map (iv (mxf f g))) by rw [HS.out]; unfold iv; rw [HM.out]; exact hown4)
        clear hown4 hgrow hown
        go_wp2
        go_roundw
        case rel => exact ⟨k + 1, a4, c4, by omega, by go_num, rfl, HO4, hbw4⟩
        case measure => simp [intOf]; omega
    · obtain rfl : k = n := by omega
      clear HR HR2
      go_wp2
      go_ret2
      exact ⟨⟨_, rfl, HO.out⟩, hbw⟩
set_option maxHeartbeats 1000000 in
theorem impl_join_no (v u : Value) (n m : Nat) (f g : Nat → Int) (w : World) (hv : IntsOf w v n f) (hu : IntsOf w u m g) (hn : n ≤ 1048576) (hm : m ≤ 1048576) (hno : ¬ (n = m ∧ n ≤ 6)) :
    Calls Try.prog 33 #[v, u] w fun e w' => e = .returned (.tuple #[.slice none 0 0, .bool false]) ∧ Below w.heap.size w w' := by
  obtain ⟨a, cap, rfl⟩ := hv.form
  obtain ⟨a2, cap2, rfl⟩ := hu.form
  have HN := hide hno
  clear hv hu hno
  go_enter Try.func33, Try.ntmps33
  go_wp2_with fail
  refine (alike_no _ _ _ _ _ _ _ hn hm HN.out).mono ?_
  rintro e w1 ⟨rfl, rfl⟩
  go_wp2
  go_ret2
  exact ⟨rfl, Below.refl _ _⟩
namespace M
theorem mxf_pad (n : Nat) (f g : Nat → Int) (i : Nat) (h : i < n) : mxf (pad n f) (pad n g) i = mxf f g i := by
  unfold mxf pad; rw [if_pos h, if_pos h]
end M
set_option maxHeartbeats 1000000 in
theorem impl_join (v u : Value) (n : Nat) (f g : Nat → Int) (w : World) (hv : IntsOf w v n f) (hu : IntsOf w u n g) (hn : n ≤ 6) :
    Calls Try.prog 33 #[v, u] w fun e w' => (∃ b, e = .returned (.tuple #[.slice (some ⟨b, 0, none⟩) n n, .bool true]) ∧ w.heap.size ≤ b ∧ Blk w' b n (iv (mxf f g)) 3) ∧ Below w.heap.size w w' := by
  have HV := hide hv
  have HU := hide hu
  obtain ⟨a, cap, rfl⟩ := hv.form
  obtain ⟨a2, cap2, rfl⟩ := hu.form
  clear hv hu
  go_enter Try.func33, Try.ntmps33
  go_wp2_with fail
  refine (alike_yes _ _ _ _ _ _ hn).mono ?_
  rintro e w1 ⟨rfl, rfl⟩
  go_wp2_with fail
  refine (vector_of _ n f _ HV.out hn).mono ?_
  rintro e w1 ⟨rfl, hb1⟩
  go_wp2_with fail
  refine (vector_of _ n g _ (HU.out.below hb1) hn).mono ?_
  rintro e w2 ⟨rfl, hb⟩
  have hb2 := hb1.trans (hb.mono hb1.size)
  clear hb hb1 HV HU
  go_wp2_with fail
  refine (join_vec _ _ _).mono ?_
  rintro e w3 ⟨rfl, hb⟩
  have hb3 := hb2.trans (hb.mono hb2.size)
  clear hb hb2
  go_wp2_with fail
  refine (list_vec _ n _ hn).mono ?_
  rintro e w4 ⟨⟨rfl, hB⟩, hb⟩
  have hb4 := hb3.trans (hb.mono hb3.size)
  have HB := hide (hB.ext (f' := iv (mxf f g)) (fun i hi => by unfold iv; rw [mxf_pad n f g i hi]))
  have hsz := hb3.size
  clear hb hB hb3
  go_wp2
  go_ret2
  exact ⟨⟨_, rfl, by omega, HB.out⟩, hb4⟩
end Go.Proofs.Ytlbcmlleoncddaa

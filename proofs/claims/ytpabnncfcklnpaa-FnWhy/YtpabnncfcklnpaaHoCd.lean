/-
  The specification's drawn rules, facts and goal: whatever the bytes, lists that can be read.
-/
import Derived.Test.YtpabnncfcklnpaaHoCr
import Derived.Test.YtpabnncfcklnpaaHoQ
namespace Go.Proofs.Ytpabnncfcklnpaa
open Go.RowKit M
namespace M
def tsR (R : List Rw) (i : Nat) : Tk := match R[i]? with
  | some r => ⟨r.hd, r.xs.length, at' r.xs⟩
  | none => ⟨0, 0, fun _ => 0⟩
theorem tsR_some {R : List Rw} {i : Nat} {r : Rw} (h : R[i]? = some r) : tsR R i = ⟨r.hd, r.xs.length, at' r.xs⟩ := by unfold tsR; rw [h]
theorem own_list {w : World} {B : Nat} {v : Value} {L : List Nat} (h : w.ownsRow B 3 1 v L.length (L.map nv)) : IntsOf w v L.length (at' L) := own_ints (own_lst h)
theorem rows_tasks {w : World} {B : Nat} {v : Value} {R : List Rw} (h : w.ownsRow B 48 2 v R.length (cellsR R)) (hd : Bods w B R) : TasksOf w v R.length (tsR R) := by
  obtain ⟨a, cap, hv, hr⟩ := own_cells h (cellsR_len R)
  refine ⟨a, cap, hv, fun hn => ?_⟩
  obtain ⟨g, ha, _, hlt, hc⟩ := hr hn
  refine ⟨g, 0, ha, hlt, fun i hi => ?_⟩
  have hs : R[i]? = some R[i] := List.getElem?_eq_getElem hi
  rw [tsR_some hs, Nat.zero_add]
  have hb := hd R[i] (List.getElem_mem hi)
  exact ⟨_, hc _ _ (cellsR_at R i _ hs).1, hc _ _ (cellsR_at R i _ hs).2, own_list hb.2⟩
theorem tsR_nn {w : World} {B : Nat} {R : List Rw} (hd : Bods w B R) (i : Nat) : (tsR R i).nn ≤ 4 := by
  unfold tsR
  rcases h : R[i]? with _ | r
  · simp
  · exact (hd r (List.mem_of_getElem? h)).1
end M
set_option maxHeartbeats 4000000 in
theorem draw_follows (v : Value) (n : Nat) (f : Nat → Nat) (w : World) (hv : OctetsOf w v n f) (hn : n ≤ 1048576) :
    Calls Try.prog 56 #[v] w fun e w' => (∃ (r u : Value) (x : Int) (k m : Nat) (ts : Nat → Tk) (c : Nat → Int), e = .returned (.tuple #[r, u, .int .i64 x]) ∧ (-1 ≤ x ∧ x ≤ 14) ∧ k ≤ 61 ∧ (∀ i, (ts i).nn ≤ 4) ∧ TasksOf w' r k ts ∧ m ≤ 4 ∧ IntsOf w' u m c) ∧ Below w.heap.size w w' := by
  have HV := hide hv
  obtain ⟨a, cap, rfl⟩ := hv.form
  clear hv
  have H1 := hide (show ∀ w1, w.alloc (.cells #[.slice a n cap, .int .i64 0, .int .u64 0] 89) = w1 → CurAt w1 w.heap.size w.heap.size 0 ∧ Below w.heap.size w w1 from by
    rintro w1 rfl
    have hb := (Below.refl w.heap.size w).alloc (Nat.le_refl _) (.cells #[.slice a n cap, .int .i64 0, .int .u64 0] 89)
    exact ⟨⟨.slice a n cap, n, f, 0, 0, Nat.le_refl _, hn, Nat.le_refl _, Blk.fresh w _ 3 _ _ rfl, w, rfl, HV.out, hb⟩, hb⟩)
  go_enter Try.func56, Try.ntmps56
  go_wp2_with fail
  generalize hW : w.alloc _ = w1
  obtain ⟨hc1, hb1⟩ := H1.out w1 hW
  clear hW H1 HV
  have hl1 := hc1.lt
  refine (cur_rules w.heap.size w.heap.size 0 _ hc1 (by omega)).mono ?_
  rintro e w2 ⟨⟨r, rfl, R, hR, hor, hod⟩, hc2, ho2⟩
  have hB2 : w.heap.size ≤ w2.heap.size := Nat.le_trans hb1.size ho2.size
  have HB2 := hide (hb1.trans (ho2.below (Nat.le_refl _) hb1.size))
  have HR2 := hide (And.intro hor hod)
  have HC2 := hide hc2
  have hl2 := ho2.size
  obtain ⟨ra, rc, rfl⟩ := own_form hor
  clear hc1 hb1 hor hod hc2 ho2
  go_wp2_with fail
  refine (cur_set w.heap.size w.heap.size _ 4 _ HC2.out (by omega) (by omega)).mono ?_
  rintro e w3 ⟨⟨u, rfl, xs, hxl, hou⟩, hc3, ho3⟩
  have HB3 := hide (HB2.out.trans (ho3.below (Nat.le_refl _) hB2))
  have HR3 := hide (And.intro (ho3.owns HR2.out.1 hl1) (HR2.out.2.but ho3 hl1))
  have hB3 := ho3.size
  have HU3 := hide hou
  have HC3 := hide hc3
  obtain ⟨ua, uc, rfl⟩ := own_form hou
  clear HB2 HR2 HC2 hou hc3 ho3
  go_wp2_with fail
  refine (cur_pick w.heap.size w.heap.size _ 16 _ HC3.out (by omega) (by omega)).mono ?_
  rintro e w4 ⟨⟨y, hy, rfl⟩, hc4, ho4⟩
  have HB4 := hide (HB3.out.trans (ho4.below (Nat.le_refl _) (by omega)))
  have HR4 := hide (And.intro (ho4.owns HR3.out.1 hl1) (HR3.out.2.but ho4 hl1))
  have HU4 := hide (ho4.owns HU3.out (by omega))
  have hy15 : y ≤ 15 := by omega
  clear HB3 HR3 HU3 HC3 hc4 ho4 hy
  go_wp2
  go_ret3
  exact ⟨⟨_, _, (y : Int) - 1, R.length, xs.length, tsR R, at' xs, by first | rfl | (simp; omega), by omega, hR, tsR_nn HR4.out.2, rows_tasks HR4.out.1 HR4.out.2, hxl, own_list HU4.out⟩, HB4.out⟩
set_option maxHeartbeats 4000000 in
theorem draw_why (v : Value) (n : Nat) (f : Nat → Nat) (w : World) (hv : OctetsOf w v n f) (hn : n ≤ 1048576) :
    Calls Try.prog 33 #[v] w fun e w' => (∃ (r u : Value) (x : Int) (k m : Nat) (ts : Nat → Tk) (c : Nat → Int), e = .returned (.tuple #[r, u, .int .i64 x]) ∧ (-1 ≤ x ∧ x ≤ 14) ∧ k ≤ 61 ∧ (∀ i, (ts i).nn ≤ 4) ∧ TasksOf w' r k ts ∧ m ≤ 4 ∧ IntsOf w' u m c) ∧ Below w.heap.size w w' := by
  have HV := hide hv
  obtain ⟨a, cap, rfl⟩ := hv.form
  clear hv
  go_enter Try.func33, Try.ntmps33
  go_wp2_with fail
  refine (draw_follows _ n f _ HV.out hn).mono ?_
  rintro e w2 ⟨⟨r, u, x, k, m, ts, c, rfl, h1, h2, h3, h4, h5, h6⟩, hb⟩
  have H := hide (And.intro h1 (And.intro h2 (And.intro h3 (And.intro h4 (And.intro h5 h6)))))
  clear h1 h2 h3 h4 h5 h6
  go_wp2
  go_ret3
  exact ⟨⟨r, u, x, k, m, ts, c, rfl, H.out.1, H.out.2.1, H.out.2.2.1, H.out.2.2.2.1, H.out.2.2.2.2.1, H.out.2.2.2.2.2⟩, hb⟩
end Go.Proofs.Ytpabnncfcklnpaa

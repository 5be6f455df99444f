/-
  Both texts of GoodNet, at every net.
-/
import Derived.Test.YthilapalgakhhaaNetBase
namespace Go.Proofs.Ythilapalgakhhaa
open Go.RowKit M
namespace M
theorem cell_new2 (w : World) (x y : Value) (t : TypeId) : Blk (w.alloc (.cells #[x, y] t)) w.heap.size 2 (fun i => if i = 0 then x else y) t := Blk.fresh w _ 2 _ t rfl
end M
set_option maxHeartbeats 600000 in
theorem impl_good (p : Int) (v : Value) (k : Nat) (st : Nat → Sp) (b : Bool) (w : World) (hv : StepsOf w v k st) (hs : Short k st) (hb : decide (GoodN p k st) = b) :
    Calls Try.prog 16 #[netV p v] w fun e w' => e = .returned (.bool b) ∧ Below w.heap.size w w' := by
  obtain ⟨a, cap, rfl, hr⟩ := hv
  have HR := hide hr
  have HS := hide hs.2
  have hk := hs.1
  clear hr hs
  by_cases hp : 1 ≤ p ∧ p ≤ 8
  · have HP := hide (show decide (1 ≤ p ∧ p ≤ 8) = true by rw [decide_eq_true_eq]; exact hp)
    by_cases hk12 : (k : Int) > 12
    · have eb : b = false := by rw [← hb, decide_eq_false_iff_not]; intro H; have := H.2.1; omega
      subst eb
      clear hb HR HS
      go_enter Try.func16, Try.ntmps16
      go_wp2_with (go_at_call 48; refine (within_to _ _ _ _ _ HP.out).mono ?_; rintro e w' ⟨rfl, rfl⟩)
      go_ret
      exact ⟨rfl, (Below.refl _ _).alloc (Nat.le_refl _) _⟩
    · have HB := hide hb
      obtain ⟨hp1, hp2⟩ := hp
      clear hb
      go_enter Try.func16, Try.ntmps16
      go_wp2_with (go_at_call 48; refine (within_to _ _ _ _ _ HP.out).mono ?_; rintro e w' ⟨rfl, rfl⟩)
      go_loopw [18] (fun i wr => ∃ j : Nat, j ≤ k ∧ i = .int .i64 j ∧ Hid (∀ q, q < j → GoodS p (st q)) ∧ Below (w.heap.size + 1) (w.alloc (.cells #[.int .i64 p, .slice a k cap] 29)) wr) (fun i _ => k - (intOf i).toNat)
      case atStart => exact ⟨0, Nat.zero_le _, rfl, hide (fun q h => absurd h (by omega)), Below.refl _ _⟩
      case round =>
        obtain ⟨j, hj, rfl, HG, hbw⟩ := hrel
        have hbx : Below w.heap.size w wr := ((Below.refl _ _).alloc (Nat.le_refl _) _).trans (hbw.mono (by omega))
        have hn : Blk wr w.heap.size 2 (fun i => if i = 0 then .int .i64 p else .slice a k cap) 29 := (cell_new2 w _ _ _).below hbw (by omega)
        have hsz := hn.lt
        have n0 : wr.cell? ⟨w.heap.size, 0, none⟩ = some (.int .i64 p) := hn.cell (by omega)
        have n1 : wr.cell? ⟨w.heap.size, 1, none⟩ = some (.slice a k cap) := hn.cell (by omega)
        by_cases hlt : j < k
        · obtain ⟨bb, off, rfl, hbb, hrow⟩ := HR.out (by omega)
          obtain ⟨x, y, q1, q2, i1, i2⟩ := hrow j hlt
          obtain ⟨ax, cx, rfl⟩ := i1.form
          obtain ⟨ay, cy, rfl⟩ := i2.form
          have c0 := (hbx.cell (p := ⟨bb, off + j * 2, none⟩) hbb).trans q1
          have c1 := (hbx.cell (p := ⟨bb, off + j * 2 + 1, none⟩) hbb).trans q2
          have hS := HS.out j hlt
          have I1 := hide (i1.below hbx)
          have I2 := hide (i2.below hbx)
          have hbw2 := hbw.alloc (by omega) (.cells #[.slice ax (st j).ni cx, .slice ay (st j).no cy] 60)
          have hbx2 := (Below.refl wr.heap.size wr).alloc (Nat.le_refl _) (.cells #[.slice ax (st j).ni cx, .slice ay (st j).no cy] 60)
          by_cases hg1 : Ris (st j).ni (st j).fi p
          · have HG1 := hide (show decide (Ris (st j).ni (st j).fi p) = true by rw [decide_eq_true_eq]; exact hg1)
            by_cases hg2 : Ris (st j).no (st j).fo p
            · have HG2 := hide (show decide (Ris (st j).no (st j).fo p) = true by rw [decide_eq_true_eq]; exact hg2)
              have HG' := hide (show ∀ q, q < j + 1 → GoodS p (st q) from fun q hq => by
                rcases (show q < j ∨ q = j by omega) with h | h
                · exact HG.out q h
                · subst h; exact ⟨hg1, hg2⟩)
              clear HR HS hrow HG q1 q2 i1 i2 hg1 hg2 hn
              go_wp2_with fail
              refine (rising_to _ _ _ _ _ _ (I1.out.below hbx2) hS.1 hp1 hp2 HG1.out).mono ?_
              rintro e w' ⟨rfl, rfl⟩
              go_wp2_with fail
              refine (rising_to _ _ _ _ _ _ (I2.out.below hbx2) hS.2 hp1 hp2 HG2.out).mono ?_
              rintro e w' ⟨rfl, rfl⟩
              go_wp2
              exact ⟨⟨j + 1, by omega, by go_num, HG', hbw2⟩, by simp [intOf]; omega⟩
            · have HG2 := hide (show decide (Ris (st j).no (st j).fo p) = false by rw [decide_eq_false_iff_not]; exact hg2)
              have eb : b = false := by rw [← HB.out, decide_eq_false_iff_not]; exact fun H => hg2 (H.2.2 j hlt).2
              subst eb
              clear HR HS hrow HG q1 q2 i1 i2 hg1 hg2 hn HB
              go_wp2_with fail
              refine (rising_to _ _ _ _ _ _ (I1.out.below hbx2) hS.1 hp1 hp2 HG1.out).mono ?_
              rintro e w' ⟨rfl, rfl⟩
              go_wp2_with fail
              refine (rising_to _ _ _ _ _ _ (I2.out.below hbx2) hS.2 hp1 hp2 HG2.out).mono ?_
              rintro e w' ⟨rfl, rfl⟩
              go_wp2
              go_ret
              exact ⟨rfl, hbx.alloc hbx.size _⟩
          · have HG1 := hide (show decide (Ris (st j).ni (st j).fi p) = false by rw [decide_eq_false_iff_not]; exact hg1)
            have eb : b = false := by rw [← HB.out, decide_eq_false_iff_not]; exact fun H => hg1 (H.2.2 j hlt).1
            subst eb
            clear HR HS hrow HG q1 q2 i1 i2 hg1 hn HB
            go_wp2_with (go_at_call 49; refine (rising_to _ _ _ _ _ _ (I1.out.below hbx2) hS.1 hp1 hp2 HG1.out).mono ?_; rintro e w' ⟨rfl, rfl⟩)
            go_ret
            exact ⟨rfl, hbx.alloc hbx.size _⟩
        · obtain rfl : j = k := by omega
          have eb : b = true := by rw [← HB.out, decide_eq_true_eq]; exact ⟨⟨hp1, hp2⟩, by omega, HG.out⟩
          subst eb
          clear HR HS HG HB hn
          go_wp2
          go_ret
          exact ⟨rfl, hbx⟩
  · have HP := hide (show decide (1 ≤ p ∧ p ≤ 8) = false by rw [decide_eq_false_iff_not]; exact hp)
    have eb : b = false := by rw [← hb, decide_eq_false_iff_not]; exact fun H => hp H.1
    subst eb
    clear hb HR HS hp
    go_enter Try.func16, Try.ntmps16
    go_wp2_with (go_at_call 48; refine (within_to _ _ _ _ _ HP.out).mono ?_; rintro e w' ⟨rfl, rfl⟩)
    go_ret
    exact ⟨rfl, (Below.refl _ _).alloc (Nat.le_refl _) _⟩
end Go.Proofs.Ythilapalgakhhaa

/-
  The program's look at a diagram: endsAlways, comesToYes, decisionsIn, slices.Equal.
-/
import Derived.Test.YtfiooclkefmijaaDoorBddI
namespace Go.Proofs.YtfiooclkefmijaaDoor
open Go.RowKit M
open Clk (upd upd_same upd_other)
open Go.Sort (grow)
namespace M
open Bdd
/-- One choice, as it must be at place n. -/
def OkC (n : Nat) (c : Ch) : Prop := 0 ≤ c.v ∧ c.v ≤ 5 ∧ -2 ≤ c.no ∧ c.no ≤ (n : Int) - 1 ∧ -2 ≤ c.yes ∧ c.yes ≤ (n : Int) - 1
theorem wf_iff (l : List Ch) : WF l ↔ ∀ i c, l[i]? = some c → OkC i c := by
  constructor
  · intro h i c hc
    obtain ⟨h0, h1, h2, h3, h4, h5⟩ := h i c hc
    exact ⟨h0, by omega, h2, by omega, h4, by omega⟩
  · intro h i c hc
    obtain ⟨h0, h1, h2, h3, h4, h5⟩ := h i c hc
    exact ⟨h0, by omega, h2, by omega, h4, by omega⟩
/-- A bool that tells whether p holds. -/
def Tells (p : Prop) (e : Ending) : Prop := ∃ b : Bool, e = .returned (.bool b) ∧ (b = true ↔ p)
theorem tells_yes {p : Prop} (h : p) : Tells p (.returned (.bool true)) := ⟨true, rfl, fun _ => h, fun _ => rfl⟩
theorem tells_no {p : Prop} (h : ¬ p) : Tells p (.returned (.bool false)) := ⟨false, rfl, by simp [h]⟩
end M
theorem within_is (x a b : Int) (r : Bool) (h : decide (a ≤ x ∧ x ≤ b) = r) (w : World) :
    Calls Tryd.prog 49 #[.int .i64 x, .int .i64 a, .int .i64 b] w fun e w' => e = .returned (.bool r) ∧ w' = w := by
  by_cases h1 : a ≤ x
  · by_cases h2 : x ≤ b
    · obtain rfl : r = true := by rw [← h]; simp [h1, h2]
      clear h
      go_enter Tryd.func49, Tryd.ntmps49
      go_wp2
      go_ret
      exact ⟨rfl, rfl⟩
    · obtain rfl : r = false := by rw [← h]; simp [h2]
      clear h
      go_enter Tryd.func49, Tryd.ntmps49
      go_wp2
      go_ret
      exact ⟨rfl, rfl⟩
  · obtain rfl : r = false := by rw [← h]; simp [h1]
    clear h
    go_enter Tryd.func49, Tryd.ntmps49
    go_wp2
    go_ret
    exact ⟨rfl, rfl⟩
set_option maxRecDepth 20000 in
set_option maxHeartbeats 2000000 in
theorem ends_is (v : Value) (r : Int) (l : List Bdd.Ch) (w : World) (hv : ChsOf w v l) (hn : l.length ≤ 1048576) :
    Calls Tryd.prog 45 #[dgV v r] w fun e w' => Tells (Bdd.Ends l r) e ∧ Below w.heap.size w w' := by
  have HV := hide hv
  obtain ⟨a, cap, rfl, hrow⟩ := hv
  have HR := hide hrow
  have hd1 := (Below.refl w.heap.size w).alloc (Nat.le_refl _) (.cells #[.slice a l.length cap, .int .i64 r] 27)
  have HD := hide hd1
  clear hrow hd1
  by_cases h70 : l.length ≤ 70
  · have hg : ¬ (70 < (l.length : Int)) := by omega
    by_cases hroot : -2 ≤ r ∧ r ≤ (l.length : Int) - 1
    · have HW := hide (within_is r (-2) ((l.length : Int) - 1) true (by simp [hroot]))
      go_enter Tryd.func45, Tryd.ntmps45
      go_wp2_with (refine (HW.out _).mono ?_; rintro e w1 ⟨rfl, rfl⟩)
      go_loopw [3, 4, 22] (fun _ _ i wr => ∃ n : Nat, n ≤ l.length ∧ i = .int .i64 n ∧ Hid ((∀ j d, j < n → l[j]? = some d → OkC j d) ∧ Below w.heap.size w wr)) (fun _ _ i _ => l.length - (intOf i).toNat)
      case atStart => exact ⟨0, Nat.zero_le _, rfl, hide ⟨fun j d hj => absurd hj (by omega), HD.out⟩⟩
      case round =>
        obtain ⟨n, hnl, rfl, HI⟩ := hrel
        by_cases hlt : n < l.length
        · obtain ⟨g, off, rfl, hgl, hrow⟩ := HR.out (by omega)
          obtain ⟨c, hc⟩ : ∃ c, l[n]? = some c := ⟨l[n], by rw [List.getElem?_eq_getElem hlt]⟩
          obtain ⟨p0, p1, p2⟩ := hrow n c hc
          obtain ⟨hok, hbr⟩ := HI.out
          have c0 := (hbr.cell (p := ⟨g, off + n * 3, none⟩) hgl).trans p0
          have c1 := (hbr.cell (p := ⟨g, off + n * 3 + 1, none⟩) hgl).trans p1
          have c2 := (hbr.cell (p := ⟨g, off + n * 3 + 2, none⟩) hgl).trans p2
          have hbA := hbr.alloc hbr.size (.cells #[.int .i64 c.v, .int .i64 c.no, .int .i64 c.yes] 66)
          have hBad := hide (show ¬ OkC n c → ¬ Bdd.Ends l r from fun h1 h2 => h1 ((wf_iff l).1 h2.2.2.2 n c hc))
          have HA := hide hbA
          have HN := hide (show OkC n c → ∀ j d, j < n + 1 → l[j]? = some d → OkC j d from fun h0 j d hj hd => by
            by_cases e : j = n
            · subst e; rw [hc] at hd; injection hd with hd; rw [← hd]; exact h0
            · exact hok j d (by omega) hd)
          clear HI hok hbr hbA hrow p0 p1 p2 hc HR HV HD HW
          by_cases q1 : 0 ≤ c.v ∧ c.v ≤ 5
          · have W1 := hide (within_is c.v 0 5 true (by simp [q1]))
            by_cases q2 : -2 ≤ c.no ∧ c.no ≤ (n : Int) - 1
            · have W2 := hide (within_is c.no (-2) ((n : Int) - 1) true (by simp [q2]))
              by_cases q3 : -2 ≤ c.yes ∧ c.yes ≤ (n : Int) - 1
              · have W3 := hide (within_is c.yes (-2) ((n : Int) - 1) true (by simp [q3]))
                have HI2 := hide (And.intro (HN.out ⟨q1.1, q1.2, q2.1, q2.2, q3.1, q3.2⟩) HA.out)
                clear q1 q2 q3 hBad HA HN hroot hg
                go_wp2_with fail
                refine (W1.out _).mono ?_
                rintro e w1 ⟨rfl, rfl⟩
                go_wp2_with fail
                refine (W2.out _).mono ?_
                rintro e w1 ⟨rfl, rfl⟩
                go_wp2_with fail
                refine (W3.out _).mono ?_
                rintro e w1 ⟨rfl, rfl⟩
                go_wp2
                exact ⟨⟨n + 1, by omega, by go_num, HI2⟩, by simp [intOf]; omega⟩
              · have W3 := hide (within_is c.yes (-2) ((n : Int) - 1) false (by simp only [q3, decide_false]))
                have HF := hide (hBad.out (fun h => q3 ⟨h.2.2.2.2.1, h.2.2.2.2.2⟩))
                clear q1 q2 q3 hBad HN hroot hg
                go_wp2_with fail
                refine (W1.out _).mono ?_
                rintro e w1 ⟨rfl, rfl⟩
                go_wp2_with fail
                refine (W2.out _).mono ?_
                rintro e w1 ⟨rfl, rfl⟩
                go_wp2_with fail
                refine (W3.out _).mono ?_
                rintro e w1 ⟨rfl, rfl⟩
                go_wp2
                go_ret
                exact ⟨tells_no HF.out, HA.out⟩
            · have W2 := hide (within_is c.no (-2) ((n : Int) - 1) false (by simp only [q2, decide_false]))
              have HF := hide (hBad.out (fun h => q2 ⟨h.2.2.1, h.2.2.2.1⟩))
              clear q1 q2 hBad HN hroot hg
              go_wp2_with fail
              refine (W1.out _).mono ?_
              rintro e w1 ⟨rfl, rfl⟩
              go_wp2_with fail
              refine (W2.out _).mono ?_
              rintro e w1 ⟨rfl, rfl⟩
              go_wp2
              go_ret
              exact ⟨tells_no HF.out, HA.out⟩
          · have W1 := hide (within_is c.v 0 5 false (by simp only [q1, decide_false]))
            have HF := hide (hBad.out (fun h => q1 ⟨h.1, h.2.1⟩))
            clear q1 hBad HN hroot hg
            go_wp2_with fail
            refine (W1.out _).mono ?_
            rintro e w1 ⟨rfl, rfl⟩
            go_wp2
            go_ret
            exact ⟨tells_no HF.out, HA.out⟩
        · obtain ⟨hok, hbr⟩ := HI.out
          have HF := hide (show Bdd.Ends l r from ⟨h70, hroot.1, by omega, (wf_iff l).2 (fun i c hc => hok i c (by have := (List.getElem?_eq_some_iff.1 hc).1; omega) hc)⟩)
          have HB := hide hbr
          clear HI hok hbr HR HV HD HW hroot
          go_wp2
          go_ret
          exact ⟨tells_yes HF.out, HB.out⟩
    · have HW := hide (within_is r (-2) ((l.length : Int) - 1) false (by simp only [hroot, decide_false]))
      have HF := hide (show ¬ Bdd.Ends l r from fun h => hroot ⟨h.2.1, by have := h.2.2.1; omega⟩)
      clear hroot
      go_enter Tryd.func45, Tryd.ntmps45
      go_wp2_with (refine (HW.out _).mono ?_; rintro e w1 ⟨rfl, rfl⟩)
      go_ret
      exact ⟨tells_no HF.out, HD.out⟩
  · have hg : (70 < (l.length : Int)) := by omega
    have HF := hide (show ¬ Bdd.Ends l r from fun h => h70 h.1)
    go_enter Tryd.func45, Tryd.ntmps45
    go_wp2
    go_ret
    exact ⟨tells_no HF.out, HD.out⟩
end Go.Proofs.YtfiooclkefmijaaDoor

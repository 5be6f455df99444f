/-
  Versions: RegionOf, NextVersion and IsGraceful in both texts, and their laws.
-/
import Derived.Test.YtjgopjnkkhkcnaaGreatDoorNxM
namespace Go.Proofs.YtjgopjnkkhkcnaaGreatDoor
open Go.RowKit M
namespace M
def rgv (v : Int) : Int := if inB v 0 1000000 = true then v % 10 else 0
def nxb (v r : Int) : Bool := inB v 0 1000000 && (inB r 0 9 && inB (nx v r) 0 1000000)
def nxa (v r : Int) : Int := if nxb v r = true then nx v r else 0
def grb (f t : Int) : Bool := inB f 0 1000000 && inB t 0 1000000
def gra (f t : Int) : Bool := grb f t && (t == nx f (t % 10) && (t % 10 != f % 10))
theorem inB_iff {n lo hi : Int} : inB n lo hi = true ↔ lo ≤ n ∧ n ≤ hi := by unfold inB; simp
theorem inB_no {n lo hi : Int} : inB n lo hi = false ↔ ¬ (lo ≤ n ∧ n ≤ hi) := by rw [← inB_iff]; simp
theorem rgv_yes {v : Int} (h : inB v 0 1000000 = true) : rgv v = v % 10 := by unfold rgv; rw [if_pos h]
theorem rgv_no {v : Int} (h : inB v 0 1000000 = false) : rgv v = 0 := by unfold rgv; rw [if_neg (by rw [h]; simp)]
theorem nxb_iff {v r : Int} : nxb v r = true ↔ (0 ≤ v ∧ v ≤ 1000000) ∧ (0 ≤ r ∧ r ≤ 9) ∧ nx v r ≤ 1000000 := by
  unfold nxb
  rw [Bool.and_eq_true, Bool.and_eq_true, inB_iff, inB_iff, inB_iff]
  constructor
  · rintro ⟨h1, h2, h3⟩; exact ⟨h1, h2, h3.2⟩
  · rintro ⟨h1, h2, h3⟩; exact ⟨h1, h2, by have := nx_gt (v := v) h2.1 h2.2; omega, h3⟩
theorem nxa_yes {v r : Int} (h : nxb v r = true) : nxa v r = nx v r := by unfold nxa; rw [if_pos h]
theorem nxa_no {v r : Int} (h : nxb v r = false) : nxa v r = 0 := by unfold nxa; rw [if_neg (by rw [h]; simp)]
end M
theorem spec_ver (n : Int) (w : World) :
    Calls Tryz.prog 106 #[.int .i64 n] w fun e w' => e = .returned (.bool (inB n 0 1000000)) ∧ w' = w := by
  go_enter Tryz.func106, Tryz.ntmps106
  go_wp2_with (go_at_call 78; refine (spec_in _ _ _ _).mono ?_; rintro e w' ⟨rfl, rfl⟩)
  go_ret
  exact ⟨rfl, rfl⟩
theorem impl_ver (n : Int) (w : World) :
    Calls Tryz.prog 129 #[.int .i64 n] w fun e w' => e = .returned (.bool (inB n 0 1000000)) ∧ w' = w := by
  go_enter Tryz.func129, Tryz.ntmps129
  go_wp2_with (go_at_call 138; refine (impl_in _ _ _ _).mono ?_; rintro e w' ⟨rfl, rfl⟩)
  go_ret
  exact ⟨rfl, rfl⟩
theorem impl_rid (n : Int) (w : World) :
    Calls Tryz.prog 116 #[.int .i64 n] w fun e w' => e = .returned (.bool (inB n 0 9)) ∧ w' = w := by
  go_enter Tryz.func116, Tryz.ntmps116
  go_wp2_with (go_at_call 138; refine (impl_in _ _ _ _).mono ?_; rintro e w' ⟨rfl, rfl⟩)
  go_ret
  exact ⟨rfl, rfl⟩
theorem impl_region (v : Int) (w : World) :
    Calls Tryz.prog 128 #[.int .i64 v] w fun e w' => e = .returned (.tuple #[.int .i64 (rgv v), .bool (inB v 0 1000000)]) ∧ w' = w := by
  cases h : inB v 0 1000000
  · rw [rgv_no h]
    go_enter Tryz.func128, Tryz.ntmps128
    go_wp2_with (go_at_call 129; refine (impl_ver _ _).mono ?_; rintro e w' ⟨rfl, rfl⟩; rw [h])
    go_ret2
    exact ⟨rfl, rfl⟩
  · rw [rgv_yes h]
    obtain ⟨h0, h1⟩ := inB_iff.1 h
    go_enter Tryz.func128, Tryz.ntmps128
    go_wp2_with (go_at_call 129; refine (impl_ver _ _).mono ?_; rintro e w' ⟨rfl, rfl⟩; rw [h])
    go_ret2
    exact ⟨rfl, rfl⟩
theorem spec_nx (v r : Int) (w : World) (h0 : 0 ≤ v) (h1 : v ≤ 1000000) (h2 : 0 ≤ r) (h3 : r ≤ 9) :
    Calls Tryz.prog 127 #[.int .i64 v, .int .i64 r] w fun e w' => e = .returned (.int .i64 (nx v r)) ∧ w' = w := by
  have ha : 0 ≤ v % 10 := by omega
  have hb : v % 10 ≤ v := by omega
  by_cases h : v - v % 10 + r ≤ v
  · have e : nx v r = v - v % 10 + r + 10 := by unfold nx; rw [if_pos h]
    rw [e]
    clear e
    go_enter Tryz.func127, Tryz.ntmps127
    go_wp2
    go_ret
    exact ⟨rfl, rfl⟩
  · have e : nx v r = v - v % 10 + r := by unfold nx; rw [if_neg h]
    rw [e]
    clear e
    go_enter Tryz.func127, Tryz.ntmps127
    go_wp2
    go_ret
    exact ⟨rfl, rfl⟩
set_option maxHeartbeats 400000 in
theorem spec_next (v r : Int) (w : World) :
    Calls Tryz.prog 67 #[.int .i64 v, .int .i64 r] w fun e w' => e = .returned (.tuple #[.int .i64 (nxa v r), .bool (nxb v r)]) ∧ w' = w := by
  cases h : inB v 0 1000000
  · have hb : nxb v r = false := by unfold nxb; rw [h]; rfl
    rw [nxa_no hb, hb]
    go_enter Tryz.func67, Tryz.ntmps67
    go_wp2_with (first | (go_at_call 106; refine (spec_ver _ _).mono ?_; rintro e w' ⟨rfl, rfl⟩; rw [h]))
    go_ret2
    exact ⟨rfl, rfl⟩
  cases h2 : inB r 0 9
  · have hb : nxb v r = false := by unfold nxb; rw [h, h2]; rfl
    rw [nxa_no hb, hb]
    go_enter Tryz.func67, Tryz.ntmps67
    go_wp2_with (first | (go_at_call 106; refine (spec_ver _ _).mono ?_; rintro e w' ⟨rfl, rfl⟩; rw [h]) | (go_at_call 78; refine (spec_in _ _ _ _).mono ?_; rintro e w' ⟨rfl, rfl⟩; rw [h2]))
    go_ret2
    exact ⟨rfl, rfl⟩
  obtain ⟨g0, g1⟩ := inB_iff.1 h
  obtain ⟨g2, g3⟩ := inB_iff.1 h2
  have HX := hide (fun w => spec_nx v r w g0 g1 g2 g3)
  obtain ⟨z, hz⟩ : ∃ z, nx v r = z := ⟨_, rfl⟩
  cases h3 : inB z 0 1000000
  · have hb : nxb v r = false := by unfold nxb; rw [h, h2, hz, h3]; rfl
    rw [nxa_no hb, hb]
    rw [hz] at HX
    clear hb hz
    go_enter Tryz.func67, Tryz.ntmps67
    go_wp2_with (first | (go_at_call 106; refine (spec_ver _ _).mono ?_; rintro e w' ⟨rfl, rfl⟩; first | rw [h] | rw [h3]) | (go_at_call 78; refine (spec_in _ _ _ _).mono ?_; rintro e w' ⟨rfl, rfl⟩; rw [h2]) | (go_at_call 127; refine (HX.out _).mono ?_; rintro e w' ⟨rfl, rfl⟩))
    go_ret2
    exact ⟨rfl, rfl⟩
  · have hb : nxb v r = true := by unfold nxb; rw [h, h2, hz, h3]; rfl
    rw [nxa_yes hb, hb, hz]
    rw [hz] at HX
    clear hb hz
    go_enter Tryz.func67, Tryz.ntmps67
    go_wp2_with (first | (go_at_call 106; refine (spec_ver _ _).mono ?_; rintro e w' ⟨rfl, rfl⟩; first | rw [h] | rw [h3]) | (go_at_call 78; refine (spec_in _ _ _ _).mono ?_; rintro e w' ⟨rfl, rfl⟩; rw [h2]) | (go_at_call 127; refine (HX.out _).mono ?_; rintro e w' ⟨rfl, rfl⟩))
    go_ret2
    exact ⟨rfl, rfl⟩
set_option maxHeartbeats 800000 in
theorem impl_next (v r : Int) (w : World) :
    Calls Tryz.prog 68 #[.int .i64 v, .int .i64 r] w fun e w' => e = .returned (.tuple #[.int .i64 (nxa v r), .bool (nxb v r)]) ∧ w' = w := by
  cases h : inB v 0 1000000
  · have hb : nxb v r = false := by unfold nxb; rw [h]; rfl
    rw [nxa_no hb, hb]
    have hr := rgv_no h
    go_enter Tryz.func68, Tryz.ntmps68
    go_wp2_with (first | (go_at_call 128; refine (impl_region _ _).mono ?_; rintro e w' ⟨rfl, rfl⟩; rw [h, hr]))
    go_ret2
    exact ⟨rfl, rfl⟩
  have hr := rgv_yes h
  cases h2 : inB r 0 9
  · have hb : nxb v r = false := by unfold nxb; rw [h, h2]; rfl
    rw [nxa_no hb, hb]
    go_enter Tryz.func68, Tryz.ntmps68
    go_wp2_with (first | (go_at_call 128; refine (impl_region _ _).mono ?_; rintro e w' ⟨rfl, rfl⟩; rw [h, hr]) | (go_at_call 116; refine (impl_rid _ _).mono ?_; rintro e w' ⟨rfl, rfl⟩; rw [h2]))
    go_ret2
    exact ⟨rfl, rfl⟩
  obtain ⟨g0, g1⟩ := inB_iff.1 h
  obtain ⟨g2, g3⟩ := inB_iff.1 h2
  have ha : 0 ≤ v % 10 := by omega
  have hbb : v % 10 ≤ v := by omega
  have ha9 : v % 10 ≤ 9 := by omega
  obtain ⟨z, hz⟩ : ∃ z, nx v r = z := ⟨_, rfl⟩
  by_cases hc : v - v % 10 + r ≤ v
  · have e : nx v r = v - v % 10 + r + 10 := by unfold nx; rw [if_pos hc]
    cases h3 : inB z 0 1000000
    · have hb : nxb v r = false := by unfold nxb; rw [h, h2, hz, h3]; rfl
      rw [nxa_no hb, hb]
      rw [hz] at e
      subst e
      clear hb hz
      go_enter Tryz.func68, Tryz.ntmps68
      go_wp2_with (first | (go_at_call 128; refine (impl_region _ _).mono ?_; rintro e w' ⟨rfl, rfl⟩; rw [h, hr]) | (go_at_call 116; refine (impl_rid _ _).mono ?_; rintro e w' ⟨rfl, rfl⟩; rw [h2]) | (go_at_call 129; refine (impl_ver _ _).mono ?_; rintro e w' ⟨rfl, rfl⟩; rw [h3]))
      go_ret2
      exact ⟨rfl, rfl⟩
    · have hb : nxb v r = true := by unfold nxb; rw [h, h2, hz, h3]; rfl
      rw [nxa_yes hb, hb, hz]
      rw [hz] at e
      subst e
      clear hb hz
      go_enter Tryz.func68, Tryz.ntmps68
      go_wp2_with (first | (go_at_call 128; refine (impl_region _ _).mono ?_; rintro e w' ⟨rfl, rfl⟩; rw [h, hr]) | (go_at_call 116; refine (impl_rid _ _).mono ?_; rintro e w' ⟨rfl, rfl⟩; rw [h2]) | (go_at_call 129; refine (impl_ver _ _).mono ?_; rintro e w' ⟨rfl, rfl⟩; rw [h3]))
      go_ret2
      exact ⟨rfl, rfl⟩
  · have e : nx v r = v - v % 10 + r := by unfold nx; rw [if_neg hc]
    cases h3 : inB z 0 1000000
    · have hb : nxb v r = false := by unfold nxb; rw [h, h2, hz, h3]; rfl
      rw [nxa_no hb, hb]
      rw [hz] at e
      subst e
      clear hb hz
      go_enter Tryz.func68, Tryz.ntmps68
      go_wp2_with (first | (go_at_call 128; refine (impl_region _ _).mono ?_; rintro e w' ⟨rfl, rfl⟩; rw [h, hr]) | (go_at_call 116; refine (impl_rid _ _).mono ?_; rintro e w' ⟨rfl, rfl⟩; rw [h2]) | (go_at_call 129; refine (impl_ver _ _).mono ?_; rintro e w' ⟨rfl, rfl⟩; rw [h3]))
      go_ret2
      exact ⟨rfl, rfl⟩
    · have hb : nxb v r = true := by unfold nxb; rw [h, h2, hz, h3]; rfl
      rw [nxa_yes hb, hb, hz]
      rw [hz] at e
      subst e
      clear hb hz
      go_enter Tryz.func68, Tryz.ntmps68
      go_wp2_with (first | (go_at_call 128; refine (impl_region _ _).mono ?_; rintro e w' ⟨rfl, rfl⟩; rw [h, hr]) | (go_at_call 116; refine (impl_rid _ _).mono ?_; rintro e w' ⟨rfl, rfl⟩; rw [h2]) | (go_at_call 129; refine (impl_ver _ _).mono ?_; rintro e w' ⟨rfl, rfl⟩; rw [h3]))
      go_ret2
      exact ⟨rfl, rfl⟩
namespace M
theorem gra_iff {f t : Int} (h : grb f t = true) : gra f t = true ↔ t = nx f (t % 10) ∧ t % 10 ≠ f % 10 := by
  unfold gra; rw [h]; simp
end M
end Go.Proofs.YtjgopjnkkhkcnaaGreatDoor

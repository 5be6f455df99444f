/-
  What must not be late is as long as the whole, no task can begin earlier, and what has slack may wait for it: FnPlanned, walked.
-/
import Derived.Test.YtkfnfgencaplfaaPlF
import Derived.Test.YtkfnfgencaplfaaPlE
import Derived.Test.YtkfnfgencaplfaaPlanXI
import Derived.Test.YtkfnfgencaplfaaPlanXS
import Derived.Test.YtkfnfgencaplfaaPlanXN
import Derived.Test.YtkfnfgencaplfaaPlanFS
import Derived.Test.YtkfnfgencaplfaaPlanES
import Derived.Deep.CutRange
namespace Go.Proofs.Ytkfnfgencaplfaa
open Go.RowKit M
open Clk (upd upd_same upd_other)
open Go.Sort (grow)
namespace M
theorem IntsOf.spot {w : World} {a : Option Addr} {n c : Nat} {f : Nat → Int} (h : IntsOf w (.slice a n c) n f) (h0 : 0 < n) : ∃ b off, a = some ⟨b, off, none⟩ ∧ b < w.heap.size ∧ ∀ i, i < n → w.cell? ⟨b, off + i, none⟩ = some (.int .i64 (f i)) := by
  obtain ⟨a', c', he, hr⟩ := h
  simp only [Value.slice.injEq, true_and] at he
  obtain ⟨rfl, rfl⟩ := he
  exact hr h0
theorem TasksOf.spot {w : World} {a : Option Addr} {n c : Nat} {ts : Nat → Tk} (h : TasksOf w (.slice a n c) n ts) (h0 : 0 < n) : ∃ b off, a = some ⟨b, off, none⟩ ∧ b < w.heap.size ∧ ∀ i, i < n → ∃ y, w.cell? ⟨b, off + i * 2, none⟩ = some (.int .i64 (ts i).long) ∧ w.cell? ⟨b, off + i * 2 + 1, none⟩ = some y ∧ IntsOf w y (ts i).nn (ts i).fn := by
  obtain ⟨a', c', he, hr⟩ := h
  simp only [Value.slice.injEq, true_and] at he
  obtain ⟨rfl, rfl⟩ := he
  exact hr h0
/-- All that FnPlanned asks of a plan. -/
structure PA (k : Nat) (ts : Nat → Tk) (n : Nat) (E L S : Nat → Int) (all : Int) (W : List Nat) (ok : Bool) : Prop where
  n31 : n ≤ 31
  w31 : W.length ≤ 93000
  good : ok = true → GoodP k ts ∧ n = k ∧ S = slk ts k ∧ Tm k ts E L all ∧ CW k ts E L all W all ∧ (∀ x, S x = L x - E x) ∧ (∀ y, 0 ≤ E y ∧ E y ≤ 93000) ∧ (∀ y, y < k → -93000 ≤ L y ∧ L y ≤ 93000) ∧ 0 ≤ all ∧ all ≤ 93000
  bad : ok = false → n = 0
  gd : decide (GoodP k ts) = ok
  eS : ∀ (v : Value) (W0 : World), TasksOf W0 v k ts → Calls Try.prog 26 #[v] W0 fun e w' => (∃ r, e = .returned (.tuple #[r, .int .i64 all, .bool ok]) ∧ IntsOf w' r n E) ∧ Below W0.heap.size W0 w'
  eI : ∀ (v : Value) (W0 : World), TasksOf W0 v k ts → Calls Try.prog 27 #[v] W0 fun e w' => (∃ r, e = .returned (.tuple #[r, .int .i64 all, .bool ok]) ∧ IntsOf w' r n E) ∧ Below W0.heap.size W0 w'
  lI : ∀ (v : Value) (W0 : World), TasksOf W0 v k ts → Calls Try.prog 29 #[v] W0 fun e w' => (∃ r, e = .returned (.tuple #[r, .bool ok]) ∧ IntsOf w' r n L) ∧ Below W0.heap.size W0 w'
  sI : ∀ (v : Value) (W0 : World), TasksOf W0 v k ts → Calls Try.prog 31 #[v] W0 fun e w' => (∃ r, e = .returned (.tuple #[r, .bool ok]) ∧ IntsOf w' r n S) ∧ Below W0.heap.size W0 w'
  cI : ∀ (v : Value) (W0 : World), TasksOf W0 v k ts → Calls Try.prog 33 #[v] W0 fun e w' => (∃ r, e = .returned (.tuple #[r, .bool ok]) ∧ IntsOf w' r W.length (lv W)) ∧ Below W0.heap.size W0 w'
  cS : ∀ (v : Value) (W0 : World), TasksOf W0 v k ts → Calls Try.prog 32 #[v] W0 fun e w' => (∃ r, e = .returned (.tuple #[r, .bool ok]) ∧ IntsOf w' r W.length (lv W)) ∧ Below W0.heap.size W0 w'
end M
theorem plan_all (k : Nat) (ts : Nat → Tk) (hs : Short k ts) (hk : k ≤ 31) : ∃ n E L S all W ok, PA k ts n E L S all W ok := by
  have hnil : ∀ W, IntsOf W (.slice none 0 0) 0 (fun _ => 0) := fun W => ⟨none, 0, rfl, fun h => absurd h (Nat.lt_irrefl _)⟩
  have hnilv : ∀ W, IntsOf W (.slice none 0 0) ([] : List Nat).length (lv []) := fun W => ⟨none, 0, rfl, fun h => absurd h (Nat.lt_irrefl _)⟩
  by_cases hg : GoodP k ts
  · obtain ⟨t1, t2⟩ := times_in hg
    have h3 := (est_in hg.1 (ord ts k k) (fun x hx => ord_lt ts k k x hx)).2
    have hlen : (ord ts k k).length = k := hg.2
    have hk30 := hg.1.1
    have hall : 0 ≤ eal ts (ord ts k k) ∧ eal ts (ord ts k k) ≤ 93000 := by rw [hlen] at h3; omega
    refine ⟨k, est ts (ord ts k k), lat ts (eal ts (ord ts k k)) (ord ts k k).reverse, slk ts k, eal ts (ord ts k k), (cw ts k (lat ts (eal ts (ord ts k k)) (ord ts k k).reverse) (eal ts (ord ts k k)).toNat).1, true, hk, ?_, fun _ => ⟨hg, rfl, rfl, tm hg, cw_whole hg.1 (tm hg), fun x => rfl, t1, t2, hall.1, hall.2⟩, fun h => (by cases h), decide_eq_true hg, fun v W hW => spec_early v k ts W hW hs hg, fun v W hW => (impl_early v k ts W hW hs hg).mono ?_, fun v W hW => (impl_late v k ts W hW hs hg).mono ?_, fun v W hW => (impl_slack v k ts W hW hs hg).mono ?_, fun v W hW => (impl_crit v k ts W hW hs hg).mono ?_, fun v W hW => spec_crit v k ts W hW hs hg⟩
    · have := cw_len ts k (lat ts (eal ts (ord ts k k)) (ord ts k k).reverse) (eal ts (ord ts k k)).toNat
      omega
    all_goals
      rintro e w' ⟨⟨R, he, hR⟩, hb⟩
      exact ⟨⟨R, he, hR.ints⟩, hb⟩
  · refine ⟨0, fun _ => 0, fun _ => 0, fun _ => 0, 0, [], false, by omega, by simp, fun h => (by cases h), fun _ => rfl, decide_eq_false hg, fun v W hW => (spec_early_no v k ts W hW hs hg).mono ?_, fun v W hW => (impl_early_no v k ts W hW hs hg).mono ?_, fun v W hW => (impl_late_no v k ts W hW hs hg).mono ?_, fun v W hW => (impl_slack_no v k ts W hW hs hg).mono ?_, fun v W hW => (impl_crit_no v k ts W hW hs hg).mono ?_, fun v W hW => (spec_crit_no v k ts W hW hs hg).mono ?_⟩
    all_goals
      rintro e w' ⟨he, hb⟩
      first
        | exact ⟨⟨_, he, hnil _⟩, hb⟩
        | exact ⟨⟨_, he, hnilv _⟩, hb⟩
set_option maxHeartbeats 2000000 in
theorem draw_crit (v : Value) (n : Nat) (f : Nat → Nat) (w : World) (hv : OctetsOf w v n f) (hn : n ≤ 1048576) :
    Calls Try.prog 48 #[v] w fun e w' => (∃ r k ts, e = .returned r ∧ DrawnP w' r k ts) ∧ Below w.heap.size w w' := by
  obtain ⟨a, cap, rfl⟩ := hv.form
  have HV := hide hv
  clear hv
  go_enter Try.func48, Try.ntmps48
  go_wp2_with fail
  refine (draw_good _ n f _ HV.out hn).mono ?_
  rintro e w1 ⟨⟨r, k, ts, rfl, h⟩, hb⟩
  have HZ := hide (And.intro h hb)
  clear h hb HV
  go_wp2
  go_ret
  exact ⟨⟨_, _, _, rfl, HZ.out.1⟩, HZ.out.2⟩
end Go.Proofs.Ytkfnfgencaplfaa

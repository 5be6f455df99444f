/-
  The specification's reader of choices: what one step leaves.
-/
import Derived.Test.YtlbcmlleoncddaaIntAid
import Derived.WalkSmall
namespace Go.Proofs.Ytlbcmlleoncddaa
open Go.RowKit M
namespace M
/-- A slice of bytes that is read. -/
def OctetsOf (w : World) (v : Value) (n : Nat) (f : Nat → Nat) : Prop :=
  ∃ a cap, v = .slice a n cap ∧ (∀ i, i < n → f i < 256) ∧ (0 < n → ∃ b off, a = some ⟨b, off, none⟩ ∧ b < w.heap.size ∧ ∀ i, i < n → w.cell? ⟨b, off + i, none⟩ = some (.int .u8 (f i : Nat)))
theorem OctetsOf.below {w w' : World} {v : Value} {n : Nat} {f : Nat → Nat} (h : OctetsOf w v n f) (hb : Below w.heap.size w w') : OctetsOf w' v n f := by
  obtain ⟨a, cap, hv, hf, hr⟩ := h
  refine ⟨a, cap, hv, hf, fun hn => ?_⟩
  obtain ⟨b, off, ha, hlt, hrow⟩ := hr hn
  exact ⟨b, off, ha, Nat.lt_of_lt_of_le hlt hb.size, fun i hi => (hb.cell (p := ⟨b, off + i, none⟩) hlt).trans (hrow i hi)⟩
theorem OctetsOf.form {w : World} {v : Value} {n : Nat} {f : Nat → Nat} (h : OctetsOf w v n f) : ∃ a cap, v = .slice a n cap := by
  obtain ⟨a, cap, hv, _⟩ := h; exact ⟨a, cap, hv⟩
def cu (v : Value) (at_ seed : Int) : Nat → Value := fun i => if i = 0 then v else if i = 1 then .int .i64 at_ else .int .u64 seed
/-- The reader lies at block cb; it has taken at most N steps; its bytes lie below B. -/
def CurAt (w : World) (B cb N : Nat) : Prop :=
  ∃ (v : Value) (n : Nat) (f : Nat → Nat) (t : Nat) (s : Int), t ≤ N ∧ n ≤ 1048576 ∧ B ≤ cb ∧ Blk w cb 3 (cu v t s) 81 ∧ ∃ w0 : World, w0.heap.size = B ∧ OctetsOf w0 v n f ∧ Below B w0 w
theorem CurAt.below {w w' : World} {B cb N : Nat} (h : CurAt w B cb N) (hb : Below w.heap.size w w') : CurAt w' B cb N := by
  obtain ⟨v, n, f, t, s, ht, hn, hB, hk, w0, h0, ho, hb0⟩ := h
  have := hk.lt
  exact ⟨v, n, f, t, s, ht, hn, hB, hk.down hb, w0, h0, ho, hb0.trans (hb.mono (by omega))⟩
theorem and255 (y : Int) : ∃ x : Nat, x ≤ 255 ∧ wrap64 (bits .and .u64 (IntKind.u64.wrap y / 1099511627776) 255) = (x : Int) := by
  have hw : 0 ≤ IntKind.u64.wrap y ∧ IntKind.u64.wrap y < 18446744073709551616 := by rw [IntKind.wrap_u64]; omega
  generalize IntKind.u64.wrap y = z at *
  obtain ⟨n, hn⟩ := Int.eq_ofNat_of_zero_le (show 0 ≤ z / 1099511627776 by omega)
  rw [hn]
  refine ⟨n &&& 255, Nat.and_le_right, ?_⟩
  have h := bits_and_u64_nat n 255 (by omega) (by omega)
  rw [show ((255 : Nat) : Int) = 255 from rfl] at h
  rw [h]
  have hle : n &&& 255 ≤ 255 := Nat.and_le_right
  generalize n &&& 255 = m at *
  unfold wrap64
  omega
end M
set_option maxHeartbeats 2000000 in
theorem cur_next (B cb N : Nat) (w : World) (h : CurAt w B cb N) (hN : N ≤ 1000000) :
    Calls Try.prog 64 #[.pointer (some ⟨cb, 0, none⟩)] w fun e w' => (∃ x : Nat, x ≤ 255 ∧ e = .returned (.int .i64 (x : Int))) ∧ CurAt w' B cb (N + 1) ∧ Only cb w w' := by
  obtain ⟨v, n, f, t, s, ht, hn, hB, hk, w0, h0, ho, hb0⟩ := h
  obtain ⟨a, cap, rfl, hf, hr⟩ := ho
  have k0 := hk.cell (show 0 < 3 by omega)
  have k1 := hk.cell (show 1 < 3 by omega)
  have k2 := hk.cell (show 2 < 3 by omega)
  have t0 := hk.thaw 0
  have t1 := hk.thaw 1
  have t2 := hk.thaw 2
  simp only [show cu (.slice a n cap) t s 0 = .slice a n cap from rfl, show cu (.slice a n cap) t s 1 = .int .i64 t from rfl, show cu (.slice a n cap) t s 2 = .int .u64 s from rfl] at k0 k1 k2
  have HO := hide (show ∀ (d1 d2 : Nat) (x y : Value), Only cb w ((((w.drewN d1).setCell ⟨cb, 1, none⟩ x).setCell ⟨cb, 2, none⟩ y).drewN d2) from fun d1 d2 x y =>
    have h1 : Only cb w (w.drewN d1) := ⟨rfl, rfl, rfl, rfl, fun _ _ => rfl⟩
    have h2 := (h1.set 1 x).set 2 y
    ⟨h2.os, h2.tape, h2.output, h2.size, h2.block⟩)
  have HF := hide (show ∀ (d1 d2 : Nat) (s' x : Int), x = (t : Int) + 1 → CurAt ((((w.drewN d1).setCell ⟨cb, 1, none⟩ (.int .i64 x)).setCell ⟨cb, 2, none⟩ (.int .u64 s')).drewN d2) B cb (N + 1) from fun d1 d2 s' x hx => by
    subst hx
    refine ⟨.slice a n cap, n, f, t + 1, s', by omega, hn, hB, ?_, w0, h0, ⟨a, cap, rfl, hf, hr⟩, hb0.trans ((HO.out d1 d2 _ _).below hB)⟩
    have hk' : Blk (w.drewN d1) cb 3 (cu (.slice a n cap) t s) 81 := hk
    refine Blk.ext ((hk'.set 1 (.int .i64 ((t : Int) + 1))).set 2 (.int .u64 s')) ?_
    intro i hi
    match i, hi with
    | 0, _ => rfl
    | 1, _ => rfl
    | 2, _ => rfl)
  clear hk
  by_cases hlt : t < n
  · obtain ⟨b, off, rfl, hb, hrow⟩ := hr (by omega)
    have c0 := (hb0.cell (p := ⟨b, off + t, none⟩) (show b < B by omega)).trans (hrow t hlt)
    have e1 : decide ((t : Int) < (n : Int)) = true := by simp; omega
    have hx := hf t hlt
    have hi0 : (0 : Int) ≤ (t : Int) := by omega
    have hi1 : (t : Int) < (n : Int) := by omega
    go_enter Try.func64, Try.ntmps64
    go_wp2
    go_big_quiet (fail)
    go_wp2
    go_big_quiet (fail)
    go_wp2
    go_big_quiet (fail)
    go_wp2
    refine bodyPost_ret (results_tmp rfl _ _ _) rfl ?_
    refine ⟨⟨f t, by omega, rfl⟩, HF.out _ _ _ _ rfl, ?_⟩
    exact HO.out _ _ _ _
  · have e1 : decide ((t : Int) < (n : Int)) = false := by simp; omega
    have hle : ¬ ((t : Int) + 1 ≤ (n : Int)) := by omega
    have e2 : decide ((t : Int) + 1 ≤ (n : Int)) = false := by simp; omega
    clear hr hf
    go_enter Try.func64, Try.ntmps64
    go_wp2
    go_big_quiet (fail)
    go_wp2
    go_big_quiet (fail)
    go_wp2
    refine bodyPost_ret (results_tmp rfl _ _ _) rfl ?_
    refine ⟨?_, HF.out _ _ _ _ rfl, HO.out _ _ _ _⟩
    obtain ⟨x, hx, he⟩ := and255 (IntKind.u64.wrap (IntKind.u64.wrap (s * 6364136223846793005)) + 1442695040888963407)
    exact ⟨x, hx, ret_int he⟩
end Go.Proofs.Ytlbcmlleoncddaa

/-
  The specification's small helpers of the search: two markings that are the same, where one stands in a list, the marking of one token.
-/
import Derived.Test.YthilapalgakhhaaNetBfsM
import Derived.Test.YthilapalgakhhaaNetFireS
namespace Go.Proofs.Ythilapalgakhhaa
open Go.RowKit M
open Clk (upd upd_same upd_other)
namespace M
/-- A slice of slices of k numbers that is read. -/
def IntssOf (w : World) (v : Value) (m k : Nat) (f : Nat → Nat → Int) : Prop :=
  ∃ a cap, v = .slice a m cap ∧ (0 < m → ∃ b off, a = some ⟨b, off, none⟩ ∧ b < w.heap.size ∧ ∀ i, i < m → ∃ r, w.cell? ⟨b, off + i, none⟩ = some r ∧ IntsOf w r k (f i))
theorem IntssOf.below {w w' : World} {v : Value} {m k : Nat} {f : Nat → Nat → Int} (h : IntssOf w v m k f) (hb : Below w.heap.size w w') : IntssOf w' v m k f := by
  obtain ⟨a, cap, hv, hr⟩ := h
  refine ⟨a, cap, hv, fun hn => ?_⟩
  obtain ⟨b, off, ha, hlt, hrow⟩ := hr hn
  refine ⟨b, off, ha, Nat.lt_of_lt_of_le hlt hb.size, fun i hi => ?_⟩
  obtain ⟨r, h1, h2⟩ := hrow i hi
  exact ⟨r, (hb.cell (p := ⟨b, off + i, none⟩) hlt).trans h1, h2.below hb⟩
theorem IntssOf.form {w : World} {v : Value} {m k : Nat} {f : Nat → Nat → Int} (h : IntssOf w v m k f) : ∃ a cap, v = .slice a m cap := by
  obtain ⟨a, cap, hv, _⟩ := h; exact ⟨a, cap, hv⟩
/-- Two markings of p places are the same where they are on these places. -/
theorem veq8_mk {p : Nat} {v u : Nat → Int} (hp : p ≤ 8) (hv : Mk p v) (hu : Mk p u) : veq8 v u = true ↔ ∀ q, q < p → v q = u q := by
  rw [veq8_iff]
  constructor
  · intro h q hq; exact h q (by omega)
  · intro h q _
    by_cases hq : q < p
    · exact h q hq
    · rw [hv.2 q (by omega), hu.2 q (by omega)]
theorem veq8_comm (v u : Nat → Int) : veq8 v u = veq8 u v := by
  rw [Bool.eq_iff_iff, veq8_iff, veq8_iff]
  exact ⟨fun h q hq => (h q hq).symm, fun h q hq => (h q hq).symm⟩
def one (k : Nat) : Nat → Int := fun q => if q = k then 1 else 0
theorem one_mk {p k : Nat} (h : k < p) : Mk p (one k) := by
  refine ⟨fun q => ?_, fun q hq => ?_⟩
  · unfold one; split <;> omega
  · unfold one; rw [if_neg (by omega)]
theorem one_upd (k : Nat) : upd (fun _ => 0) k 1 = one k := by funext q; unfold upd one; rfl
end M
set_option maxHeartbeats 600000 in
theorem l3same (v u : Value) (n : Nat) (f g : Nat → Int) (b : Bool) (w : World) (hv : IntsOf w v n f) (hu : IntsOf w u n g) (hn : n ≤ 8) (hf : Mk n f) (hg : Mk n g) (hb : veq8 f g = b) :
    Calls Try.prog 67 #[v, u] w fun e w' => e = .returned (.bool b) ∧ Below w.heap.size w w' := by
  have HB := hide (show b = true ↔ ∀ q, q < n → f q = g q by rw [← hb]; exact veq8_mk hn hf hg)
  obtain ⟨a, cap, rfl, hr⟩ := hv
  obtain ⟨a2, cap2, rfl, hr2⟩ := hu
  have HR := hide hr
  have HR2 := hide hr2
  have h3 : ((n : Int) != (n : Int)) = false := by simp
  clear hr hr2 hf hg hb
  go_enter Try.func67, Try.ntmps67
  go_wp2
  go_loopw [13] (fun i wr => ∃ k : Nat, k ≤ n ∧ i = .int .i64 k ∧ Hid (∀ q, q < k → f q = g q) ∧ Below w.heap.size w wr) (fun i _ => n - (intOf i).toNat)
  case atStart => exact ⟨0, Nat.zero_le _, rfl, hide (fun q hq => absurd hq (by omega)), Below.refl _ _⟩
  case round =>
    obtain ⟨k, hk, rfl, HP, hbw⟩ := hrel
    by_cases hlt : k < n
    · obtain ⟨b1, off, rfl, hb1, hrow⟩ := HR.out (by omega)
      obtain ⟨b2, off2, rfl, hb2, hrow2⟩ := HR2.out (by omega)
      have q0 := (hbw.cell (p := ⟨b1, off + k, none⟩) hb1).trans (hrow k hlt)
      have q1 := (hbw.cell (p := ⟨b2, off2 + k, none⟩) hb2).trans (hrow2 k hlt)
      have hi0 : (0 : Int) ≤ (k : Int) := by omega
      have hi1 : (k : Int) < (n : Int) := by omega
      clear hrow hrow2 HR HR2
      by_cases he : f k = g k
      · have hd : (f k != g k) = false := by simp [he]
        have HP2 := hide (show ∀ q, q < k + 1 → f q = g q from fun q hq => by
          rcases (show q < k ∨ q = k by omega) with h | h
          · exact HP.out q h
          · subst h; exact he)
        clear he HP
        go_wp2
        go_big_quiet (fail)
        go_wp2
        exact ⟨⟨k + 1, by omega, by go_num, HP2, below_drewN hbw _⟩, by simp [intOf]; omega⟩
      · have hd : (f k != g k) = true := by simp [he]
        have eb : b = false := by
          cases hbb : b
          · rfl
          · exact absurd (HB.out.1 hbb k hlt) he
        subst eb
        clear he HP HB
        go_wp2
        go_big_quiet (fail)
        go_wp2
        go_ret
        exact ⟨rfl, below_drewN hbw _⟩
    · obtain rfl : k = n := by omega
      have eb : b = true := HB.out.2 HP.out
      subst eb
      clear HR HR2 HP HB
      go_wp2
      go_ret
      exact ⟨rfl, hbw⟩
set_option maxHeartbeats 600000 in
theorem l3at (v u : Value) (c n : Nat) (M : Nat → Nat → Int) (x : Nat → Int) (w : World) (hv : IntssOf w v c n M) (hu : IntsOf w u n x) (hc : c ≤ 1048576) (hn : n ≤ 8) (hM : ∀ j, j < c → Mk n (M j)) (hx : Mk n x) :
    Calls Try.prog 68 #[v, u] w fun e w' => ((kn M x c = false ∧ e = .returned (.int .i64 (-1))) ∨ ∃ d : Nat, d < c ∧ NoKey d M x ∧ veq8 x (M d) = true ∧ e = .returned (.int .i64 (d : Int))) ∧ Below w.heap.size w w' := by
  obtain ⟨a, cap, rfl, hr⟩ := hv
  have HU := hide hu
  obtain ⟨a2, cap2, rfl⟩ := hu.form
  have HR := hide hr
  have HM := hide hM
  have HX := hide hx
  clear hr hu hM hx
  go_enter Try.func68, Try.ntmps68
  go_wp2
  go_loopw [9] (fun i wr => ∃ k : Nat, k ≤ c ∧ i = .int .i64 k ∧ Hid (NoKey k M x) ∧ Below w.heap.size w wr) (fun i _ => c - (intOf i).toNat)
  case atStart => exact ⟨0, Nat.zero_le _, rfl, hide (fun q hq => absurd hq (by omega)), Below.refl _ _⟩
  case round =>
    obtain ⟨k, hk, rfl, HP, hbw⟩ := hrel
    by_cases hlt : k < c
    · obtain ⟨b1, off, rfl, hb1, hrow⟩ := HR.out (by omega)
      obtain ⟨r, hcr, hir⟩ := hrow k hlt
      obtain ⟨ar, cr, rfl⟩ := hir.form
      have q0 := (hbw.cell (p := ⟨b1, off + k, none⟩) hb1).trans hcr
      have HIr := hide (hir.below hbw)
      have HMk := hide (HM.out k hlt)
      clear hrow HR hcr hir
      go_wp2_with fail
      refine (l3same _ _ n (M k) x _ _ HIr.out (HU.out.below hbw) hn HMk.out HX.out rfl).mono ?_
      rintro e w2 ⟨rfl, hb⟩
      have hb2 := hbw.trans (hb.mono hbw.size)
      clear hb HIr HMk q0
      cases he : veq8 (M k) x with
      | true =>
        have HE := hide (show veq8 x (M k) = true by rw [veq8_comm]; exact he)
        clear he HM HX HU
        go_wp2
        go_ret
        exact ⟨.inr ⟨k, hlt, HP.out, HE.out, rfl⟩, hb2⟩
      | false =>
        have HP2 := hide (show NoKey (k + 1) M x from fun q hq => by
          rcases (show q < k ∨ q = k by omega) with h | h
          · exact HP.out q h
          · subst h; rw [veq8_comm]; exact he)
        clear he HP HM HX HU
        go_wp2
        go_roundw
        case rel => exact ⟨k + 1, by omega, by go_num, HP2, hb2⟩
        case measure => simp [intOf]; omega
    · obtain rfl : k = c := by omega
      have HE := hide (kn_false.2 HP.out)
      clear HR HM HX HU HP
      go_wp2
      go_ret
      exact ⟨.inl ⟨HE.out, rfl⟩, hbw⟩
theorem l3one (p k : Nat) (w : World) (hp : p ≤ 8) (hk : k < p) :
    Calls Try.prog 66 #[.int .i64 (p : Int), .int .i64 (k : Int)] w fun e w' => (e = .returned (.slice (some ⟨w.heap.size, 0, none⟩) p p) ∧ Blk w' w.heap.size p (iv (one k)) 3) ∧ Below w.heap.size w w' := by
  have hmk := make_ints p (by omega)
  have h0 := Blk.new w p (iv fun _ => 0) 3
  have c0 := h0.cell_ints hk
  have f0 := h0.thaw k
  have HB := hide (show Blk (w.alloc (.cells ((cf p (iv fun _ => 0)).setIfInBounds k (.int .i64 1)) 3)) w.heap.size p (iv (one k)) 3 from Blk.fresh w _ p _ _ (by rw [cf_set, iv_upd, one_upd]))
  have hi0 : (0 : Int) ≤ (k : Int) := by omega
  have hi1 : (k : Int) < (p : Int) := by omega
  clear h0
  go_enter Try.func66, Try.ntmps66
  go_wp2
  go_ret
  exact ⟨⟨rfl, HB.out⟩, (Below.refl _ _).alloc (Nat.le_refl _) _⟩
end Go.Proofs.Ythilapalgakhhaa

/-
  The specification's reader of choices: what one step leaves (any seat that has it).
-/
import Derived.Test.YtkfnfgencaplfaaIntAid
import Derived.WalkSmall
namespace Go.Proofs.Ytkfnfgencaplfaa
open Go.RowKit M
namespace M
/-- A slice of bytes that is read. -/
def OctetsOf (w : World) (v : Value) (n : Nat) (f : Nat → Nat) : Prop :=
  ∃ a cap, v = .slice a n cap ∧ (∀ i, i < n → f i < 256) ∧ (0 < n → ∃ b off, a = some ⟨b, off, none⟩ ∧ b < w.heap.size ∧ ∀ i, i < n → w.cell? ⟨b, off + i, none⟩ = some (.int .u8 (f i : Nat)))
theorem OctetsOf.below {w w' : World} {v : Value} {n : Nat} {f : Nat → Nat} (h : OctetsOf w v n f) (hb : Below w.heap.size w w') : OctetsOf w' v n f := by
  obtain ⟨a, cap, hv, hf, hr⟩ := h
  refine ⟨a, cap, hv, hf, fun hn => ?_⟩
  obtain ⟨b, off, ha, hlt, hrow⟩ := hr hn
  exact ⟨b, off, ha, Nat.lt_of_lt_of_le hlt hb.size, fun i hi => (hb.cell (p := ⟨b, off + i, none⟩) hlt).trans (hrow i hi)⟩
theorem OctetsOf.form {w : World} {v : Value} {n : Nat} {f : Nat → Nat} (h : OctetsOf w v n f) : ∃ a cap, v = .slice a n cap := by
  obtain ⟨a, cap, hv, _⟩ := h; exact ⟨a, cap, hv⟩
def cu (v : Value) (at_ seed : Int) : Nat → Value := fun i => if i = 0 then v else if i = 1 then .int .i64 at_ else .int .u64 seed
/-- The reader lies at block cb; it has taken at most N steps; its bytes lie below B. -/
def CurAt (w : World) (B cb N : Nat) : Prop :=
  ∃ (v : Value) (n : Nat) (f : Nat → Nat) (t : Nat) (s : Int), t ≤ N ∧ n ≤ 1048576 ∧ B ≤ cb ∧ Blk w cb 3 (cu v t s) 94 ∧ ∃ w0 : World, w0.heap.size = B ∧ OctetsOf w0 v n f ∧ Below B w0 w
theorem CurAt.below {w w' : World} {B cb N : Nat} (h : CurAt w B cb N) (hb : Below w.heap.size w w') : CurAt w' B cb N := by
  obtain ⟨v, n, f, t, s, ht, hn, hB, hk, w0, h0, ho, hb0⟩ := h
  have := hk.lt
  exact ⟨v, n, f, t, s, ht, hn, hB, hk.down hb, w0, h0, ho, hb0.trans (hb.mono (by omega))⟩
theorem and255 (y : Int) : ∃ x : Nat, x ≤ 255 ∧ wrap64 (bits .and .u64 (IntKind.u64.wrap y / 1099511627776) 255) = (x : Int) := by
  have hw : 0 ≤ IntKind.u64.wrap y ∧ IntKind.u64.wrap y < 18446744073709551616 := by rw [IntKind.wrap_u64]; omega
  generalize IntKind.u64.wrap y = z at *
  obtain ⟨n, hn⟩ := Int.eq_ofNat_of_zero_le (show 0 ≤ z / 1099511627776 by omega)
  rw [hn]
  refine ⟨n &&& 255, Nat.and_le_right, ?_⟩
  have h := bits_and_u64_nat n 255 (by omega) (by omega)
  rw [show ((255 : Nat) : Int) = 255 from rfl] at h
  rw [h]
  have hle : n &&& 255 ≤ 255 := Nat.and_le_right
  generalize n &&& 255 = m at *
  unfold wrap64
  omega
end M
set_option maxHeartbeats 2000000 in
theorem cur_next (B cb N : Nat) (w : World) (h : CurAt w B cb N) (hN : N ≤ 1000000) :
    Calls Try.prog 88 #[.pointer (some ⟨cb, 0, none⟩)] w fun e w' => (∃ x : Nat, x ≤ 255 ∧ e = .returned (.int .i64 (x : Int))) ∧ CurAt w' B cb (N + 1) ∧ Only cb w w' := by
  obtain ⟨v, n, f, t, s, ht, hn, hB, hk, w0, h0, ho, hb0⟩ := h
  obtain ⟨a, cap, rfl, hf, hr⟩ := ho
  have k0 := hk.cell (show 0 < 3 by omega)
  have k1 := hk.cell (show 1 < 3 by omega)
  have k2 := hk.cell (show 2 < 3 by omega)
  have t0 := hk.thaw 0
  have t1 := hk.thaw 1
  have t2 := hk.thaw 2
  simp only [show cu (.slice a n cap) t s 0 = .slice a n cap from rfl, show cu (.slice a n cap) t s 1 = .int .i64 t from rfl, show cu (.slice a n cap) t s 2 = .int .u64 s from rfl] at k0 k1 k2
  have HO := hide (show ∀ (d1 d2 : Nat) (x y : Value), Only cb w ((((w.drewN d1).setCell ⟨cb, 1, none⟩ x).setCell ⟨cb, 2, none⟩ y).drewN d2) from fun d1 d2 x y =>
    have h1 : Only cb w (w.drewN d1) := ⟨rfl, rfl, rfl, rfl, fun _ _ => rfl⟩
    have h2 := (h1.set 1 x).set 2 y
    ⟨h2.os, h2.tape, h2.output, h2.size, h2.block⟩)
  have HF := hide (show ∀ (d1 d2 : Nat) (s' x : Int), x = (t : Int) + 1 → CurAt ((((w.drewN d1).setCell ⟨cb, 1, none⟩ (.int .i64 x)).setCell ⟨cb, 2, none⟩ (.int .u64 s')).drewN d2) B cb (N + 1) from fun d1 d2 s' x hx => by
    subst hx
    refine ⟨.slice a n cap, n, f, t + 1, s', by omega, hn, hB, ?_, w0, h0, ⟨a, cap, rfl, hf, hr⟩, hb0.trans ((HO.out d1 d2 _ _).below hB)⟩
    have hk' : Blk (w.drewN d1) cb 3 (cu (.slice a n cap) t s) 94 := hk
    refine Blk.ext ((hk'.set 1 (.int .i64 ((t : Int) + 1))).set 2 (.int .u64 s')) ?_
    intro i hi
    match i, hi with
    | 0, _ => rfl
    | 1, _ => rfl
    | 2, _ => rfl)
  clear hk
  by_cases hlt : t < n
  · obtain ⟨b, off, rfl, hb, hrow⟩ := hr (by omega)
    have c0 := (hb0.cell (p := ⟨b, off + t, none⟩) (show b < B by omega)).trans (hrow t hlt)
    have e1 : decide ((t : Int) < (n : Int)) = true := by simp; omega
    have hx := hf t hlt
    have hi0 : (0 : Int) ≤ (t : Int) := by omega
    have hi1 : (t : Int) < (n : Int) := by omega
    go_enter Try.func88, Try.ntmps88
    go_wp2
    go_big_quiet (fail)
    go_wp2
    go_big_quiet (fail)
    go_wp2
    go_big_quiet (fail)
    go_wp2
    refine bodyPost_ret (results_tmp rfl _ _ _) rfl ?_
    refine ⟨⟨f t, by omega, rfl⟩, HF.out _ _ _ _ rfl, ?_⟩
    exact HO.out _ _ _ _
  · have e1 : decide ((t : Int) < (n : Int)) = false := by simp; omega
    have hle : ¬ ((t : Int) + 1 ≤ (n : Int)) := by omega
    have e2 : decide ((t : Int) + 1 ≤ (n : Int)) = false := by simp; omega
    clear hr hf
    go_enter Try.func88, Try.ntmps88
    go_wp2
    go_big_quiet (fail)
    go_wp2
    go_big_quiet (fail)
    go_wp2
    refine bodyPost_ret (results_tmp rfl _ _ _) rfl ?_
    refine ⟨?_, HF.out _ _ _ _ rfl, HO.out _ _ _ _⟩
    obtain ⟨x, hx, he⟩ := and255 (IntKind.u64.wrap (IntKind.u64.wrap (s * 6364136223846793005)) + 1442695040888963407)
    exact ⟨x, hx, ret_int he⟩
namespace M
/-- All that was there stands, but for block cb. -/
structure But (cb : Nat) (w w' : World) : Prop where
  os : w'.os = w.os
  tape : w'.tape = w.tape
  output : w'.output = w.output
  size : w.heap.size ≤ w'.heap.size
  block : ∀ k, k < w.heap.size → k ≠ cb → w'.heap[k]? = w.heap[k]?
theorem But.refl (cb : Nat) (w : World) : But cb w w := ⟨rfl, rfl, rfl, Nat.le_refl _, fun _ _ _ => rfl⟩
theorem But.trans {cb : Nat} {a b c : World} (h : But cb a b) (k : But cb b c) : But cb a c :=
  ⟨k.os.trans h.os, k.tape.trans h.tape, k.output.trans h.output, Nat.le_trans h.size k.size, fun i hi hne => (k.block i (Nat.lt_of_lt_of_le hi h.size) hne).trans (h.block i hi hne)⟩
theorem Only.but {cb : Nat} {w w' : World} (h : Only cb w w') : But cb w w' := ⟨h.os, h.tape, h.output, by rw [h.size]; exact Nat.le_refl _, fun k _ hne => h.block k hne⟩
theorem But.of_below {cb : Nat} {w w' : World} (h : Below w.heap.size w w') : But cb w w' := ⟨h.os, h.tape, h.output, h.size, fun k hk _ => h.block k hk⟩
theorem But.below {cb B : Nat} {w w' : World} (h : But cb w w') (hB : B ≤ cb) (hw : B ≤ w.heap.size) : Below B w w' :=
  ⟨h.os, h.tape, h.output, h.size, fun k hk => h.block k (by omega) (by omega)⟩
theorem But.blk {cb : Nat} {w w' : World} (h : But cb w w') {g n : Nat} {f : Nat → Value} {t : TypeId} (hb : Blk w g n f t) (hne : g ≠ cb) : Blk w' g n f t := by
  unfold Blk; rw [h.block g hb.lt hne]; exact hb
theorem But.owns {cb : Nat} {w w' : World} (h : But cb w w') {B e s n : Nat} {v : Value} {xs : List Value} (ho : w.ownsRow B e s v n xs) (hlt : cb < B) : w'.ownsRow B e s v n xs := by
  refine ⟨ho.1, ?_⟩
  rcases ho.2 with h0 | ⟨g, cap, cur, hv, hB, hg, r⟩
  · exact .inl h0
  · have hgl : g < w.heap.size := (Array.getElem?_eq_some_iff.1 hg).1
    exact .inr ⟨g, cap, cur, hv, hB, by rw [h.block g hgl (by omega)]; exact hg, r⟩
theorem CurAt.lt {w : World} {B cb N : Nat} (h : CurAt w B cb N) : cb < w.heap.size := by
  obtain ⟨v, n, f, t, s, ht, hn, hB, hk, _⟩ := h; exact hk.lt
theorem CurAt.more {w : World} {B cb N N' : Nat} (h : CurAt w B cb N) (hN : N ≤ N') : CurAt w B cb N' := by
  obtain ⟨v, n, f, t, s, ht, r⟩ := h; exact ⟨v, n, f, t, s, by omega, r⟩
end M
set_option maxHeartbeats 1000000 in
theorem cur_pick (B cb N m : Nat) (w : World) (h : CurAt w B cb N) (hN : N ≤ 1000000) (hm : m ≤ 200) :
    Calls Try.prog 76 #[.pointer (some ⟨cb, 0, none⟩), .int .i64 (m : Int)] w fun e w' => (∃ x : Nat, (x < m ∨ x = 0) ∧ e = .returned (.int .i64 (x : Int))) ∧ CurAt w' B cb (N + 1) ∧ But cb w w' := by
  have HC := hide h
  clear h
  by_cases h1 : m ≤ 1
  · have h1' : (m : Int) ≤ 1 := by omega
    go_enter Try.func76, Try.ntmps76
    go_wp2
    go_ret
    exact ⟨⟨0, .inr rfl, rfl⟩, HC.out.more (by omega), But.refl _ _⟩
  · have h1' : ¬ ((m : Int) ≤ 1) := by omega
    have h2' : ¬ ((m : Int) > 200) := by omega
    go_enter Try.func76, Try.ntmps76
    go_wp2_with fail
    refine (cur_next B cb N _ HC.out hN).mono ?_
    rintro e w1 ⟨⟨x, hx, rfl⟩, hc1, ho1⟩
    have hq : (x : Int).tmod (m : Int) = ((x % m : Nat) : Int) := by rw [Int.tmod_eq_emod_of_nonneg (by omega)]; omega
    have hm0 : (m : Int) ≠ 0 := by omega
    have HF := hide (And.intro hc1 ho1.but)
    have hlt : x % m < m := Nat.mod_lt _ (by omega)
    clear hc1 ho1
    generalize x % m = y at *
    go_wp2
    go_ret
    exact ⟨⟨y, .inl hlt, ret_int (by first | rfl | omega)⟩, HF.out.1, HF.out.2⟩
set_option maxHeartbeats 1000000 in
theorem cur_one (B cb N m : Nat) (w : World) (h : CurAt w B cb N) (hN : N ≤ 1000000) (hm : m ≤ 200) :
    Calls Try.prog 78 #[.pointer (some ⟨cb, 0, none⟩), .int .i64 (m : Int)] w fun e w' => (∃ b : Bool, e = .returned (.bool b)) ∧ CurAt w' B cb (N + 1) ∧ But cb w w' := by
  have HC := hide h
  clear h
  go_enter Try.func78, Try.ntmps78
  go_wp2_with fail
  refine (cur_pick B cb N m _ HC.out hN hm).mono ?_
  rintro e w1 ⟨⟨x, hx, rfl⟩, hc1, ho1⟩
  go_wp2
  go_ret
  exact ⟨⟨_, rfl⟩, hc1, ho1⟩
set_option maxHeartbeats 2000000 in
theorem cur_pick2 (B cb N m : Nat) (w : World) (h : CurAt w B cb N) (hN : N < 1000000) (h200 : 200 < m) (hm : m ≤ 65536) :
    Calls Try.prog 76 #[.pointer (some ⟨cb, 0, none⟩), .int .i64 (m : Int)] w fun e w' => (∃ x : Nat, x < m ∧ e = .returned (.int .i64 (x : Int))) ∧ CurAt w' B cb (N + 2) ∧ But cb w w' := by
  have HC := hide h
  clear h
  have h1' : ¬ ((m : Int) ≤ 1) := by omega
  have h2' : (m : Int) > 200 := by omega
  go_enter Try.func76, Try.ntmps76
  go_wp2_with fail
  refine (cur_next B cb N _ HC.out (by omega)).mono ?_
  rintro e w1 ⟨⟨x, hx, rfl⟩, hc1, ho1⟩
  have H1 := hide (And.intro hc1 ho1.but)
  clear hc1 ho1 HC
  go_wp2_with fail
  refine (cur_next B cb (N + 1) _ H1.out.1 (by omega)).mono ?_
  rintro e w2 ⟨⟨x2, hx2, rfl⟩, hc2, ho2⟩
  have HF := hide (And.intro hc2 (H1.out.2.trans ho2.but))
  clear hc2 ho2 H1
  have hq : ((x : Int) * 256 + (x2 : Int)).tmod (m : Int) = (((x * 256 + x2) % m : Nat) : Int) := by rw [Int.tmod_eq_emod_of_nonneg (by omega)]; simp
  have hm0 : (m : Int) ≠ 0 := by omega
  have hlt : (x * 256 + x2) % m < m := Nat.mod_lt _ (by omega)
  generalize (x * 256 + x2) % m = y at *
  go_wp2
  go_ret
  exact ⟨⟨y, hlt, ret_int (by first | rfl | omega)⟩, HF.out.1, HF.out.2⟩
set_option maxHeartbeats 1000000 in
theorem cur_amongn (B cb N g k : Nat) (f : Nat → Int) (w : World) (h : CurAt w B cb N) (hN : N ≤ 1000000) (hg : Blk w g k (iv f) 3) (hne : g ≠ cb) (hk0 : 0 < k) (hk : k ≤ 200) :
    Calls Try.prog 77 #[.pointer (some ⟨cb, 0, none⟩), .slice (some ⟨g, 0, none⟩) k k] w fun e w' => (∃ x : Nat, x < k ∧ e = .returned (.int .i64 (f x))) ∧ CurAt w' B cb (N + 1) ∧ But cb w w' := by
  have HC := hide h
  have HG := hide hg
  clear h hg
  go_enter Try.func77, Try.ntmps77
  go_wp2_with fail
  refine (cur_pick B cb N k _ HC.out hN hk).mono ?_
  rintro e w1 ⟨⟨x, hx, rfl⟩, hc1, ho1⟩
  have hx2 : x < k := by omega
  have c0 := (ho1.blk HG.out hne).cell_ints hx2
  have hx0 : (0 : Int) ≤ (x : Int) := by omega
  have hx1 : (x : Int) < (k : Int) := by omega
  go_wp2
  go_ret
  exact ⟨⟨x, hx2, rfl⟩, hc1, ho1⟩
end Go.Proofs.Ytkfnfgencaplfaa

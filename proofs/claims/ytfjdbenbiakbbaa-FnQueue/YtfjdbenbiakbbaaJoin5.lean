/-
  Texts that follow one another, joined: Cu, Oct, Lon.
-/
import Derived.Test.YtfjdbenbiakbbaaJoin4
import Derived.WalkSmall
import Derived.Deep.Slices
import Derived.Deep.SlicePairs
import Derived.Lib.SmallJoins
import Derived.ProofKit
import Derived.OpenShut
import Derived.Test.YtfjdbenbiakbbaaJoin2
import Derived.Conc.LoneCalls
/-
  The specification's reader of choices: what one step leaves (any seat that has it).
-/
namespace Go.Proofs.Ytfjdbenbiakbbaa
open Go.RowKit M
namespace M
/-- A slice of bytes that is read. -/
def OctetsOf (w : World) (v : Value) (n : Nat) (f : Nat → Nat) : Prop :=
  ∃ a cap, v = .slice a n cap ∧ (∀ i, i < n → f i < 256) ∧ (0 < n → ∃ b off, a = some ⟨b, off, none⟩ ∧ b < w.heap.size ∧ ∀ i, i < n → w.cell? ⟨b, off + i, none⟩ = some (.int .u8 (f i : Nat)))
theorem OctetsOf.below {w w' : World} {v : Value} {n : Nat} {f : Nat → Nat} (h : OctetsOf w v n f) (hb : Below w.heap.size w w') : OctetsOf w' v n f := by
  obtain ⟨a, cap, hv, hf, hr⟩ := h
  refine ⟨a, cap, hv, hf, fun hn => ?_⟩
  obtain ⟨b, off, ha, hlt, hrow⟩ := hr hn
  exact ⟨b, off, ha, Nat.lt_of_lt_of_le hlt hb.size, fun i hi => (hb.cell (p := ⟨b, off + i, none⟩) hlt).trans (hrow i hi)⟩
theorem OctetsOf.form {w : World} {v : Value} {n : Nat} {f : Nat → Nat} (h : OctetsOf w v n f) : ∃ a cap, v = .slice a n cap := by
  obtain ⟨a, cap, hv, _⟩ := h; exact ⟨a, cap, hv⟩
def cu (v : Value) (at_ seed : Int) : Nat → Value := fun i => if i = 0 then v else if i = 1 then .int .i64 at_ else .int .u64 seed
/-- The reader lies at block cb; it has taken at most N steps; its bytes lie below B. -/
def CurAt (w : World) (B cb N : Nat) : Prop :=
  ∃ (v : Value) (n : Nat) (f : Nat → Nat) (t : Nat) (s : Int), t ≤ N ∧ n ≤ 1048576 ∧ B ≤ cb ∧ Blk w cb 3 (cu v t s) 84 ∧ ∃ w0 : World, w0.heap.size = B ∧ OctetsOf w0 v n f ∧ Below B w0 w
theorem CurAt.below {w w' : World} {B cb N : Nat} (h : CurAt w B cb N) (hb : Below w.heap.size w w') : CurAt w' B cb N := by
  obtain ⟨v, n, f, t, s, ht, hn, hB, hk, w0, h0, ho, hb0⟩ := h
  have := hk.lt
  exact ⟨v, n, f, t, s, ht, hn, hB, hk.down hb, w0, h0, ho, hb0.trans (hb.mono (by omega))⟩
theorem and255 (y : Int) : ∃ x : Nat, x ≤ 255 ∧ wrap64 (bits .and .u64 (IntKind.u64.wrap y / 1099511627776) 255) = (x : Int) := by
  have hw : 0 ≤ IntKind.u64.wrap y ∧ IntKind.u64.wrap y < 18446744073709551616 := by rw [IntKind.wrap_u64]; omega
  generalize IntKind.u64.wrap y = z at *
  obtain ⟨n, hn⟩ := Int.eq_ofNat_of_zero_le (show 0 ≤ z / 1099511627776 by omega)
  rw [hn]
  refine ⟨n &&& 255, Nat.and_le_right, ?_⟩
  have h := bits_and_u64_nat n 255 (by omega) (by omega)
  rw [show ((255 : Nat) : Int) = 255 from rfl] at h
  rw [h]
  have hle : n &&& 255 ≤ 255 := Nat.and_le_right
  generalize n &&& 255 = m at *
  unfold wrap64
  omega
end M
set_option maxHeartbeats 2000000 in
theorem cur_next (B cb N : Nat) (w : World) (h : CurAt w B cb N) (hN : N ≤ 1000000) :
    Calls Try.prog 80 #[.pointer (some ⟨cb, 0, none⟩)] w fun e w' => (∃ x : Nat, x ≤ 255 ∧ e = .returned (.int .i64 (x : Int))) ∧ CurAt w' B cb (N + 1) ∧ Only cb w w' := by
  obtain ⟨v, n, f, t, s, ht, hn, hB, hk, w0, h0, ho, hb0⟩ := h
  obtain ⟨a, cap, rfl, hf, hr⟩ := ho
  have k0 := hk.cell (show 0 < 3 by omega)
  have k1 := hk.cell (show 1 < 3 by omega)
  have k2 := hk.cell (show 2 < 3 by omega)
  have t0 := hk.thaw 0
  have t1 := hk.thaw 1
  have t2 := hk.thaw 2
  simp only [show cu (.slice a n cap) t s 0 = .slice a n cap from rfl, show cu (.slice a n cap) t s 1 = .int .i64 t from rfl, show cu (.slice a n cap) t s 2 = .int .u64 s from rfl] at k0 k1 k2
  have HO := hide (show ∀ (d1 d2 : Nat) (x y : Value), Only cb w ((((w.drewN d1).setCell ⟨cb, 1, none⟩ x).setCell ⟨cb, 2, none⟩ y).drewN d2) from fun d1 d2 x y =>
    have h1 : Only cb w (w.drewN d1) := ⟨rfl, rfl, rfl, rfl, fun _ _ => rfl⟩
    have h2 := (h1.set 1 x).set 2 y
    ⟨h2.os, h2.tape, h2.output, h2.size, h2.block⟩)
  have HF := hide (show ∀ (d1 d2 : Nat) (s' x : Int), x = (t : Int) + 1 → CurAt ((((w.drewN d1).setCell ⟨cb, 1, none⟩ (.int .i64 x)).setCell ⟨cb, 2, none⟩ (.int .u64 s')).drewN d2) B cb (N + 1) from fun d1 d2 s' x hx => by
    subst hx
    refine ⟨.slice a n cap, n, f, t + 1, s', by omega, hn, hB, ?_, w0, h0, ⟨a, cap, rfl, hf, hr⟩, hb0.trans ((HO.out d1 d2 _ _).below hB)⟩
    have hk' : Blk (w.drewN d1) cb 3 (cu (.slice a n cap) t s) 84 := hk
    refine Blk.ext ((hk'.set 1 (.int .i64 ((t : Int) + 1))).set 2 (.int .u64 s')) ?_
    intro i hi
    match i, hi with
    | 0, _ => rfl
    | 1, _ => rfl
    | 2, _ => rfl)
  clear hk
  by_cases hlt : t < n
  · obtain ⟨b, off, rfl, hb, hrow⟩ := hr (by omega)
    have c0 := (hb0.cell (p := ⟨b, off + t, none⟩) (show b < B by omega)).trans (hrow t hlt)
    have e1 : decide ((t : Int) < (n : Int)) = true := by simp; omega
    have hx := hf t hlt
    have hi0 : (0 : Int) ≤ (t : Int) := by omega
    have hi1 : (t : Int) < (n : Int) := by omega
    go_enter Try.func80, Try.ntmps80
    go_wp2
    go_big_quiet (fail)
    go_wp2
    go_big_quiet (fail)
    go_wp2
    go_big_quiet (fail)
    go_wp2
    refine bodyPost_ret (results_tmp rfl _ _ _) rfl ?_
    refine ⟨⟨f t, by omega, rfl⟩, HF.out _ _ _ _ rfl, ?_⟩
    exact HO.out _ _ _ _
  · have e1 : decide ((t : Int) < (n : Int)) = false := by simp; omega
    have hle : ¬ ((t : Int) + 1 ≤ (n : Int)) := by omega
    have e2 : decide ((t : Int) + 1 ≤ (n : Int)) = false := by simp; omega
    clear hr hf
    go_enter Try.func80, Try.ntmps80
    go_wp2
    go_big_quiet (fail)
    go_wp2
    go_big_quiet (fail)
    go_wp2
    refine bodyPost_ret (results_tmp rfl _ _ _) rfl ?_
    refine ⟨?_, HF.out _ _ _ _ rfl, HO.out _ _ _ _⟩
    obtain ⟨x, hx, he⟩ := and255 (IntKind.u64.wrap (IntKind.u64.wrap (s * 6364136223846793005)) + 1442695040888963407)
    exact ⟨x, hx, ret_int he⟩
namespace M
/-- All that was there stands, but for block cb. -/
structure But (cb : Nat) (w w' : World) : Prop where
  os : w'.os = w.os
  tape : w'.tape = w.tape
  output : w'.output = w.output
  size : w.heap.size ≤ w'.heap.size
  block : ∀ k, k < w.heap.size → k ≠ cb → w'.heap[k]? = w.heap[k]?
theorem But.refl (cb : Nat) (w : World) : But cb w w := ⟨rfl, rfl, rfl, Nat.le_refl _, fun _ _ _ => rfl⟩
theorem But.trans {cb : Nat} {a b c : World} (h : But cb a b) (k : But cb b c) : But cb a c :=
  ⟨k.os.trans h.os, k.tape.trans h.tape, k.output.trans h.output, Nat.le_trans h.size k.size, fun i hi hne => (k.block i (Nat.lt_of_lt_of_le hi h.size) hne).trans (h.block i hi hne)⟩
theorem Only.but {cb : Nat} {w w' : World} (h : Only cb w w') : But cb w w' := ⟨h.os, h.tape, h.output, by rw [h.size]; exact Nat.le_refl _, fun k _ hne => h.block k hne⟩
theorem But.of_below {cb : Nat} {w w' : World} (h : Below w.heap.size w w') : But cb w w' := ⟨h.os, h.tape, h.output, h.size, fun k hk _ => h.block k hk⟩
theorem But.below {cb B : Nat} {w w' : World} (h : But cb w w') (hB : B ≤ cb) (hw : B ≤ w.heap.size) : Below B w w' :=
  ⟨h.os, h.tape, h.output, h.size, fun k hk => h.block k (by omega) (by omega)⟩
theorem But.blk {cb : Nat} {w w' : World} (h : But cb w w') {g n : Nat} {f : Nat → Value} {t : TypeId} (hb : Blk w g n f t) (hne : g ≠ cb) : Blk w' g n f t := by
  unfold Blk; rw [h.block g hb.lt hne]; exact hb
theorem But.owns {cb : Nat} {w w' : World} (h : But cb w w') {B e s n : Nat} {v : Value} {xs : List Value} (ho : w.ownsRow B e s v n xs) (hlt : cb < B) : w'.ownsRow B e s v n xs := by
  refine ⟨ho.1, ?_⟩
  rcases ho.2 with h0 | ⟨g, cap, cur, hv, hB, hg, r⟩
  · exact .inl h0
  · have hgl : g < w.heap.size := (Array.getElem?_eq_some_iff.1 hg).1
    exact .inr ⟨g, cap, cur, hv, hB, by rw [h.block g hgl (by omega)]; exact hg, r⟩
theorem CurAt.lt {w : World} {B cb N : Nat} (h : CurAt w B cb N) : cb < w.heap.size := by
  obtain ⟨v, n, f, t, s, ht, hn, hB, hk, _⟩ := h; exact hk.lt
theorem CurAt.more {w : World} {B cb N N' : Nat} (h : CurAt w B cb N) (hN : N ≤ N') : CurAt w B cb N' := by
  obtain ⟨v, n, f, t, s, ht, r⟩ := h; exact ⟨v, n, f, t, s, by omega, r⟩
end M
set_option maxHeartbeats 1000000 in
theorem cur_pick (B cb N m : Nat) (w : World) (h : CurAt w B cb N) (hN : N ≤ 1000000) (hm : m ≤ 200) :
    Calls Try.prog 58 #[.pointer (some ⟨cb, 0, none⟩), .int .i64 (m : Int)] w fun e w' => (∃ x : Nat, (x < m ∨ x = 0) ∧ e = .returned (.int .i64 (x : Int))) ∧ CurAt w' B cb (N + 1) ∧ But cb w w' := by
  have HC := hide h
  clear h
  by_cases h1 : m ≤ 1
  · have h1' : (m : Int) ≤ 1 := by omega
    go_enter Try.func58, Try.ntmps58
    go_wp2
    go_ret
    exact ⟨⟨0, .inr rfl, rfl⟩, HC.out.more (by omega), But.refl _ _⟩
  · have h1' : ¬ ((m : Int) ≤ 1) := by omega
    have h2' : ¬ ((m : Int) > 200) := by omega
    go_enter Try.func58, Try.ntmps58
    go_wp2_with fail
    refine (cur_next B cb N _ HC.out hN).mono ?_
    rintro e w1 ⟨⟨x, hx, rfl⟩, hc1, ho1⟩
    have hq : (x : Int).tmod (m : Int) = ((x % m : Nat) : Int) := by rw [Int.tmod_eq_emod_of_nonneg (by omega)]; omega
    have hm0 : (m : Int) ≠ 0 := by omega
    have HF := hide (And.intro hc1 ho1.but)
    have hlt : x % m < m := Nat.mod_lt _ (by omega)
    clear hc1 ho1
    generalize x % m = y at *
    go_wp2
    go_ret
    exact ⟨⟨y, .inl hlt, ret_int (by first | rfl | omega)⟩, HF.out.1, HF.out.2⟩
set_option maxHeartbeats 1000000 in
theorem cur_one (B cb N m : Nat) (w : World) (h : CurAt w B cb N) (hN : N ≤ 1000000) (hm : m ≤ 200) :
    Calls Try.prog 81 #[.pointer (some ⟨cb, 0, none⟩), .int .i64 (m : Int)] w fun e w' => (∃ b : Bool, e = .returned (.bool b)) ∧ CurAt w' B cb (N + 1) ∧ But cb w w' := by
  have HC := hide h
  clear h
  go_enter Try.func81, Try.ntmps81
  go_wp2_with fail
  refine (cur_pick B cb N m _ HC.out hN hm).mono ?_
  rintro e w1 ⟨⟨x, hx, rfl⟩, hc1, ho1⟩
  go_wp2
  go_ret
  exact ⟨⟨_, rfl⟩, hc1, ho1⟩
set_option maxHeartbeats 2000000 in
theorem cur_pick2 (B cb N m : Nat) (w : World) (h : CurAt w B cb N) (hN : N < 1000000) (h200 : 200 < m) (hm : m ≤ 65536) :
    Calls Try.prog 58 #[.pointer (some ⟨cb, 0, none⟩), .int .i64 (m : Int)] w fun e w' => (∃ x : Nat, x < m ∧ e = .returned (.int .i64 (x : Int))) ∧ CurAt w' B cb (N + 2) ∧ But cb w w' := by
  have HC := hide h
  clear h
  have h1' : ¬ ((m : Int) ≤ 1) := by omega
  have h2' : (m : Int) > 200 := by omega
  go_enter Try.func58, Try.ntmps58
  go_wp2_with fail
  refine (cur_next B cb N _ HC.out (by omega)).mono ?_
  rintro e w1 ⟨⟨x, hx, rfl⟩, hc1, ho1⟩
  have H1 := hide (And.intro hc1 ho1.but)
  clear hc1 ho1 HC
  go_wp2_with fail
  refine (cur_next B cb (N + 1) _ H1.out.1 (by omega)).mono ?_
  rintro e w2 ⟨⟨x2, hx2, rfl⟩, hc2, ho2⟩
  have HF := hide (And.intro hc2 (H1.out.2.trans ho2.but))
  clear hc2 ho2 H1
  have hq : ((x : Int) * 256 + (x2 : Int)).tmod (m : Int) = (((x * 256 + x2) % m : Nat) : Int) := by rw [Int.tmod_eq_emod_of_nonneg (by omega)]; simp
  have hm0 : (m : Int) ≠ 0 := by omega
  have hlt : (x * 256 + x2) % m < m := Nat.mod_lt _ (by omega)
  generalize (x * 256 + x2) % m = y at *
  go_wp2
  go_ret
  exact ⟨⟨y, hlt, ret_int (by first | rfl | omega)⟩, HF.out.1, HF.out.2⟩
set_option maxHeartbeats 1000000 in
theorem cur_amongn (B cb N g k : Nat) (f : Nat → Int) (w : World) (h : CurAt w B cb N) (hN : N ≤ 1000000) (hg : Blk w g k (iv f) 3) (hne : g ≠ cb) (hk0 : 0 < k) (hk : k ≤ 200) :
    Calls Try.prog 82 #[.pointer (some ⟨cb, 0, none⟩), .slice (some ⟨g, 0, none⟩) k k] w fun e w' => (∃ x : Nat, x < k ∧ e = .returned (.int .i64 (f x))) ∧ CurAt w' B cb (N + 1) ∧ But cb w w' := by
  have HC := hide h
  have HG := hide hg
  clear h hg
  go_enter Try.func82, Try.ntmps82
  go_wp2_with fail
  refine (cur_pick B cb N k _ HC.out hN hk).mono ?_
  rintro e w1 ⟨⟨x, hx, rfl⟩, hc1, ho1⟩
  have hx2 : x < k := by omega
  have c0 := (ho1.blk HG.out hne).cell_ints hx2
  have hx0 : (0 : Int) ≤ (x : Int) := by omega
  have hx1 : (x : Int) < (k : Int) := by omega
  go_wp2
  go_ret
  exact ⟨⟨x, hx2, rfl⟩, hc1, ho1⟩
end Go.Proofs.Ytfjdbenbiakbbaa

/-
  What came in, read as data, is a slice of bytes in memory.
-/
namespace Go.Proofs.Ytfjdbenbiakbbaa
open Go.ChangeShapes Go.WideShapes Go.ChangeAt Go.RowKit Go.Joins Go.Deep
open M
theorem u8_of {x : Int} (h : (Lit.int .u8 x).wf = true) : 0 ≤ x ∧ x < 256 := by
  simp [Lit.wf] at h
  have h1 : (0 : Int) ≤ x := h.1
  have h2 : x ≤ 255 := h.2
  omega
set_option maxRecDepth 100000 in
theorem open_octets {H : Type} {enc : TypeId × Value → H} {W : World} {b0 : Nat} {v : Value} {d : DataW H} {p : List MemPlace}
    (hv : Value.okWide Try.prog W .any b0 58 v) (h : DataW.Trod enc Try.prog W 0 (fun _ => true) true 58 v d p) :
    ∃ n f, OctetsOf W v n f ∧ ((d = .nil ∧ n = 0) ∨ ∃ es sp, d = .slice es sp ∧ n ≤ es.length) := by
  obtain ⟨a0, len0, cap0, rfl⟩ := okWide_slice Try.underlying58 hv
  obtain ⟨fuel, hf⟩ := h
  rcases open_ints Try.underlying58 Try.underlying5 (by kernel_rfl) hf with ⟨hcs, hd⟩ | ⟨x, l, c, zs, hcs, _, hl, hm, hz, hd, hcell, hwz⟩
  · simp [Value.cells] at hcs
    obtain ⟨rfl, rfl, rfl⟩ := hcs
    exact ⟨0, fun _ => 0, ⟨none, 0, rfl, fun i h => absurd h (by omega), fun h => absurd h (Nat.lt_irrefl _)⟩, .inl ⟨by simp only [Prod.mk.injEq] at hd; exact hd.1, rfl⟩⟩
  · simp [Value.cells] at hcs
    obtain ⟨rfl, rfl, rfl⟩ := hcs
    have hz' : zs.length = cap0 := by simpa using hz
    have hu : ∀ i, i < len0 → 0 ≤ zs.getD i 0 ∧ zs.getD i 0 < 256 := fun i hi => by
      have hlt : i < zs.length := by omega
      rw [show zs.getD i 0 = zs[i] by simp [List.getD, hlt]]
      exact u8_of (hwz _ (List.getElem_mem hlt))
    refine ⟨len0, fun i => (zs.getD i 0).toNat, ⟨some x, cap0, rfl, fun i hi => by have := hu i hi; show (zs.getD i 0).toNat < 256; omega, fun hp => ?_⟩, .inr ⟨lits .u8 (zs.take len0), lits .u8 (zs.drop len0), by simp only [Prod.mk.injEq] at hd; exact hd.1, by simp [lits]; omega⟩⟩
    obtain ⟨b, off, spot⟩ := x
    have h0 := hcell 0 (by omega)
    have hs := World.cell?_spot h0
    have hspot : spot = none := by simpa [Addr.add] using hs
    subst hspot
    have ha : ∀ n, (⟨b, off, none⟩ : Addr).add n = ⟨b, off + n, none⟩ := fun n => by unfold Addr.add; split <;> simp_all
    rw [ha] at h0
    refine ⟨b, off, rfl, World.block_lt_of_cell? W _ h0, fun i hi => ?_⟩
    have hc := hcell i (by omega)
    rw [ha] at hc
    rw [hc, show (((zs.getD i 0).toNat : Nat) : Int) = zs.getD i 0 by have := hu i hi; omega]
end Go.Proofs.Ytfjdbenbiakbbaa

/-
  A walk through code that sends and selects with nobody else there: as the walk of plain code, for a call's own frame alone.
-/
namespace Go.Proofs.Ytfjdbenbiakbbaa
open Go.RowKit M
open Go.Conc
namespace M
section
variable {P : Program} {Q : Exit → Act → World → Prop} {a : Act} {w : World}
/-- The code comes to an end of which Q tells, in a frame of a plain call. -/
def CN (P : Program) (c : Code) (Q : Exit → Act → World → Prop) (a : Act) (w : World) : Prop :=
  ∀ (b : Frame) (k : List Item) (cs : List Frame), b.kind = .normal → ∃ e a' w', Q e a' w' ∧ Arrives P (lone (b.at a (.code c :: k)) cs w) b k cs e a' w'
/-- The like of what is left of a region. -/
def ON (P : Program) (ops : Array Oper) (l : List Nat) (Q : Exit → Act → World → Prop) (a : Act) (w : World) : Prop :=
  ∀ (b : Frame) (k : List Item) (cs : List Frame), b.kind = .normal → ∃ e a' w', Q e a' w' ∧ Arrives P (lone (b.at a (.inRegion ops l :: k)) cs w) b k cs e a' w'
theorem cn_wp {c : Code} (h : c.wp P Q a w) : CN P c Q a w := fun b k cs _ => h b k cs
theorem on_wp {ops : Array Oper} {l : List Nat} (h : wpOps P ops Q l a w) : ON P ops l Q a w := fun b k cs _ => wp_ops l a w h b k cs
theorem cn_mono {c : Code} {Q' : Exit → Act → World → Prop} (h : CN P c Q a w) (hq : ∀ e a w, Q e a w → Q' e a w) : CN P c Q' a w :=
  fun b k cs hb => let ⟨e, a', w', q, r⟩ := h b k cs hb; ⟨e, a', w', hq _ _ _ q, r⟩
theorem cn_seq {x y : Code} (N : Act → World → Prop) (h : CN P x (Exit.then N Q) a w) (h2 : ∀ a w, N a w → CN P y Q a w) : CN P (.seq x y) Q a w := by
  intro b k cs hb
  obtain ⟨e, a1, w1, hq, har⟩ := h b (.code y :: k) cs hb
  by_cases he : e = .normal
  · subst he
    obtain ⟨e2, a2, w2, hq2, har2⟩ := h2 _ _ hq b k cs hb
    exact ⟨e2, a2, w2, hq2, .of_steps (.head step_seq har) har2⟩
  · have hq' : Q e a1 w1 := by cases e <;> first | exact absurd rfl he | exact hq
    exact ⟨e, a1, w1, hq', .of_steps (.one step_seq) (.pass (x := .code y) rfl (fun _ _ => .inl he) har)⟩
theorem cn_cond {c : Operand} {x y : Code} {t : Bool} (hc : a.eval c = .bool t) (h : CN P (if t then x else y) Q a w) : CN P (.cond c x y) Q a w :=
  fun b k cs hb => let ⟨e, a', w', q, r⟩ := h b k cs hb; ⟨e, a', w', q, .of_steps (.one (step_cond hc)) r⟩
theorem cn_block {id : Nat} {c : Code} (h : CN P c (Exit.inBlock id Q) a w) : CN P (.block id c) Q a w := by
  intro b k cs hb
  obtain ⟨e, a1, w1, hq, har⟩ := h b (.inBlock id :: k) cs hb
  cases e with
  | normal => exact ⟨.normal, a1, w1, hq, .head step_block (Steps.trans har (.one step_inBlock))⟩
  | exit id' =>
    by_cases hid : id' = id
    · subst hid
      simp only [Exit.inBlock, if_true] at hq
      exact ⟨.normal, a1, w1, hq, .head step_block (har k (by simp [exitTo]))⟩
    · simp only [Exit.inBlock, hid, if_false] at hq
      refine ⟨.exit id', a1, w1, hq, fun k' hk => .head step_block (har k' ?_)⟩
      have : (id == id') = false := by simp; exact fun h => hid h.symm
      simp [exitTo, this, hk]
  | goto l => exact ⟨_, a1, w1, hq, fun k' hk => .head step_block (har k' (by simp [gotoIn, hk]))⟩
  | ret => exact ⟨_, a1, w1, hq, .of_steps (.one step_block) har⟩
  | panic ch => exact ⟨_, a1, w1, hq, .of_steps (.one step_block) har⟩
  | outgrown => exact ⟨_, a1, w1, hq, .of_steps (b := b) (k := k) (cs := cs) (e := .outgrown) (.one step_block) har⟩
theorem cn_loop {c : Code} (I : Nat → Act → World → Prop) {n : Nat} (h0 : I n a w)
    (round : ∀ n a w, I n a w → CN P c (Exit.then (fun a' w' => ∃ m, m < n ∧ I m a' w') Q) a w) : CN P (.loop c) Q a w := by
  intro b k cs hb
  have key : ∀ n a w, I n a w → ∃ e a' w', Q e a' w' ∧ Arrives P (lone (b.at a (.code c :: .inLoop c :: k)) cs w) b k cs e a' w' := by
    intro n
    induction n using Nat.strongRecOn with
    | _ n ih =>
      intro a w hI
      obtain ⟨e, a1, w1, hq, har⟩ := round n a w hI b (.inLoop c :: k) cs hb
      by_cases he : e = .normal
      · subst he
        obtain ⟨m, hm, hI1⟩ := hq
        obtain ⟨e2, a2, w2, hq2, har2⟩ := ih m hm a1 w1 hI1
        exact ⟨e2, a2, w2, hq2, .of_steps (Steps.trans har (.one step_inLoop)) har2⟩
      · have hq' : Q e a1 w1 := by cases e <;> first | exact absurd rfl he | exact hq
        exact ⟨e, a1, w1, hq', .pass (x := .inLoop c) rfl (fun _ _ => .inl he) har⟩
  obtain ⟨e, a', w', hq, har⟩ := key n a w h0
  exact ⟨e, a', w', hq, .of_steps (.one step_loop) har⟩
theorem cn_region {id : Nat} {ops : Array Oper} (h : ON P ops (List.range ops.size) Q a w) : CN P (.region id ops false) Q a w :=
  fun b k cs hb => let ⟨e, a', w', q, r⟩ := h b k cs hb; ⟨e, a', w', q, .of_steps (.one step_region) r⟩
theorem on_end {ops : Array Oper} (h : Q .normal a w) : ON P ops [] Q a w := fun _ _ _ _ => ⟨.normal, a, w, h, .one step_region_end⟩
/-- One operation that yields a value. -/
theorem on_value {ops : Array Oper} {i : Nat} {rest : List Nat} {o : Oper} {v : Value} {w' : World} (ho : ops[i]? = some o) (hw : Region.wanted o (yielded ops a.tmps) = true)
    (hr : (execOp a.eval o).run P w = .ok (.value v) w') (h : ON P ops rest Q (a.put o.dst v) w') : ON P ops (i :: rest) Q a w := by
  intro b k cs hb
  obtain ⟨e, a', w'', q, r⟩ := h b k cs hb
  refine ⟨e, a', w'', q, .of_steps (.one (step_lone_go ?_)) r⟩
  have hfin : (b.at a (.inRegion ops (i :: rest) :: k)).finish v = b.at (a.put o.dst v) (.inRegion ops rest :: k) := by rw [Frame.finish_at, ho]; rfl
  rw [stepG_op (P := P) (b := b) (k := k) (cs := cs) (w := w) (rest := rest) ho hw, ← hfin]
  simp [stepG.apply, hr]
theorem on_send {ops : Array Oper} {i : Nat} {rest : List Nat} {o : Oper} {v z : Value} {w' : World} {c cap s r : Nat} {buf : Array Value} {tm : Bool} (ho : ops[i]? = some o) (hw : Region.wanted o (yielded ops a.tmps) = true)
    (hr : (execOp a.eval o).run P w = .ok (.comm #[scase c v z] true .send) w') (hc : w'.heap[c]? = some (.chan cap buf false s r tm)) (hroom : buf.size < cap)
    (h : ON P ops rest Q (a.put o.dst undef) (w'.setChan c cap (buf.push v) false (s + 1) r tm)) : ON P ops (i :: rest) Q a w := by
  intro b k cs hb
  obtain ⟨e, a', w'', q, ar⟩ := h b k cs hb
  refine ⟨e, a', w'', q, .of_steps (.one ?_) ar⟩
  have hfin : (b.at a (.inRegion ops (i :: rest) :: k)).finish undef = b.at (a.put o.dst undef) (.inRegion ops rest :: k) := by rw [Frame.finish_at, ho]; rfl
  have := step_lone_send_room (P := P) (cs := cs) (stepG_comm (main := true) (b := b) (k := k) (cs := cs) (rest := rest) ho hw (by rw [hb]; decide) hr) hc hroom
  rw [hfin] at this
  exact this
theorem on_took {ops : Array Oper} {i : Nat} {rest : List Nat} {o : Oper} {z : Value} {w' : World} {c cap s r : Nat} {buf : Array Value} {cl tm : Bool} (ho : ops[i]? = some o) (hw : Region.wanted o (yielded ops a.tmps) = true)
    (hr : (execOp a.eval o).run P w = .ok (.comm #[rcase c z] false .select) w') (hc : w'.heap[c]? = some (.chan cap buf cl s r tm)) (hsome : 0 < buf.size)
    (h : ON P ops rest Q (a.put o.dst (.tuple #[goInt 0, .bool true, buf.getD 0 undef])) (w'.setChan c cap (buf.extract 1 buf.size) cl s (r + 1) tm)) : ON P ops (i :: rest) Q a w := by
  intro b k cs hb
  obtain ⟨e, a', w'', q, ar⟩ := h b k cs hb
  refine ⟨e, a', w'', q, .of_steps (.one ?_) ar⟩
  have hfin : ∀ v, (b.at a (.inRegion ops (i :: rest) :: k)).finish v = b.at (a.put o.dst v) (.inRegion ops rest :: k) := fun v => by rw [Frame.finish_at, ho]; rfl
  have hp := partners_alone (c := c) true
  have hs := stepG_comm (P := P) (main := true) (b := b) (k := k) (cs := cs) (rest := rest) ho hw (by rw [hb]; decide) hr
  rw [← hfin]
  rw [lone_eq_solo, lone_eq_solo, Go.step, stepT_solo rfl]
  simp [runT, solo, G, Array.swapAt!, Array.swapAt, hs, GStep.es, communicate, ways, rcase, hc, hp, hsome, choose, Sem.run, Question.forced, bind, Sem.bind, pure, Goroutine.finishComm, commResult, World.setChan] at hs ⊢
theorem on_none {ops : Array Oper} {i : Nat} {rest : List Nat} {o : Oper} {z : Value} {w' : World} {c cap s r : Nat} {tm : Bool} (ho : ops[i]? = some o) (hw : Region.wanted o (yielded ops a.tmps) = true)
    (hr : (execOp a.eval o).run P w = .ok (.comm #[rcase c z] false .select) w') (hc : w'.heap[c]? = some (.chan cap #[] false s r tm))
    (h : ON P ops rest Q (a.put o.dst (.tuple #[goInt (-1), .bool false, z])) w') : ON P ops (i :: rest) Q a w := by
  intro b k cs hb
  obtain ⟨e, a', w'', q, ar⟩ := h b k cs hb
  refine ⟨e, a', w'', q, .of_steps (.one ?_) ar⟩
  have hfin : ∀ v, (b.at a (.inRegion ops (i :: rest) :: k)).finish v = b.at (a.put o.dst v) (.inRegion ops rest :: k) := fun v => by rw [Frame.finish_at, ho]; rfl
  have := step_lone_select_default (P := P) (cs := cs) (stepG_comm (main := true) (b := b) (k := k) (cs := cs) (rest := rest) ho hw (by rw [hb]; decide) hr) hc
  rw [hfin] at this
  exact this
end
theorem calls_cn {P : Program} {f : FuncId} {fn : Func} {c : Code} {args : Array Value} {w : World} {R : Ending → World → Prop} (hf : P.funcs[f]? = some fn) (hb : fn.body = some c)
    (h : CN P c (bodyPost P fn R) { tmps := args ++ Array.replicate (fn.ntmps - args.size) undef, defers := [] } w) (hR : ∀ w, ¬ R .outgrown w) : Calls P f args w R := by
  intro cs
  let b : Frame := { (default : Frame) with fn := f, kind := .normal }
  have hen : Frame.enter P f args .normal = b.at { tmps := args ++ Array.replicate (fn.ntmps - args.size) undef, defers := [] } [.code c] := by
    simp [Frame.enter, Frame.at, hf, hb, b]
  obtain ⟨e, a', w', hq, har⟩ := h b [] cs rfl
  rw [← hen] at har
  cases e with
  | normal =>
    obtain ⟨hd, v, hr, hv⟩ := hq
    exact ⟨.returned v, w', _, hv, Steps.trans har (.one step_end), rfl, rfl, hd, rfl, fn, hf, hr⟩
  | ret =>
    obtain ⟨hd, v, hr, hv⟩ := hq
    obtain ⟨todo, hs⟩ := har
    exact ⟨.returned v, w', _, hv, hs, rfl, rfl, hd, rfl, fn, hf, hr⟩
  | panic chain =>
    obtain ⟨hd, hv⟩ := hq
    obtain ⟨todo, hs⟩ := har
    exact ⟨.panicked chain, w', _, hv, hs, rfl, rfl, hd, fn, hf⟩
  | exit id => exact hq.elim
  | goto l => exact hq.elim
  | outgrown => exact absurd hq (hR _)
end M
end Go.Proofs.Ytfjdbenbiakbbaa

/-
  slices.DeleteFunc on a row of the call's own, where at most one timer has the Id.
-/
import Derived.Test.YtcodllammndciaaWhX
import Derived.Lib.SliceRun
namespace Go.Proofs.Ytcodllammndciaa
open Go.RowKit M
open Clk (upd upd_same upd_other)
set_option maxRecDepth 20000 in
set_option maxHeartbeats 2000000 in
theorem index_func2 (v : Value) (n : Nat) (f : Nat → Int) (id : Int) (b : Nat) (w : World) (hv : TimersOf w v n f) (hn : n ≤ 1048576) (hc : w.cell? ⟨b, 0, none⟩ = some (.int .i64 id)) (hb : b < w.heap.size) :
    Calls Try.prog 75 #[v, hasF b] w fun e w' => ((∃ p : Nat, p < n ∧ f (p * 2 + 1) = id ∧ e = .returned (.int .i64 (p : Int))) ∨ ((∀ p, p < n → f (p * 2 + 1) ≠ id) ∧ e = .returned (.int .i64 (-1)))) ∧ Below w.heap.size w w' := by
  obtain ⟨a, cap, rfl, hr⟩ := hv
  have HR := hide hr
  have HC := hide hc
  clear hr hc
  go_enter Try.func75, Try.ntmps75
  go_wp2
  go_loopw [8] (fun y wr => ∃ j : Nat, j ≤ n ∧ y = .int .i64 (j : Int) ∧ Hid (∀ p, p < j → f (p * 2 + 1) ≠ id) ∧ Below w.heap.size w wr) (fun y _ => n - (intOf y).toNat)
  case atStart => exact ⟨0, Nat.zero_le _, rfl, hide (fun p h => by omega), Below.refl _ _⟩
  case round =>
    rename World => wo
    obtain ⟨j, hj, rfl, HP, hbw⟩ := hrel
    by_cases hlt : j < n
    · obtain ⟨b2, off, rfl, hb2, hrow⟩ := HR.out (by omega)
      have c0 := (hbw.cell (p := ⟨b2, off + j * 2, none⟩) hb2).trans (hrow (j * 2) (by omega))
      have c1 := (hbw.cell (p := ⟨b2, off + (j * 2 + 1), none⟩) hb2).trans (hrow (j * 2 + 1) (by omega))
      simp only [← Nat.add_assoc] at c1
      have hj0 : (0 : Int) ≤ (j : Int) := by omega
      have hj1 : (j : Int) < (n : Int) := by omega
      have hcc := (hbw.cell (p := ⟨b, 0, none⟩) hb).trans HC.out
      have hb3 := Nat.lt_of_lt_of_le hb hbw.size
      by_cases he : f (j * 2 + 1) = id
      · have HH := hide (has_id_in (f (j * 2)) (f (j * 2 + 1)) id b true wo hcc hb3 (by simp [he]))
        have HE := hide he
        clear hrow HR he HP hcc
        go_wp2_with fail
        refine HH.out.mono ?_
        rintro e w2 ⟨rfl, hb4⟩
        have hbf := hbw.trans (hb4.mono hbw.size)
        clear HH
        go_wp2
        go_ret
        exact ⟨.inl ⟨j, hlt, HE.out, rfl⟩, hbf⟩
      · have HH := hide (has_id_in (f (j * 2)) (f (j * 2 + 1)) id b false wo hcc hb3 (by simp [he]))
        have HP2 := hide (show ∀ p, p < j + 1 → f (p * 2 + 1) ≠ id from fun p hp => by
          rcases (show p < j ∨ p = j by omega) with h | h
          · exact HP.out p h
          · subst h; exact he)
        clear hrow HR he HP hcc
        go_wp2_with fail
        refine HH.out.mono ?_
        rintro e w2 ⟨rfl, hb4⟩
        have hbf := hbw.trans (hb4.mono hbw.size)
        clear HH
        go_wp2
        exact ⟨⟨j + 1, by omega, by go_num, HP2, hbf⟩, by simp [intOf]; omega⟩
    · obtain rfl : n = j := by omega
      clear HR
      go_wp2
      go_ret
      exact ⟨.inr ⟨HP.out, rfl⟩, hbw⟩
namespace M
/-- A row without its timer p. -/
def dl (f : Nat → Int) (p : Nat) : Nat → Int := fun q => if q < p * 2 then f q else f (q + 2)
/-- A row whose timers p + 1 .. i stand one place ahead. -/
def dli (f : Nat → Int) (p i : Nat) : Nat → Int := fun q => if q < p * 2 then f q else if q < i * 2 then f (q + 2) else f q
def Sh (w W : World) (b n c : Nat) (f : Nat → Int) (p i : Nat) : Prop := OwnT W b n c (dli f p i) ∧ Kept b (b + 1) w W
theorem Kept.set {lo hi : Nat} {w W : World} (h : Kept lo hi w W) {b : Nat} (h1 : lo ≤ b) (h2 : b < hi) (q : Nat) (v : Value) : Kept lo hi w (W.setCell ⟨b, q, none⟩ v) :=
  ⟨h.os, h.tape, h.output, by rw [World.size_setCell]; exact h.size, fun k hk hl => (Go.heap_setCell_other W ⟨b, q, none⟩ k v (by show k ≠ b; omega)).trans (h.block k hk hl)⟩
theorem Kept.down {lo hi : Nat} {w W W' : World} (h : Kept lo hi w W) (hb : Below W.heap.size W W') : Kept lo hi w W' :=
  ⟨hb.os.trans h.os, hb.tape.trans h.tape, hb.output.trans h.output, Nat.le_trans h.size hb.size, fun k hk hl => (hb.block k (Nat.lt_of_lt_of_le hk h.size)).trans (h.block k hk hl)⟩
theorem Sh.down {w W W' : World} {b n c : Nat} {f : Nat → Int} {p i : Nat} (h : Sh w W b n c f p i) (hb : Below W.heap.size W W') : Sh w W' b n c f p i := by
  obtain ⟨⟨h1, k, hk, he⟩, h2⟩ := h
  exact ⟨⟨h1, k, hk.down hb, he⟩, h2.down hb⟩
theorem Sh.step {w W : World} {b n c : Nat} {f : Nat → Int} {p i : Nat} (h : Sh w W b n c f p i) (hp : p ≤ i) : Sh w ((W.setCell ⟨b, i * 2, none⟩ (.int .i64 (f ((i + 1) * 2)))).setCell ⟨b, i * 2 + 1, none⟩ (.int .i64 (f ((i + 1) * 2 + 1)))) b n c f p (i + 1) := by
  obtain ⟨⟨h1, k, hk, he⟩, h2⟩ := h
  refine ⟨⟨h1, _, (hk.set _ _).set _ _, fun q hq => ?_⟩, (h2.set (Nat.le_refl _) (Nat.lt_succ_self _) _ _).set (Nat.le_refl _) (Nat.lt_succ_self _) _ _⟩
  by_cases e1 : q = i * 2 + 1
  · subst e1; rw [upd_same]; unfold dli; rw [if_neg (by omega), if_pos (by omega)]; congr 2; omega
  · rw [upd_other _ _ _ _ e1]
    by_cases e2 : q = i * 2
    · subst e2; rw [upd_same]; unfold dli; rw [if_neg (by omega), if_pos (by omega)]; congr 2; omega
    · rw [upd_other _ _ _ _ e2, he q hq]; unfold dli
      congr 1
      by_cases e3 : q < p * 2
      · rw [if_pos e3, if_pos e3]
      · rw [if_neg e3, if_neg e3]
        by_cases e4 : q < i * 2
        · rw [if_pos e4, if_pos (by omega)]
        · rw [if_neg e4, if_neg (by omega)]
theorem Sh.fin {w W : World} {b n c : Nat} {f : Nat → Int} {p i : Nat} (h : Sh w W b n c f p i) (hi : n = i + 1) (x y : Value) : OwnT ((W.setCell ⟨b, i * 2, none⟩ x).setCell ⟨b, i * 2 + 1, none⟩ y) b i c (dl f p) ∧ Kept b (b + 1) w ((W.setCell ⟨b, i * 2, none⟩ x).setCell ⟨b, i * 2 + 1, none⟩ y) := by
  obtain ⟨⟨h1, k, hk, he⟩, h2⟩ := h
  refine ⟨⟨by omega, _, (hk.set _ _).set _ _, fun q hq => ?_⟩, (h2.set (Nat.le_refl _) (Nat.lt_succ_self _) _ _).set (Nat.le_refl _) (Nat.lt_succ_self _) _ _⟩
  rw [upd_other _ _ _ _ (by omega), upd_other _ _ _ _ (by omega), he q (by omega)]
  unfold dli dl
  congr 1
  by_cases e3 : q < p * 2
  · rw [if_pos e3, if_pos e3]
  · rw [if_neg e3, if_neg e3, if_pos (by omega)]
theorem Sh.cells {w W : World} {b n c : Nat} {f : Nat → Int} {p i : Nat} (h : Sh w W b n c f p i) {j : Nat} (hj : j < n) : (∃ x y, W.cell? ⟨b, j * 2, none⟩ = some (.int .i64 x) ∧ W.cell? ⟨b, j * 2 + 1, none⟩ = some (.int .i64 y) ∧ x = dli f p i (j * 2) ∧ y = dli f p i (j * 2 + 1)) ∧ W.frozen? ⟨b, j * 2, none⟩ = false ∧ W.frozen? ⟨b, j * 2 + 1, none⟩ = false := by
  obtain ⟨⟨h1, k, hk, he⟩, h2⟩ := h
  exact ⟨⟨_, _, (hk.cell (by omega)).trans (by rw [he _ (by omega)]), (hk.cell (by omega)).trans (by rw [he _ (by omega)]), rfl, rfl⟩, hk.thaw _, hk.thaw _⟩
end M
theorem run_clear_one (w : World) (ty : TypeId) (b i c : Nat) (h0 : (w.cell? ⟨b, i * 2, none⟩).isSome = true) (h1 : (w.cell? ⟨b, i * 2 + 1, none⟩).isSome = true) (f0 : w.frozen? ⟨b, i * 2, none⟩ = false) (f1 : w.frozen? ⟨b, i * 2 + 1, none⟩ = false) :
    (Builtin.clear_ #[52] ty #[.slice (some ⟨b, i * 2, none⟩) 1 c]).run Try.prog w = .ok (.tuple #[]) ((w.setCell ⟨b, i * 2, none⟩ (.int .i64 0)).setCell ⟨b, i * 2 + 1, none⟩ (.int .i64 0)) := by
  obtain ⟨i0, hi, hz0, hz1, hz2⟩ := info_parts info_timer
  have hzc : (Builtin.zeroCells (Value.agg #[.int .i64 0, .int .i64 0]).cells 1).toList = [.int .i64 0, .int .i64 0] := by first | kernel_rfl | decide | simp [Builtin.zeroCells, Value.cells]
  have hst := run_storeCells_cells (P := Try.prog) b (i * 2) [.int .i64 0, .int .i64 0] 0 w (by
    intro j hj
    match j, hj with
    | 0, _ => exact h0
    | 1, _ => exact h1) (by
    intro j hj
    match j, hj with
    | 0, _ => exact f0
    | 1, _ => exact f1) (by intro v hv; simp at hv; subst hv; rfl)
  simp only [Nat.add_zero] at hst
  simp [Builtin.clear_, run_underlying Try.underlying52, hzc, hst]
  rfl
set_option maxRecDepth 20000 in
set_option maxHeartbeats 4000000 in
theorem delete_func (a : Option Addr) (b n c : Nat) (f : Nat → Int) (id : Int) (bi : Nat) (w : World) (hv : 0 < n → a = some ⟨b, 0, none⟩ ∧ OwnT w b n c f) (hn : n ≤ 60) (hnc : n ≤ c) (hc : w.cell? ⟨bi, 0, none⟩ = some (.int .i64 id)) (hbi : bi < w.heap.size) (hne : 0 < n → bi ≠ b)
    (hu : ∀ p q, p < n → q < n → f (p * 2 + 1) = id → f (q * 2 + 1) = id → p = q) :
    Calls Try.prog 61 #[.slice a n c, hasF bi] w fun e w' => ((∀ p, p < n → f (p * 2 + 1) ≠ id) ∧ e = .returned (.slice a n c) ∧ Below w.heap.size w w') ∨ (∃ p, p < n ∧ f (p * 2 + 1) = id ∧ e = .returned (.slice a (n - 1) c) ∧ OwnT w' b (n - 1) c (dl f p) ∧ Kept b (b + 1) w w') := by
  have HV := hide hv
  have HU := hide hu
  have HC := hide hc
  have hT : TimersOf w (.slice a n c) n f := ⟨a, c, rfl, fun h => by
    obtain ⟨h1, h2, k, h3, h4⟩ := hv h
    exact ⟨b, 0, h1, h3.lt, fun q hq => by rw [Nat.zero_add, h3.cell (by omega), h4 q hq]⟩⟩
  have HI := hide (index_func2 _ n f id bi w hT (by omega) hc hbi)

  clear hv hu hc hT
  go_enter Try.func61, Try.ntmps61
  go_wp2_with fail
  refine HI.out.mono ?_
  rintro e w1 ⟨⟨p, hp, he, rfl⟩ | ⟨hno, rfl⟩, hb⟩
  · obtain ⟨rfl, hO⟩ := HV.out (by omega)
    have hbne := hne (by omega)
    have HS0 := hide (show Sh w w1 b n c f p p from ⟨by
      obtain ⟨h2, k, h3, h4⟩ := hO
      refine ⟨h2, k, h3.down hb, fun q hq => (h4 q hq).trans ?_⟩
      unfold dli
      congr 1
      by_cases e : q < p * 2
      · rw [if_pos e]
      · rw [if_neg e, if_neg e], M.Below.kept hb _ _⟩)
    have HE := hide he
    have hd : ((p : Int) == -1) = false := by
      rw [beq_eq_false_iff_ne]; omega
    clear HI HV hO hb he hne
    go_wp2_with fail
    go_loopw [5, 6] (fun x y wr => ∃ i j : Nat, p ≤ i ∧ i < n ∧ j ≤ n ∧ x = .int .i64 (i : Int) ∧ y = .int .i64 (j : Int) ∧ Hid (j = i + 1) ∧ Hid (Sh w wr b n c f p i)) (fun _ y _ => n - (intOf y).toNat)
    case atStart => exact ⟨p, p + 1, Nat.le_refl _, hp, by omega, rfl, by go_num, hide rfl, HS0⟩
    case round =>
      rename World => wo
      obtain ⟨i, j, hpi, hin, hjn, rfl, rfl, HJ, HSh⟩ := hrel
      by_cases hlt : j < n
      · obtain ⟨⟨x0, y0, c0, c1, hx, hy⟩, -, -⟩ := HSh.out.cells hlt
        have hji := HJ.out
        have HX := hide (show x0 = f ((i + 1) * 2) ∧ y0 = f ((i + 1) * 2 + 1) from by
          subst hji
          constructor
          · rw [hx]; unfold dli; rw [if_neg (by omega), if_neg (by omega)]
          · rw [hy]; unfold dli; rw [if_neg (by omega), if_neg (by omega)])
        have hyn : y0 ≠ id := by
          rw [HX.out.2]
          intro e
          have := HU.out (i + 1) p (by omega) hp e HE.out
          omega
        have hj0 : (0 : Int) ≤ (j : Int) := by omega
        have hj1 : (j : Int) < (n : Int) := by omega
        have hi0 : (0 : Int) ≤ (i : Int) := by omega
        have hi1 : (i : Int) < (n : Int) := by omega
        have hdn := (Below.refl wo.heap.size wo).alloc (Nat.le_refl _) (.cells #[.int .i64 x0, .int .i64 y0] 40)
        have hcc : wo.cell? ⟨bi, 0, none⟩ = some (.int .i64 id) := by
          have hk := HSh.out.2.block bi hbi (by omega)
          unfold World.cell? at HC ⊢
          rw [show (⟨bi, 0, none⟩ : Addr).block = bi from rfl, hk]
          exact HC.out
        have hbo := Nat.lt_of_lt_of_le hbi HSh.out.2.size
        have HH := hide (has_id_in x0 y0 id bi false (wo.alloc (.cells #[.int .i64 x0, .int .i64 y0] 40)) ((hdn.cell (p := ⟨bi, 0, none⟩) hbo).trans hcc) (Nat.lt_of_lt_of_le hbo hdn.size) (by simp [hyn]))
        have hnb := Blk.fresh wo #[.int .i64 x0, .int .i64 y0] 2 (p2 (.int .i64 x0) (.int .i64 y0)) 40 rfl
        have HB := hide (show ∀ W, Below (wo.alloc (.cells #[.int .i64 x0, .int .i64 y0] 40)).heap.size (wo.alloc (.cells #[.int .i64 x0, .int .i64 y0] 40)) W → Blk W wo.heap.size 2 (p2 (.int .i64 x0) (.int .i64 y0)) 40 ∧ Sh w W b n c f p i from fun W h => ⟨hnb.down h, (HSh.out.down hdn).down h⟩)
        clear hx hy hyn hcc hdn hnb HSh hji
        go_wp2_with fail
        refine HH.out.mono ?_
        rintro e w2 ⟨rfl, hb2⟩
        obtain ⟨hB2, hS2⟩ := HB.out w2 hb2
        obtain ⟨z0, z1, -, -⟩ := hB2.pair
        obtain ⟨⟨_, _, k0, k1, -, -⟩, k2, k3⟩ := hS2.cells hin
        have HSt := hide (hS2.step hpi)
        clear hB2 hS2 HB HH hb2 c0 c1
        go_wp2
        exact ⟨⟨i + 1, j + 1, by omega, by have := HJ.out; omega, by omega, by go_num, by go_num, hide (by have := HJ.out; omega), by have e := HX.out; rw [e.1, e.2]; exact HSt⟩, by simp [intOf]; omega⟩
      · have hji := HJ.out
        obtain rfl : n = i + 1 := by omega
        obtain ⟨⟨_, _, k0, k1, -, -⟩, k2, k3⟩ := HSh.out.cells hin
        have hj : ¬ ((j : Int) < ((i + 1 : Nat) : Int)) := by omega
        have HF := hide (HSh.out.fin rfl (.int .i64 0) (.int .i64 0))
        have hCl := fun ty c' => run_clear_one wo ty b i c' (by rw [k0]; rfl) (by rw [k1]; rfl) k2 k3
        have hi0 : (0 : Int) ≤ (i : Int) := by omega
        clear HSh hji k0 k1 k2 k3
        go_wp2
        go_ret
        exact .inr ⟨p, hp, HE.out, rfl, HF.out.1, HF.out.2⟩
  · have HN := hide hno
    clear HI HV HU hno hne
    go_wp2
    go_ret
    exact .inl ⟨HN.out, rfl, hb⟩
end Go.Proofs.Ytcodllammndciaa

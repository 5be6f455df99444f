/-
  The program's inOrder, walked.
-/
import Derived.Test.YthilapalgakhhaaNetOrder
namespace Go.Proofs.Ythilapalgakhhaa
open Go.RowKit M
open Clk (upd upd_same upd_other)
open Go.ChangeMaps (setBlock heap_setBlock_same heap_setBlock_other)
namespace M
theorem set_blk {w : World} {r g n : Nat} {f : Nat → Value} {t : TypeId} {o' : Obj} (h : Blk w g n f t) (hne : g ≠ r) : Blk (setBlock w r o') g n f t := by
  unfold Blk at h ⊢
  rw [show (setBlock w r o').heap[g]? = w.heap[g]? by simp [setBlock, Ne.symm hne]]
  exact h
theorem set_map {w : World} {r b n : Nat} {K : Nat → Nat → Int} {V : Nat → Value} {o' : Obj} (h : MapB w b n K V) (hne : b ≠ r) : MapB (setBlock w r o') b n K V := by
  unfold MapB at h ⊢
  rw [show (setBlock w r o').heap[b]? = w.heap[b]? by simp [setBlock, Ne.symm hne]]
  exact h
theorem set_own {w : World} {r : Nat} {o o' : Obj} (hr : w.heap[r]? = some o) : (setBlock w r o').heap[r]? = some o' := by
  have : r < w.heap.size := by
    rcases Nat.lt_or_ge r w.heap.size with h' | h'
    · exact h'
    · rw [Array.getElem?_eq_none h'] at hr; cases hr
  simp [setBlock, this]
theorem set_below {w : World} {B r : Nat} {a : World} {o' : Obj} (h : Below B a w) (hr : B ≤ r) : Below B a (setBlock w r o') :=
  ⟨h.os, h.tape, h.output, by simpa [setBlock] using h.size, fun k hk => by
    rw [show (setBlock w r o').heap[k]? = w.heap[k]? by simp [setBlock, show r ≠ k by omega]]
    exact h.block k hk⟩
/-- What is known while the map is ranged over. -/
def InO (w wr : World) (b n : Nat) (K : Nat → Nat → Int) (V : Nat → Value) (seen : Array Nat) : Prop :=
  (∃ c0, n ≤ c0 ∧ wr.heap[w.heap.size + 1]? = some (.mapIter (some b) n seen c0)) ∧ MapB wr b n K V ∧ Blk wr w.heap.size (n * 8) (vv8 (met K seen)) 68 ∧ Below w.heap.size w wr
theorem Blk.row8 {w : World} {g m k : Nat} {f : Nat → Nat → Int} {t : TypeId} (h : Blk w g m (vv8 f) t) (hk : k * 8 + 8 ≤ m) :
    ((w.cell? ⟨g, k * 8, none⟩ = some (.int .i64 (f k 0)) ∧ w.cell? ⟨g, k * 8 + 1, none⟩ = some (.int .i64 (f k 1)) ∧ w.cell? ⟨g, k * 8 + 2, none⟩ = some (.int .i64 (f k 2)) ∧ w.cell? ⟨g, k * 8 + 3, none⟩ = some (.int .i64 (f k 3)) ∧ w.cell? ⟨g, k * 8 + 4, none⟩ = some (.int .i64 (f k 4)) ∧ w.cell? ⟨g, k * 8 + 5, none⟩ = some (.int .i64 (f k 5)) ∧ w.cell? ⟨g, k * 8 + 6, none⟩ = some (.int .i64 (f k 6)) ∧ w.cell? ⟨g, k * 8 + 7, none⟩ = some (.int .i64 (f k 7))) ∧
      w.frozen? ⟨g, k * 8, none⟩ = false ∧ w.frozen? ⟨g, k * 8 + 1, none⟩ = false ∧ w.frozen? ⟨g, k * 8 + 2, none⟩ = false ∧ w.frozen? ⟨g, k * 8 + 3, none⟩ = false ∧ w.frozen? ⟨g, k * 8 + 4, none⟩ = false ∧ w.frozen? ⟨g, k * 8 + 5, none⟩ = false ∧ w.frozen? ⟨g, k * 8 + 6, none⟩ = false ∧ w.frozen? ⟨g, k * 8 + 7, none⟩ = false) := by
  have q : ∀ j, j < 8 → w.cell? ⟨g, k * 8 + j, none⟩ = some (.int .i64 (f k j)) := fun j hj => by rw [← vv8_at f k j hj]; exact h.cell (by omega)
  exact ⟨⟨q 0 (by omega), q 1 (by omega), q 2 (by omega), q 3 (by omega), q 4 (by omega), q 5 (by omega), q 6 (by omega), q 7 (by omega)⟩, h.thaw _, h.thaw _, h.thaw _, h.thaw _, h.thaw _, h.thaw _, h.thaw _, h.thaw _⟩
def t8 (w : World) (g o : Nat) (x : Nat → Int) : World :=
  (((((((w.setCell ⟨g, o, none⟩ (.int .i64 (x 0))).setCell ⟨g, o + 1, none⟩ (.int .i64 (x 1))).setCell ⟨g, o + 2, none⟩ (.int .i64 (x 2))).setCell ⟨g, o + 3, none⟩ (.int .i64 (x 3))).setCell ⟨g, o + 4, none⟩ (.int .i64 (x 4))).setCell ⟨g, o + 5, none⟩ (.int .i64 (x 5))).setCell ⟨g, o + 6, none⟩ (.int .i64 (x 6))).setCell ⟨g, o + 7, none⟩ (.int .i64 (x 7))
theorem Blk.t8 {w : World} {g m k : Nat} {f : Nat → Nat → Int} {t : TypeId} (h : Blk w g m (vv8 f) t) (x : Nat → Int) : Blk (M.t8 w g (k * 8) x) g m (vv8 (upd f k x)) t := by
  rw [← vv8_upd]
  exact (((((((h.set _ _).set _ _).set _ _).set _ _).set _ _).set _ _).set _ _).set _ _
theorem below_t8 {B : Nat} {a w : World} (h : Below B a w) {g o : Nat} (hg : B ≤ g) (x : Nat → Int) : Below B a (t8 w g o x) :=
  (((((((h.setCell hg _).setCell hg _).setCell hg _).setCell hg _).setCell hg _).setCell hg _).setCell hg _).setCell hg _
theorem heap_t8 {w : World} {g o k : Nat} (x : Nat → Int) (h : k ≠ g) : (t8 w g o x).heap[k]? = w.heap[k]? := by
  unfold t8
  rw [Below.heap_setCell _ _ _ _ h, Below.heap_setCell _ _ _ _ h, Below.heap_setCell _ _ _ _ h, Below.heap_setCell _ _ _ _ h, Below.heap_setCell _ _ _ _ h, Below.heap_setCell _ _ _ _ h, Below.heap_setCell _ _ _ _ h, Below.heap_setCell _ _ _ _ h]
end M
set_option maxHeartbeats 1000000 in
theorem in_order (b n : Nat) (K : Nat → Nat → Int) (F : Nat → Nat → Int) (S : Nat → Int) (w : World) (hm : MapB w b n K (fun i => arrV (i : Int) (F i) (S i))) (hn : n ≤ 400) :
    Calls Try.prog 61 #[.map (some b)] w fun e w' => (e = .returned (.slice (some ⟨w.heap.size, 0, none⟩) n n) ∧ Blk w' w.heap.size (n * 8) (vv8 K) 68) ∧ Below w.heap.size w w' := by
  have hbl := hm.lt
  have hmk := make_marks n (by omega)
  have hb1 := (Below.refl w.heap.size w).alloc (Nat.le_refl _) (.cells (cf (n * 8) (vv8 fun _ _ => 0)) 68)
  have hm1 := hm.down hb1
  have hrg := run_range_map (P := Try.prog) (w.alloc (.cells (cf (n * 8) (vv8 fun _ _ => 0)) 68)) 78 68 94 b _ _ Try.underlying78 hm1
  rw [World.size_alloc] at hrg
  have H0 := hide (show InO w ((w.alloc (.cells (cf (n * 8) (vv8 fun _ _ => 0)) 68)).alloc (.mapIter (some b) n #[] n)) b n K (fun i => arrV (i : Int) (F i) (S i)) #[] by
    have hb2 := hb1.alloc hb1.size (.mapIter (some b) n #[] n)
    refine ⟨⟨n, Nat.le_refl _, ?_⟩, hm.down hb2, ?_, hb2⟩
    · have := heap_alloc_new (w.alloc (.cells (cf (n * 8) (vv8 fun _ _ => 0)) 68)) (.mapIter (some b) n #[] n)
      rw [World.size_alloc] at this; exact this
    · rw [met_zero]; exact (Blk.new w (n * 8) _ _).alloc _)
  clear hm1 hb1
  go_enter Try.func61, Try.ntmps61
  go_wp2_with (at_len; refine wpList_len_map rfl _ 78 rfl 94 Try.underlying78 b n K _ rfl hm ?_)
  go_wp2
  go_loopw [11] (fun _ wr => ∃ seen : Array Nat, Hid (InO w wr b n K (fun i => arrV (i : Int) (F i) (S i)) seen)) (fun _ wr => leftIn wr b (w.heap.size + 1))
  case atStart => exact ⟨#[], H0⟩
  case round =>
    obtain ⟨seen, HI⟩ := hrel
    obtain ⟨⟨c0, hc0, hit⟩, hmb, hbk, hbw⟩ := HI.out
    have hold : ∀ x ∈ (entL K (fun i => arrV (i : Int) (F i) (S i)) 0 n).toArray.toList, x.born < n := fun x hx => by
      obtain ⟨i, hi, rfl⟩ := entL_mem (by simpa using hx); exact hi
    rcases run_next_at (P := Try.prog) wr 0 (w.heap.size + 1) b n c0 seen _ n hit hmb hold hc0 with ⟨h0, hrun⟩ | ⟨e, he, w1, hal, hrun⟩
    · have hrun' : ∀ ty, (Instr.next (.pointer (some ⟨w.heap.size + 1, 0, none⟩)) false ty).run Try.prog wr = .ok (.tuple #[.bool false]) wr := fun _ => hrun
      have HB := hide (hbk.ext (f' := vv8 K) (fun j hj => by
        unfold vv8 met
        rw [if_pos (all_seen _ _ h0 ⟨mkV (K (j / 8)), arrV ((j / 8 : Nat) : Int) (F (j / 8)) (S (j / 8)), j / 8⟩ (show _ ∈ entL K (fun i => arrV (i : Int) (F i) (S i)) 0 n from entL_has (V := fun i => arrV (i : Int) (F i) (S i)) (show j / 8 < n by omega)))]))
      clear hrun hold hit hmb hbk HI H0 hrg
      go_wp2_with (at_next; refine wpList_next_by rfl _ rfl (w.heap.size + 1) rfl _ _ hrun' ?_)
      go_ret
      exact ⟨⟨rfl, HB.out⟩, hbw⟩
    · obtain ⟨hem, hes⟩ := mem_left he
      have hlen := left_shrinks _ seen e he
      obtain ⟨i, hi, rfl⟩ := entL_mem (show e ∈ entL K (fun i => arrV (i : Int) (F i) (S i)) 0 n from hem)
      have hh1 : w1.heap = wr.heap := by rcases hal with rfl | rfl <;> rfl
      have hb1 : Below w.heap.size w w1 := by
        rcases hal with rfl | rfl
        · exact hbw
        · exact hbw.drew
      have hit1 : w1.heap[w.heap.size + 1]? = some (.mapIter (some b) n seen c0) := by rw [hh1]; exact hit
      have hm1 : MapB w1 b n K (fun i => arrV (i : Int) (F i) (S i)) := by unfold MapB; rw [hh1]; exact hmb
      have hk1 : Blk w1 w.heap.size (n * 8) (vv8 (met K seen)) 68 := by unfold Blk; rw [hh1]; exact hbk
      have HL := hide (show leftIn wr b (w.heap.size + 1) = _ from left_is hmb hit)
      have hit2 := set_own (o' := .mapIter (some b) n (seen.push i) n) hit1
      have hm2 := set_map (r := w.heap.size + 1) (o' := .mapIter (some b) n (seen.push i) n) hm1 (by omega)
      have hk2 := set_blk (r := w.heap.size + 1) (o' := .mapIter (some b) n (seen.push i) n) hk1 (by omega)
      have hb2 := set_below (r := w.heap.size + 1) (o' := .mapIter (some b) n (seen.push i) n) hb1 (by omega)
      have hen := run_entry_at (P := Try.prog) _ (w.heap.size + 1) b n seen _ n (⟨mkV (K i), arrV (i : Int) (F i) (S i), i⟩ : MapEntry) hit2 hm2 hem (by rw [show (entL K (fun i => arrV (i : Int) (F i) (S i)) 0 n).toArray.toList = entL K (fun i => arrV (i : Int) (F i) (S i)) 0 n from rfl, entL_born]; exact List.nodup_range')
      have hrun' : ∀ ty, (Instr.next (.pointer (some ⟨w.heap.size + 1, 0, none⟩)) false ty).run Try.prog wr = .ok (.tuple #[.bool true, mkV (K i), arrV (i : Int) (F i) (S i)]) (setBlock w1 (w.heap.size + 1) (.mapIter (some b) n (seen.push i) n)) := fun _ => hrun
      generalize setBlock w1 (w.heap.size + 1) (.mapIter (some b) n (seen.push i) n) = W2 at *
      simp only at hen
      obtain ⟨⟨p0, p1, p2, p3, p4, p5, p6, p7⟩, f0, f1, f2, f3, f4, f5, f6, f7⟩ := hk2.row8 (k := i) (by omega)
      have hl2 := hk2.lt
      have hi0 : (0 : Int) ≤ (i : Int) := by omega
      have hi1 : (i : Int) < (n : Int) := by omega
      have HE := hide (show ∀ A C wz, wz = ((t8 W2 w.heap.size (i * 8) (K i)).alloc A).alloc C → InO w wz b n K (fun i => arrV (i : Int) (F i) (S i)) (seen.push i) ∧ leftIn wz b (w.heap.size + 1) < leftIn wr b (w.heap.size + 1) from fun A C wz hwz => by
        subst hwz
        refine (fun hR => ⟨hR, by
          obtain ⟨⟨c9, _, hit9⟩, hm9, _, _⟩ := hR
          rw [HL.out]
          exact Nat.lt_of_le_of_lt (Nat.le_of_eq (left_is hm9 hit9)) hlen⟩) (show InO w _ b n K (fun i => arrV (i : Int) (F i) (S i)) (seen.push i) from ?_)
        have hbT := below_t8 hb2 (Nat.le_refl _) (K i) (o := i * 8)
        have hkT := hk2.t8 (k := i) (K i)
        have hmT : MapB (t8 W2 w.heap.size (i * 8) (K i)) b n K (fun i => arrV (i : Int) (F i) (S i)) := by unfold MapB; rw [heap_t8 _ (by omega)]; exact hm2
        have hiT : (t8 W2 w.heap.size (i * 8) (K i)).heap[w.heap.size + 1]? = some (.mapIter (some b) n (seen.push i) n) := by rw [heap_t8 _ (by omega)]; exact hit2
        have hlT : w.heap.size + 1 < (t8 W2 w.heap.size (i * 8) (K i)).heap.size := by
          rcases Nat.lt_or_ge (w.heap.size + 1) (t8 W2 w.heap.size (i * 8) (K i)).heap.size with h' | h'
          · exact h'
          · rw [Array.getElem?_eq_none h'] at hiT; cases hiT
        have hbA := ((Below.refl (t8 W2 w.heap.size (i * 8) (K i)).heap.size (t8 W2 w.heap.size (i * 8) (K i))).alloc (Nat.le_refl _) A).alloc (by simp) C
        refine ⟨⟨n, Nat.le_refl _, ?_⟩, hmT.down hbA, ?_, hbT.trans (hbA.mono hbT.size)⟩
        · rw [hbA.block _ hlT]; exact hiT
        · rw [← met_push]; exact hkT.down hbA)
      clear hrun hold hit hmb hbk HI H0 hrg he hem hes hlen hh1 hb1 hit1 hm1 hk1 hal hbw
      go_wp2_with (at_next; refine wpList_next_by rfl _ rfl (w.heap.size + 1) rfl _ _ hrun' ?_)
      exact ⟨⟨seen.push i, hide (HE.out _ _ _ rfl).1⟩, (HE.out _ _ _ rfl).2⟩
end Go.Proofs.Ythilapalgakhhaa

/-
  The program's vectors, arrays of six numbers: made of a list, joined, held against each other, told as a list.
-/
import Derived.Test.YtlbcmlleoncddaaMem
import Derived.Lib.QuietBelow
import Derived.BigQuiet
namespace Go.Proofs.Ytlbcmlleoncddaa
open Go.RowKit M
open Clk (upd upd_same upd_other)
open Go.Sort (grow)
namespace M
/-- The first n numbers of f, then zeros. -/
def pad (n : Nat) (f : Nat → Int) : Nat → Int := fun j => if j < n then f j else 0
theorem splice_pad (n : Nat) (f : Nat → Int) (hn : n ≤ 6) : (splice [(.int .i64 0 : Value), .int .i64 0, .int .i64 0, .int .i64 0, .int .i64 0, .int .i64 0] 0 ((List.range n).map (iv f))).toArray = cf 6 (iv (pad n f)) := by
  apply Array.ext_getElem?
  intro j
  simp only [List.getElem?_toArray, splice, List.take_zero, List.nil_append, Nat.zero_add, List.length_map, List.length_range]
  by_cases hj : j < 6
  · rw [cf_get _ hj]
    by_cases hjn : j < n
    · rw [List.getElem?_append_left (by simpa using hjn)]; simp [hjn, iv, pad]
    · rw [List.getElem?_append_right (by simpa using hjn), List.length_map, List.length_range, List.getElem?_drop, show n + (j - n) = j by omega]
      unfold iv pad; rw [if_neg hjn]
      match j, hj with
      | 0, _ | 1, _ | 2, _ | 3, _ | 4, _ | 5, _ => rfl
  · rw [Array.getElem?_eq_none (by rw [cf_size]; omega), List.getElem?_eq_none (by simp; omega)]
end M

set_option maxHeartbeats 1000000 in
theorem vector_of (v : Value) (n : Nat) (f : Nat → Int) (w : World) (hv : IntsOf w v n f) (hn : n ≤ 6) :
    Calls Try.prog 53 #[v] w fun e w' => e = .returned (vecV (pad n f)) ∧ Below w.heap.size w w' := by
  obtain ⟨a, cap, rfl, hr⟩ := hv
  have HR := hide hr
  have HS := hide (splice_pad n f hn)
  have hcs : (((List.range n).map (iv f)).length) = n := by simp
  clear hr
  go_enter Try.func53, Try.ntmps53
  go_wp2_with (refine wpList_copy_splice rfl _ _ 29 29 rfl 3 Try.underlying29 (by kernel_rfl) _ _ _ _ _ _ rfl rfl (w.heap.size + 1) 0 [.int .i64 0, .int .i64 0, .int .i64 0, .int .i64 0, .int .i64 0, .int .i64 0] 72 ?c1 ((List.range n).map (iv f)) ?c2 ?c3 ?c4 ?c5 (w.heap.size + 1) (w.alloc (.cells (cf 6 (iv fun _ => 0)) 72)) ?c6 ?c7 ?_)
  case c1 =>
    have := heap_alloc_new (w.alloc (.cells (cf 6 (iv fun _ => 0)) 72)) (.cells (cf 6 (iv fun _ => 0)) 72)
    rw [World.size_alloc] at this; exact this
  case c2 => rw [hcs]; exact (Nat.min_eq_left hn).symm
  case c3 =>
    intro h
    obtain ⟨b, off, rfl, hlt, hrow⟩ := HR.out (by omega)
    refine ⟨_, rfl, fun j u hj => ?_⟩
    have hjn : j < n := by have := (List.getElem?_eq_some_iff.1 hj).1; simpa using this
    rw [List.getElem?_range hjn] at hj
    simp only [Option.some.injEq] at hj
    subst hj
    rw [Addr.add_lit]
    have hb := (((Below.refl w.heap.size w).alloc (Nat.le_refl _) (.cells (cf 6 (iv fun _ => 0)) 72)).alloc (by simp) (.cells (cf 6 (iv fun _ => 0)) 72))
    exact (hb.cell (p := ⟨b, off + j, none⟩) hlt).trans (hrow j hjn)
  case c4 => rw [hcs]; simpa using hn
  case c5 => intro u hu; obtain ⟨j, _, rfl⟩ := List.mem_map.1 hu; rfl
  case c6 => exact (Below.refl _ _).alloc (by simp) _
  case c7 => exact Nat.le_refl _
  intro w1 HG hb1
  have hg := HG.out
  rw [HS.out] at hg
  obtain ⟨c0, c1, c2, c3, c4, c5⟩ := Blk.six (v := pad n f) hg
  have hz : Blk w1 w.heap.size 6 (iv fun _ => 0) 72 := (Blk.new w 6 _ _).below hb1 (by simp)
  obtain ⟨r0, r1, r2, r3, r4, r5⟩ := hz.six
  have f0 := hz.thaw 0
  have f1 := hz.thaw 1
  have f2 := hz.thaw 2
  have f3 := hz.thaw 3
  have f4 := hz.thaw 4
  have f5 := hz.thaw 5
  have hbw : Below w.heap.size w w1 := ((Below.refl w.heap.size w).alloc (Nat.le_refl _) _).trans (hb1.mono (by omega))
  clear HG hg hz HS HR
  go_wp2
  exact bodyPost_ret (v := vecV (pad n f)) (by simp [results, Try.results53, go_sem, r0, r1, r2, r3, r4, r5]) rfl ⟨rfl, (((((hbw.setCell (Nat.le_refl _) _).setCell (Nat.le_refl _) _).setCell (Nat.le_refl _) _).setCell (Nat.le_refl _) _).setCell (Nat.le_refl _) _).setCell (Nat.le_refl _) _⟩

namespace M
def mx (a b : Int) : Int := if b > a then b else a
theorem mx_eq (a b : Int) : mx a b = max a b := by unfold mx; omega
def mxf (v u : Nat → Int) : Nat → Int := fun q => max (v q) (u q)
def jn (v u : Nat → Int) (k : Nat) : Nat → Int := fun q => if q < k then mx (v q) (u q) else v q
theorem jn_zero (v u : Nat → Int) : jn v u 0 = v := by funext q; simp [jn]
theorem jn_at (v u : Nat → Int) (k : Nat) : jn v u k k = v k := by simp [jn]
theorem jn_succ (v u : Nat → Int) (k : Nat) : upd (jn v u k) k (mx (v k) (u k)) = jn v u (k + 1) := by
  funext q; unfold upd jn
  by_cases h : q = k
  · subst h; simp
  · rw [if_neg h]
    by_cases h2 : q < k
    · rw [if_pos h2, if_pos (by omega)]
    · rw [if_neg h2, if_neg (by omega)]
end M
theorem idx6 (u : Nat → Int) (k : Nat) (hk : k < 6) (w : World) : (Instr.index 72 (vecV u) (.int .i64 (k : Int))).run Try.prog w = .ok (.int .i64 (u k)) w := by
  have hu : Try.prog.underlying 72 = some (.array 6 3) := Try.underlying72
  have hs : Try.prog.cellsOf 3 = 1 := by kernel_rfl
  match k, hk with
  | 0, _ | 1, _ | 2, _ | 3, _ | 4, _ | 5, _ => simp [Instr.index, run_underlying hu, asIntOf, part, go_sem]
set_option maxHeartbeats 1000000 in
theorem join_vec0 (v u : Nat → Int) (w : World) :
    Calls Try.prog 55 #[vecV v, vecV u] w fun e w' => e = .returned (vecV (jn v u 6)) ∧ Below w.heap.size w w' := by
  have hidx := idx6 u
  go_enter Try.func55, Try.ntmps55
  go_wp2
  go_loopw [8] (fun i wr => ∃ k : Nat, k ≤ 6 ∧ i = .int .i64 k ∧ Hid (Blk wr w.heap.size 6 (iv (jn v u k)) 72) ∧ Hid (Blk wr (w.heap.size + 1 + 1) 6 (iv fun _ => 0) 72) ∧ Below w.heap.size w wr) (fun i _ => 6 - (intOf i).toNat)
  case atStart =>
    refine ⟨0, Nat.zero_le _, rfl, hide ?_, hide ?_, ?_⟩
    · rw [jn_zero]; exact ((Blk.fresh w _ 6 (iv v) _ (cf6 v)).alloc _).alloc _
    · have := Blk.new ((w.alloc (.cells (cf 6 (iv v)) 72)).alloc (.cells (cf 6 (iv u)) 72)) 6 (iv fun _ => 0) 72
      rw [World.size_alloc, World.size_alloc] at this; exact this
    · exact (((Below.refl _ _).alloc (Nat.le_refl _) _).alloc (by simp) _).alloc (by simp; omega) _
  case round =>
    obtain ⟨k, hk, rfl, HA, HZ, hbw⟩ := hrel
    have hne : w.heap.size + 1 + 1 ≠ w.heap.size := by omega
    by_cases hlt : k < 6
    · have hix := hidx k hlt
      have hc := HA.out.cell_ints hlt
      have hf := HA.out.thaw k
      rw [jn_at] at hc
      have HA2 := hide (HA.out.set_int k (mx (v k) (u k)))
      have HZ2 := hide (HZ.out.set_other hne k (.int .i64 (mx (v k) (u k))))
      have hbw2 := hbw.setCell (p := ⟨w.heap.size, k, none⟩) (Nat.le_refl _) (.int .i64 (mx (v k) (u k)))
      rw [jn_succ] at HA2
      clear HA HZ hidx
      go_wp2
      exact ⟨⟨k + 1, by omega, by go_num, HA2, HZ2, hbw2⟩, by simp [intOf]; omega⟩
    · obtain rfl : k = 6 := by omega
      obtain ⟨c0, c1, c2, c3, c4, c5⟩ := HA.out.six
      obtain ⟨r0, r1, r2, r3, r4, r5⟩ := HZ.out.six
      have f0 := HZ.out.thaw 0
      have f1 := HZ.out.thaw 1
      have f2 := HZ.out.thaw 2
      have f3 := HZ.out.thaw 3
      have f4 := HZ.out.thaw 4
      have f5 := HZ.out.thaw 5
      clear HA HZ hidx
      go_wp2
      exact bodyPost_ret (v := vecV (jn v u 6)) (by simp [results, Try.results55, go_sem, r0, r1, r2, r3, r4, r5]) rfl ⟨rfl, (((((hbw.setCell (by simp; omega) _).setCell (by simp; omega) _).setCell (by simp; omega) _).setCell (by simp; omega) _).setCell (by simp; omega) _).setCell (by simp; omega) _⟩
theorem join_vec (v u : Nat → Int) (w : World) :
    Calls Try.prog 55 #[vecV v, vecV u] w fun e w' => e = .returned (vecV (mxf v u)) ∧ Below w.heap.size w w' := by
  have hv : vecV (mxf v u) = vecV (jn v u 6) := by simp [vecV, jn, mx_eq, mxf]
  rw [hv]; exact join_vec0 v u w
end Go.Proofs.Ytlbcmlleoncddaa

/-
  The program's iterator over the tasks in order: its contract.
-/
import Derived.Test.YtkfnfgencaplfaaPlanR
import Derived.Test.YtkfnfgencaplfaaRangeO
import Derived.Shelf.Abstract
import Derived.Shelf.RegionOpen
import Derived.WalkKit
import Derived.OwnWalkIn
import Derived.TacticsInMore
import Derived.LoopNIn
import Derived.LoopIn
namespace Go.Proofs.Ytkfnfgencaplfaa
open Go.RowKit M
open Clk (upd upd_same upd_other)
namespace M
theorem allN_congr {t : Tk} {e e' : Nat → Bool} : ∀ n, (∀ j, j < n → e (t.fn j).toNat = e' (t.fn j).toNat) → allN t e n = allN t e' n
  | 0, _ => rfl
  | n + 1, h => by simp only [allN, allN_congr n fun j hj => h j (by omega), h n (by omega)]
theorem nx_congr {ts : Nat → Tk} {d e d' e' : Nat → Bool} : ∀ m, (∀ x, x < m → d x = d' x ∧ ∀ j, j < (ts x).nn → e ((ts x).fn j).toNat = e' ((ts x).fn j).toNat) → nx ts d e m = nx ts d' e' m
  | 0, _ => rfl
  | m + 1, h => by
    have h1 := h m (by omega)
    have h2 : rdy ts d e m = rdy ts d' e' m := by unfold rdy; rw [h1.1, allN_congr _ h1.2]
    have h3 := nx_congr m fun x hx => h x (by omega)
    cases h4 : nx ts d' e' m with
    | some y => simp only [nx, h3, h4]
    | none => simp only [nx, h3, h4, h2]
/-- What the iterator's row says: as which one each task came, 3001 where it hasn't. -/
def Ov (k : Nat) (l : List Nat) (f : Nat → Int) : Prop := ∀ x, x < k → (mem l x = true → 0 ≤ f x ∧ f x < (l.length : Int)) ∧ (mem l x = false → f x = 3001)
theorem Ov.nx {k : Nat} {ts : Nat → Tk} {l : List Nat} {f : Nat → Int} (h : Ov k l f) (hB : Bnd k ts) (hl : l.length ≤ 30) : M.nx ts (bgn f) (overBy f (l.length : Int)) k = M.nx ts (mem l) (mem l) k := by
  have key : ∀ x, x < k → bgn f x = mem l x ∧ overBy f (l.length : Int) x = mem l x := fun x hx => by
    unfold bgn overBy
    cases hm : mem l x with
    | true => have := (h x hx).1 hm; exact ⟨by rw [decide_eq_true_eq]; omega, by rw [decide_eq_true_eq]; omega⟩
    | false => have := (h x hx).2 hm; exact ⟨by rw [decide_eq_false_iff_not]; omega, by rw [decide_eq_false_iff_not]; omega⟩
  refine nx_congr k fun x hx => ⟨(key x hx).1, fun j hj => ?_⟩
  obtain ⟨z, _, hz, he⟩ := hB.need hx hj
  rw [he]; exact (key z hz).2
theorem Ov.snoc {k : Nat} {l : List Nat} {f : Nat → Int} {x : Nat} (h : Ov k l f) (hx : mem l x = false) : Ov k (l ++ [x]) (upd f x (l.length : Int)) := by
  intro y hy
  rw [mem_snoc]
  by_cases he : y = x
  · subst he
    rw [upd_same]
    simp only [hx, decide_true, Bool.or_true, List.length_append, List.length_singleton]
    exact ⟨fun _ => by omega, fun hh => by cases hh⟩
  · rw [upd_other _ _ _ _ he]
    simp only [he, decide_false, Bool.or_false, List.length_append, List.length_singleton]
    have := h y hy
    exact ⟨fun hm => by have := this.1 hm; omega, this.2⟩
theorem Ov.start (k : Nat) : Ov k [] (fun _ => 3001) := fun x _ => ⟨fun h => by simp [mem] at h, fun _ => rfl⟩
theorem Kept.of_below {A B : World} (hb : Below A.heap.size A B) {S : Nat → Prop} : Kept S A B := ⟨hb.os, hb.tape, hb.output, hb.size, fun k hk _ => hb.block k hk⟩
theorem Kept.of_set {A : World} {g : Nat} (o : Nat) (v : Value) {S : Nat → Prop} (hg : S g) : Kept S A (A.setCell ⟨g, o, none⟩ v) :=
  ⟨rfl, rfl, rfl, by rw [World.size_setCell]; exact Nat.le_refl _, fun k _ hk => Go.heap_setCell_other _ _ _ _ (fun e => hk (by rw [show k = g from e]; exact hg))⟩
end M
set_option maxRecDepth 20000 in
set_option maxHeartbeats 2000000 in
theorem order_seq (k : Nat) (ts : Nat → Tk) (bl : Nat) (v : Value) (w0 : World) (hB : Bnd k ts) (hv : TasksOf w0 v k ts) :
    SeqOf Try.prog 82 #[.pointer (some ⟨bl, 0, none⟩)] (fun x => .int .i64 (x : Int)) (ord ts k k) w0 bl v := by
  intro l J W hW hbox hJ h0 hY
  have hbl := World.block_lt_of_cell? _ _ hbox
  obtain ⟨a, cap, rfl⟩ := hv.form
  have HV := hide hv
  have HB := hide hB
  have HJ := hide hJ
  have H0 := hide h0
  have HY := hide hY
  have hk := hB.1
  have c0 := hbox
  have hbA := (Below.refl W.heap.size W).alloc (Nat.le_refl _) (.cells #[.int .i64 3001] 3)
  have c1 := (hbA.cell (p := ⟨bl, 0, none⟩) hbl).trans c0
  have n1 : (W.alloc (.cells #[.int .i64 3001] 3)).cell? ⟨W.heap.size, 0, none⟩ = some (.int .i64 3001) := (Blk.fresh W _ 1 (fun _ => .int .i64 3001) 3 rfl).cell (show 0 < 1 by omega)
  clear hv hB hJ h0 hY
  refine callsIn_of_wp Try.func82 rfl trivial ?_ rfl
  simp only [Try.ntmps82, List.size_toArray, List.length_cons, List.length_nil, Nat.reduceAdd, Nat.reduceSub, Array.replicate_succ, Array.replicate_zero, List.push_toArray, List.append_toArray, List.nil_append, List.cons_append]
  gi_wp2_with (refine ⟨trivial, ?_⟩; gi_at_call 67; refine (callsIn_wide.2 (repeat_is W.heap.size k _ n1 hk)).mono ?_; rintro e w1 ⟨⟨rfl, hf1⟩, hb1⟩)
  rw [World.size_alloc] at hf1
  have hbW1 := hbA.trans (hb1.mono hbA.size)
  have H1 := hide (show ∃ f, Blk w1 (W.heap.size + 1) k (iv f) 3 ∧ Ov k [] f ∧ J (W.heap.size + 1) [] w1 ∧ Below w0.heap.size w0 w1 ∧ w1.cell? ⟨bl, 0, none⟩ = some (.slice a k cap) ∧ W.heap.size + 1 < w1.heap.size from
    ⟨fun _ => 3001, hf1.ext fun i hi => by unfold fil iv; rw [if_pos hi], Ov.start k, H0.out _ _ (by omega) hbW1, hW.trans (hbW1.mono hW.size), (hbW1.cell (p := ⟨bl, 0, none⟩) hbl).trans hbox, hf1.lt⟩)
  have hW0 := hW.size
  clear hf1 hb1 n1 c0 c1 hbA H0
  gi_loopw [4] (fun c wr => ∃ (i : Nat), c = .int .i64 (i : Int) ∧ Run ts k i ∧ Hid (∃ f, Blk wr (W.heap.size + 1) k (iv f) 3 ∧ Ov k (ord ts k i) f ∧ J (W.heap.size + 1) (ord ts k i) wr ∧ Below w0.heap.size w0 wr ∧ wr.cell? ⟨bl, 0, none⟩ = some (.slice a k cap) ∧ W.heap.size + 1 < wr.heap.size)) (fun c _ => k + 1 - (intOf c).toNat)
  case atStart => exact ⟨0, rfl, rfl, H1⟩
  case round =>
    rename World => wo
    obtain ⟨i, rfl, hrun, HI⟩ := hrel
    obtain ⟨f, hblk, hov, hj, hbw, c0, hlt⟩ := HI.out
    have hik := hrun.le
    have hlen : (ord ts k i).length = i := hrun
    have hnx := hov.nx HB.out (by omega)
    rw [hlen] at hnx
    have hLR := least_ready _ _ k ts f (i : Int) wo (HV.out.below hbw) (hblk.ints (cap := k)) HB.out
    rw [hnx] at hLR
    cases hr : nx ts (mem (ord ts k i)) (mem (ord ts k i)) k with
    | none =>
      rw [hr] at hLR
      simp only [nxV] at hLR
      have HLR := hide hLR
      clear hLR
      have HE := hide (end_of_none hrun hr)
      have HJ1 := hide hj
      clear HI hblk hov hj hnx hr
      gi_wp2_with (refine ⟨trivial, ?_⟩; gi_at_call 68; refine (callsIn_wide.2 HLR.out).mono ?_; rintro e w2 ⟨rfl, hb2⟩)
      refine ⟨fun _ h => (by cases h), ?_⟩
      gi_wp2
      refine bodyPost_ret (results_none rfl _ _ _) rfl ?_
      exact ⟨⟨_, rfl⟩, W.heap.size + 1, by rw [HE.out]; exact HJ.out _ _ _ _ HJ1.out (Kept.of_below hb2)⟩
    | some x =>
      rw [hr] at hLR
      simp only [nxV] at hLR
      have HLR := hide hLR
      clear hLR
      obtain ⟨hrun2, hord⟩ := hrun.next hr
      have hxk := (nx_some hr).1
      have hxm : mem (ord ts k i) x = false := by
        have := (nx_some hr).2
        unfold rdy at this
        simp only [Bool.and_eq_true, Bool.not_eq_true'] at this
        exact this.1
      have HOV := hide hov
      have HBK := hide hblk
      have HJ1 := hide hj
      have HPX := hide (show ord ts k i ++ [x] <+: ord ts k k by rw [← hord]; exact ord_pre ts k k hrun2.le)
      have HORD := hide hord
      clear HI hblk hov hj hnx hr hord
      gi_wp2_with (refine ⟨trivial, ?_⟩; gi_at_call 68; refine (callsIn_wide.2 HLR.out).mono ?_; clear HLR; rintro e w2 ⟨rfl, hb2⟩)
      have hs2 := hb2.size
      obtain ⟨fn, tmps, assign, body, hy, hR⟩ := HY.out (W.heap.size + 1) (ord ts k i) x w2 (HJ.out _ _ _ _ HJ1.out (Kept.of_below hb2)) (by omega) (by omega) HPX.out
      rw [hy]
      gi_wp2
      refine hR.mono ?_
      rintro e w3 ⟨rfl, hj3, hkp, hkb, hb3⟩
      have hblk3 : Blk w3 (W.heap.size + 1) k (iv f) 3 := by
        have := HBK.out.down hb2
        unfold Blk at this ⊢
        rw [hkp]; exact this
      have hl3 := hblk3.lt
      have c3 : w3.cell? ⟨bl, 0, none⟩ = some (.slice a k cap) := (World.cell?_of_block (a := ⟨bl, 0, none⟩) hkb).trans ((hb2.cell (p := ⟨bl, 0, none⟩) (World.block_lt_of_cell? _ _ c0)).trans c0)
      have d0 := hblk3.cell_ints hxk
      have t0 := hblk3.thaw x
      have hx0 : (0 : Int) ≤ (x : Int) := by omega
      have hx1 : (x : Int) < (k : Int) := by omega
      have HF := hide (show ∃ f, Blk (w3.setCell ⟨W.heap.size + 1, x, none⟩ (.int .i64 (i : Int))) (W.heap.size + 1) k (iv f) 3 ∧ Ov k (ord ts k (i + 1)) f ∧ J (W.heap.size + 1) (ord ts k (i + 1)) (w3.setCell ⟨W.heap.size + 1, x, none⟩ (.int .i64 (i : Int))) ∧ Below w0.heap.size w0 (w3.setCell ⟨W.heap.size + 1, x, none⟩ (.int .i64 (i : Int))) ∧ (w3.setCell ⟨W.heap.size + 1, x, none⟩ (.int .i64 (i : Int))).cell? ⟨bl, 0, none⟩ = some (.slice a k cap) ∧ W.heap.size + 1 < (w3.setCell ⟨W.heap.size + 1, x, none⟩ (.int .i64 (i : Int))).heap.size from by
        refine ⟨upd f x (i : Int), hblk3.set_int x (i : Int), ?_, ?_, ?_, (World.cell?_of_block (a := ⟨bl, 0, none⟩) (Go.heap_setCell_other _ _ _ _ (show bl ≠ W.heap.size + 1 by omega))).trans c3, by rw [World.size_setCell]; exact hl3⟩
        · rw [HORD.out]
          have := HOV.out.snoc hxm
          rw [hlen] at this; exact this
        · rw [HORD.out]; exact HJ.out _ _ _ _ hj3 (Kept.of_set _ _ rfl)
        · exact ((hbw.trans (hb2.mono hbw.size)).trans hb3).setCell (by simp; omega) _)
      have hik2 := hrun2.le
      clear hy hR HBK HOV HJ1 HPX hj3 hkp hblk3 hb3 hkb c3
      gi_wp2
      exact ⟨⟨i + 1, by go_num, hrun2, HF⟩, by simp [intOf]; omega⟩
end Go.Proofs.Ytkfnfgencaplfaa

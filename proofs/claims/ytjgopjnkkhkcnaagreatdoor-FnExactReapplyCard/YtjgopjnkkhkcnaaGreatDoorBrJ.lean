/-
  slices.Sort and slices.Compact at texts of the call's own: the same block, what it holds sorted, freed of what is told twice.
-/
import Derived.Test.YtjgopjnkkhkcnaaGreatDoorBrN
import Derived.Test.YtjgopjnkkhkcnaaGreatDoorTxA
import Derived.Test.YtjgopjnkkhkcnaaGreatDoorShelf
import Derived.Sort.OwnSorted
namespace Go.Proofs.YtjgopjnkkhkcnaaGreatDoor
open Go.RowKit M
open Go.Sort (grow)
open Go Go.Sort Go.Proofs
namespace M
theorem enc_to (zs : List Bs) : zs.map encStr = sv (zs.map toB) := by
  simp [sv, toB, List.map_map, Function.comp_def]
theorem enc_un (l : Txs) : (l.map unB).map encStr = sv l := by
  rw [enc_to, List.map_map]
  congr 1
  conv => rhs; rw [← List.map_id l]
  exact List.map_congr_left fun x _ => toB_un x
def srtT (l : Txs) : Txs := (srt l).map toB
theorem srtT_len (l : Txs) : (srtT l).length = l.length := by unfold srtT; rw [List.length_map, srt_len]
theorem srtT_un (l : Txs) : (srtT l).map unB = srt l := by
  unfold srtT
  rw [List.map_map]
  conv => rhs; rw [← List.map_id (srt l)]
  exact List.map_congr_left fun x _ => unB_to x
theorem cpt_len (zs : List Bs) : (Lib.compact zs).length ≤ zs.length := by
  unfold Lib.compact Lib.compactUpTo
  rw [List.length_map]
  exact Nat.le_trans (List.length_filter_le _ _) (by simp)
theorem fnl_len (l : Txs) : (fnl l).length ≤ l.length := by
  unfold fnl
  rw [List.length_map]
  exact Nat.le_trans (cpt_len _) (by rw [srt_len]; exact Nat.le_refl _)
theorem fnl_nil : fnl [] = [] := List.eq_nil_of_length_eq_zero (Nat.le_zero.1 (fnl_len []))
end M
theorem ins_nil (w : World) :
    Calls Tryz.prog 234 #[.slice none 0 0, .int .i64 0, .int .i64 0] w fun e w' => e = .returned (.tuple #[]) ∧ w' = w := by
  go_enter Tryz.func234, Tryz.ntmps234
  go_wp2
  go_loop [6] (fun y => y = .int .i64 1) (fun _ => 0)
  case atStart => rfl
  case round =>
    obtain rfl := hrel
    go_wp2
    first | go_end0 | (simp only [Exit.inBlock, Exit.then]; refine bodyPost_ret (results_none rfl _ _ _) rfl ?_) | refine bodyPost_ret (results_none rfl _ _ _) rfl ?_
    exact ⟨rfl, rfl⟩
theorem pdq_nil (w : World) (k : Int) :
    Calls Tryz.prog 192 #[.slice none 0 0, .int .i64 0, .int .i64 0, .int .i64 k] w fun e w' => e = .returned (.tuple #[]) ∧ w' = w := by
  go_enter Tryz.func192, Tryz.ntmps192
  go_wp2
  go_loop [1, 2] (fun x y => x = .int .i64 0 ∧ y = .int .i64 0) (fun _ _ => 0)
  case atStart => exact ⟨rfl, rfl⟩
  case round =>
    obtain ⟨rfl, rfl⟩ := hrel
    go_wp2_with fail
    refine (ins_nil w).mono ?_
    rintro e w' ⟨rfl, rfl⟩
    go_wp2
    first | go_end0 | (simp only [Exit.inBlock, Exit.then]; refine bodyPost_ret (results_none rfl _ _ _) rfl ?_) | refine bodyPost_ret (results_none rfl _ _ _) rfl ?_
    exact ⟨rfl, rfl⟩
theorem bits_nil (w : World) :
    Calls Tryz.prog 193 #[.int .u64 0] w fun e w' => (∃ k : Int, e = .returned (.int .i64 k)) ∧ w' = w := by
  go_enter Tryz.func193, Tryz.ntmps193
  go_wp2
  go_ret
  exact ⟨⟨_, rfl⟩, rfl⟩
theorem sort_nil (w : World) :
    Calls Tryz.prog 132 #[.slice none 0 0] w fun e w' => e = .returned (.tuple #[]) ∧ w.grownBy w' none := by
  go_enter Tryz.func132, Tryz.ntmps132
  go_wp2_with fail
  refine (bits_nil _).mono ?_
  rintro e w1 ⟨⟨kb, rfl⟩, hw1⟩
  have hw2 := hw1.symm
  subst hw2
  clear hw1
  go_wp2_with (go_at_call 192; refine (pdq_nil _ _).mono ?_; rintro e w' ⟨rfl, rfl⟩) 
  first | go_end0 | (simp only [Exit.inBlock, Exit.then]; refine bodyPost_ret (results_none rfl _ _ _) rfl ?_) | refine bodyPost_ret (results_none rfl _ _ _) rfl ?_
  exact ⟨rfl, gbT_refl _ _⟩
theorem sort_txs (B : Nat) (v : Value) (l : Txs) (w : World) (h : OwnT w B v l) (hn : l.length ≤ 1048576) :
    Calls Tryz.prog 132 #[v] w fun e w' => e = .returned (.tuple #[]) ∧ OwnT w' B v (srtT l) ∧ w.grownBy w' v.ownBlock := by
  rcases h.2 with ⟨rfl, h0⟩ | ⟨g, cap, cur, rfl, hB, hb, h1, h2, h3, h4⟩
  · have h0' := List.eq_nil_of_length_eq_zero h0
    subst h0'
    refine (sort_nil w).mono ?_
    rintro e w' ⟨rfl, hg⟩
    have hs0 : srtT [] = [] := List.eq_nil_of_length_eq_zero (srtT_len [])
    rw [hs0]
    exact ⟨rfl, OwnT.nil _ _, hg⟩
  · have hcur : cur.toList.take (l.map unB).length = (l.map unB).map encStr := by
      rw [enc_un, List.length_map]; simpa using h4
    have hg : g < w.heap.size := (Array.getElem?_eq_some_iff.1 hb).1
    have hc := Tryz.slices_Sort_string g 0 cap (l.map unB) w (holds_of_block hb hcur) hg (by rw [List.length_map]; omega)
    rw [List.length_map] at hc
    refine hc.mono ?_
    rintro e w' ⟨rfl, n, os, rfl⟩
    refine ⟨rfl, ?_, grownBy_sorted _⟩
    have hl : (srt l).length = (l.map unB).length := by rw [srt_len, List.length_map]
    have := ownsRow_sorted (n := n) (os := os) hl hB hb (by rw [List.length_map]; exact h1) h2 h3
    rw [List.length_map, enc_to] at this
    unfold OwnT
    rw [srtT_len]
    exact this
theorem compact_txs (B : Nat) (v : Value) (l : Txs) (w : World) (h : OwnT w B v (srtT l)) (hn : l.length ≤ 1048576) :
    Calls Tryz.prog 133 #[v] w fun e w' => ∃ a n c, e = .returned (.slice a n c) ∧ OwnT w' B (.slice a n c) (fnl l) ∧ w.grownBy w' v.ownBlock := by
  have hk := h
  unfold OwnT at hk
  rw [srtT_len] at hk
  rcases hk.2 with ⟨rfl, h0⟩ | ⟨g, cap, cur, rfl, hB, hb, h1, h2, h3, h4⟩
  · have h0' := List.eq_nil_of_length_eq_zero h0
    subst h0'
    refine (Tryz.slices_Compact_string_empty none 0 w).mono ?_
    rintro e w' ⟨rfl, rfl⟩
    exact ⟨_, _, _, rfl, by rw [fnl_nil]; exact OwnT.nil _ _, gbT_refl _ _⟩
  · have hcur : cur.toList.take (srt l).length = (srt l).map encStr := by
      rw [enc_to, srt_len]; simpa [srtT] using h4
    have hg : g < w.heap.size := (Array.getElem?_eq_some_iff.1 hb).1
    have hc := Tryz.slices_Compact_string g 0 cap (srt l) w (holds_of_block hb hcur) (by rw [srt_len]; omega) (by rw [srt_len]; exact h1)
    rw [srt_len] at hc
    refine hc.mono ?_
    rintro e w' ⟨rfl, q, rfl⟩
    have hcl : (Lib.compact (srt l)).length ≤ l.length := by have := cpt_len (srt l); rw [srt_len] at this; exact this
    obtain ⟨zs, hzs⟩ : ∃ zs, Lib.compact (srt l) ++ List.replicate (l.length - (Lib.compact (srt l)).length) ([] : List UInt8) = zs := ⟨_, rfl⟩
    have hzl : zs.length = l.length := by rw [← hzs, List.length_append, List.length_replicate]; omega
    rw [hzs]
    have hgr : grow (putRow encStr (Sort.ahead w q) g 0 zs.toArray) #[] = putRow encStr (Sort.ahead w q) g 0 zs.toArray := by simp [grow, putRow, mapBlock, Sort.ahead]
    have hhp := heap_sorted (n := q) (os := #[]) zs.toArray hb
    have hgb := grownBy_sorted (w := w) (g := g) (n := q) (os := #[]) zs.toArray
    rw [hgr] at hhp hgb
    refine ⟨some ⟨g, 0, none⟩, _, cap, rfl, ?_, hgb⟩
    have hfl : (fnl l).length = (Lib.compact (srt l)).length := by unfold fnl; rw [List.length_map]
    unfold OwnT
    rw [← hfl]
    refine ⟨by rw [sv_len, Nat.mul_one], .inr ⟨g, cap, _, rfl, hB, hhp, by omega, h2, by simp [putCells, h3], ?_⟩⟩
    rw [Nat.mul_one]
    have ht := take_putCells cur zs (by rw [hzl]; omega)
    have h5 := congrArg (List.take (fnl l).length) ht
    rw [List.take_take, Nat.min_eq_left (by rw [hzl, hfl]; exact hcl)] at h5
    rw [h5, ← List.map_take, ← hzs, hfl, List.take_left, enc_to]
    rfl
end Go.Proofs.YtjgopjnkkhkcnaaGreatDoor

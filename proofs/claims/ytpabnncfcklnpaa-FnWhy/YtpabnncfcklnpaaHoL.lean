/-
  Sets told as lists, by both texts; a set and what one step makes of it, by the program; two sets held against each other.
-/
import Derived.Test.YtpabnncfcklnpaaHoA
import Derived.Laws.StructEq
import Derived.ChangeKeysEq
namespace Go.Proofs.Ytpabnncfcklnpaa
open Go.RowKit M
open Clk (upd upd_same upd_other)
open Ho
namespace M
def nv (n : Nat) : Value := .int .i64 (n : Int)
def at' (L : List Nat) : Nat → Int := fun i => ((L.getD i 0 : Nat) : Int)
theorem nv_range (L : List Nat) : L.map nv = (List.range L.length).map (iv (at' L)) := by
  apply List.ext_getElem?
  intro i
  by_cases h : i < L.length
  · rw [List.getElem?_map, List.getElem?_map, List.getElem?_range h, List.getElem?_eq_getElem h]
    simp [nv, iv, at', List.getD, h]
  · rw [List.getElem?_eq_none (by simp; omega), List.getElem?_eq_none (by simp; omega)]
theorem lst_nv (s : Nat → Bool) (m : Nat) (h : s m = true) : (lst s (m + 1)).map nv = (lst s m).map nv ++ [.int .i64 (m : Int)] := by
  rw [lst_succ, if_pos h, List.map_append]; rfl
theorem lst_len_yes (s : Nat → Bool) (m : Nat) (h : s m = true) : (lst s (m + 1)).length = (lst s m).length + 1 := by
  rw [lst_succ, if_pos h]; simp
theorem lst_no (s : Nat → Bool) (m : Nat) (h : s m = false) : lst s (m + 1) = lst s m := by
  rw [lst_succ, h]; simp
/-- A slice of forty bools that is read and written. -/
def BoolsOf (w : World) (v : Value) (g : Nat) (s : Nat → Bool) : Prop := v = .slice (some ⟨g, 0, none⟩) 40 40 ∧ Blk w g 40 (bv s) 4
end M
theorem idx40 (s : Nat → Bool) (k : Nat) (hk : k < 40) (w : World) : (Instr.index 63 (fs s) (.int .i64 (k : Int))).run Try.prog w = .ok (.bool (s k)) w := by
  have hu : Try.prog.underlying 63 = some (.array 40 4) := Try.underlying63
  have hs : Try.prog.cellsOf 4 = 1 := by kernel_rfl
  have hi : Try.prog.underlying 4 = some .bool := Try.underlying4
  have hsz : ∀ w : World, (sizeOf 4).run Try.prog w = .ok 1 w := fun w => by obtain ⟨i, hi, hz0, hz1, hz2⟩ := info_parts info_bool; simp [sizeOf, typeInfo, go_sem, hi, hz1]
  have hg := cf_get (bv s) hk
  simp [Instr.index, run_underlying hu, asIntOf, part, go_sem, hg, hsz, isAgg, run_underlying hi]
  rw [if_pos hk]
  rfl
set_option maxRecDepth 20000 in
set_option maxHeartbeats 1000000 in
theorem set_list (s : Nat → Bool) (w : World) :
    Calls Try.prog 48 #[fs s] w fun e w' => (∃ r, e = .returned r ∧ w'.ownsRow w.heap.size 3 1 r (lst s 40).length ((lst s 40).map nv)) ∧ Below w.heap.size w w' := by
  have hidx := idx40 s
  obtain ⟨i0, hi, hz0, hz1, hz2⟩ := info_parts info_int
  go_enter Try.func48, Try.ntmps48
  have h0 := Blk.new w 40 (bv s) 63
  have hb0 := (Below.refl w.heap.size w).alloc (Nat.le_refl _) (.cells (cf 40 (bv s)) 63)
  go_wp2_with (refine wpList_load_row rfl 63 _ rfl w.heap.size rfl 63 _ (0, 0) _ h0 Try.underlying63 rfl info_fs ?_)
  generalize w.alloc (.cells (cf 40 (bv s)) 63) = w1 at *
  clear h0
  go_loopw [3, 7] (fun x i wr => ∃ (k n : Nat) (ao : Option Addr) (c : Nat), k ≤ 40 ∧ n ≤ k ∧ i = .int .i64 k ∧ x = .slice ao n c ∧ Hid (n = (lst s k).length ∧ wr.ownsRow w.heap.size 3 1 (.slice ao n c) n ((lst s k).map nv)) ∧ Below w.heap.size w wr) (fun _ i _ => 40 - (intOf i).toNat)
  case atStart => exact ⟨0, 0, none, 0, Nat.zero_le _, Nat.le_refl _, rfl, rfl, hide ⟨rfl, World.ownsRow_nil _ _ _ _⟩, hb0⟩
  case round =>
    rename World => wr
    obtain ⟨k, n, ao, c, hk, hn, rfl, rfl, HO, hbw⟩ := hrel
    by_cases hlt : k < 40
    · have hik := hidx k hlt
      rcases hs : s k with _ | _
      · have HO2 := hide (show n = (lst s (k + 1)).length ∧ wr.ownsRow w.heap.size 3 1 (.slice ao n c) n ((lst s (k + 1)).map nv) from by rw [lst_no s k hs]; exact HO.out)
        rw [hs] at hik
        clear HO hidx
        go_wp2
        exact ⟨⟨k + 1, n, ao, c, by omega, by omega, by go_num, rfl, HO2, hbw⟩, by simp [intOf]; omega⟩
      · have HS := hide (lst_nv s k hs)
        have HL := hide (lst_len_yes s k hs)
        rw [hs] at hik
        have hown := HO.out.2
        have HN := hide HO.out.1
        clear HO hidx
        go_wp2_with (at_builtin; refine wpList_append_own _ rfl _ _ 29 rfl w.heap.size 3 i0 _ 1 8 Try.underlying29 hi hz0 hz1 hz2 rfl (by decide) _ n _ rfl (hown.alloc _) ⟨wr.heap.size, 0, none⟩ 1 1 [.int .i64 (k : Int)] rfl rfl ?c1 ?c2 ?c3 ?c4 ?c5 ?_)
        try (case c1 => exact news1 wr _ _)
        case c2 => first | rfl | (intro u hu; simp at hu; subst hu; rfl)
        case c3 => unfold maxLen; omega
        case c4 => omega
        case c5 => have := hbw.size; simp; omega
        intro v' w4 hown4 hgrow _
        have hbw4 : Below w.heap.size w w4 := (hbw.alloc hbw.size _).grown hgrow (by have := hbw.size; simp; omega) (fun j hj => (hown.lt j hj).1)
        obtain ⟨a4, c4, rfl⟩ := own_form hown4
        have HO4 := hide (show n + 1 = (lst s (k + 1)).length ∧ w4.ownsRow w.heap.size 3 1 (.slice a4 (n + 1) c4) (n + 1) ((lst s (k + 1)).map nv) by rw [HS.out, HL.out]; exact ⟨by rw [HN.out], hown4⟩)
        clear hown4 hgrow hown
        go_wp2
        exact ⟨⟨k + 1, n + 1, a4, c4, by omega, by omega, by go_num, rfl, HO4, hbw4⟩, by simp [intOf]; omega⟩
    · obtain rfl : k = 40 := by omega
      clear hidx
      go_wp2
      go_ret
      exact ⟨⟨_, rfl, by rw [← HO.out.1]; exact HO.out.2⟩, hbw⟩
set_option maxRecDepth 20000 in
set_option maxHeartbeats 1000000 in
theorem spec_list (s : Nat → Bool) (v : Value) (g : Nat) (w : World) (hv : BoolsOf w v g s) :
    Calls Try.prog 45 #[v] w fun e w' => (∃ r, e = .returned r ∧ w'.ownsRow w.heap.size 3 1 r (lst s 40).length ((lst s 40).map nv)) ∧ Below w.heap.size w w' := by
  obtain ⟨rfl, hB⟩ := hv
  have HB := hide hB
  have hg := hB.lt
  clear hB
  obtain ⟨i0, hi, hz0, hz1, hz2⟩ := info_parts info_int
  go_enter Try.func45, Try.ntmps45
  go_wp2
  go_loopw [3, 8] (fun x i wr => ∃ (k n : Nat) (ao : Option Addr) (c : Nat), k ≤ 40 ∧ n ≤ k ∧ i = .int .i64 k ∧ x = .slice ao n c ∧ Hid (n = (lst s k).length ∧ wr.ownsRow w.heap.size 3 1 (.slice ao n c) n ((lst s k).map nv)) ∧ Below w.heap.size w wr) (fun _ i _ => 40 - (intOf i).toNat)
  case atStart => exact ⟨0, 0, none, 0, Nat.zero_le _, Nat.le_refl _, rfl, rfl, hide ⟨rfl, World.ownsRow_nil _ _ _ _⟩, Below.refl _ _⟩
  case round =>
    rename World => wr
    obtain ⟨k, n, ao, c, hk, hn, rfl, rfl, HO, hbw⟩ := hrel
    by_cases hlt : k < 40
    · have hik := (HB.out.down hbw).cell_bv hlt
      rcases hs : s k with _ | _
      · have HO2 := hide (show n = (lst s (k + 1)).length ∧ wr.ownsRow w.heap.size 3 1 (.slice ao n c) n ((lst s (k + 1)).map nv) from by rw [lst_no s k hs]; exact HO.out)
        rw [hs] at hik
        clear HO HB
        go_wp2
        exact ⟨⟨k + 1, n, ao, c, by omega, by omega, by go_num, rfl, HO2, hbw⟩, by simp [intOf]; omega⟩
      · have HS := hide (lst_nv s k hs)
        have HL := hide (lst_len_yes s k hs)
        rw [hs] at hik
        have hown := HO.out.2
        have HN := hide HO.out.1
        clear HO HB
        go_wp2_with (at_builtin; refine wpList_append_own _ rfl _ _ 29 rfl w.heap.size 3 i0 _ 1 8 Try.underlying29 hi hz0 hz1 hz2 rfl (by decide) _ n _ rfl (hown.alloc _) ⟨wr.heap.size, 0, none⟩ 1 1 [.int .i64 (k : Int)] rfl rfl ?c1 ?c2 ?c3 ?c4 ?c5 ?_)
        try (case c1 => exact news1 wr _ _)
        case c2 => first | rfl | (intro u hu; simp at hu; subst hu; rfl)
        case c3 => unfold maxLen; omega
        case c4 => omega
        case c5 => have := hbw.size; simp; omega
        intro v' w4 hown4 hgrow _
        have hbw4 : Below w.heap.size w w4 := (hbw.alloc hbw.size _).grown hgrow (by have := hbw.size; simp; omega) (fun j hj => (hown.lt j hj).1)
        obtain ⟨a4, c4, rfl⟩ := own_form hown4
        have HO4 := hide (show n + 1 = (lst s (k + 1)).length ∧ w4.ownsRow w.heap.size 3 1 (.slice a4 (n + 1) c4) (n + 1) ((lst s (k + 1)).map nv) by rw [HS.out, HL.out]; exact ⟨by rw [HN.out], hown4⟩)
        clear hown4 hgrow hown
        go_wp2
        exact ⟨⟨k + 1, n + 1, a4, c4, by omega, by omega, by go_num, rfl, HO4, hbw4⟩, by simp [intOf]; omega⟩
    · obtain rfl : k = 40 := by omega
      clear HB
      go_wp2
      go_ret
      exact ⟨⟨_, rfl, by rw [← HO.out.1]; exact HO.out.2⟩, hbw⟩
namespace M
def feq (s u : Nat → Bool) : Bool := (List.range 40).all fun i => s i == u i
theorem feq_iff {s u : Nat → Bool} : feq s u = true ↔ ∀ i, i < 40 → s i = u i := by simp [feq]
end M
theorem eq_items (s u : Nat → Bool) (w : World) : ∀ is : List Nat, (∀ i ∈ is, i < 40) → (Op.eqItems 9999 4 (Try.prog.cellsOf 4) (cf 40 (bv s)) (cf 40 (bv u)) is).run Try.prog w = .ok (is.all fun i => s i == u i) w
  | [], _ => by simp [Op.eqItems]
  | i :: is, h => by
    have hs : Try.prog.cellsOf 4 = 1 := by kernel_rfl
    have hi : Try.prog.underlying 4 = some .bool := Try.underlying4
    have hlt := h i (by simp)
    have ih := eq_items s u w is (fun j hj => h j (by simp [hj]))
    rw [hs] at ih ⊢
    have px : ∀ s : Nat → Bool, (part 4 (cf 40 (bv s)) (i * 1)).run Try.prog w = .ok (.bool (s i)) w := fun s => by
      have hg := cf_get (bv s) hlt
      simp [part, isAgg, run_underlying hi, go_sem, hg]
      rfl
    have he : (Op.equalIn 9999 4 (.bool (s i)) (.bool (u i))).run Try.prog w = .ok (s i == u i) w := run_equalIn_bool' w 9998 4 (s i) (u i) hi
    simp only [Op.eqItems, Sem.run_bind, px, he, Result.andThen_ok, List.all_cons]
    cases hb : (s i == u i)
    · simp
    · simpa using ih
theorem eq40 (s u : Nat → Bool) (w : World) : (Op.equalIn 10000 63 (fs s) (fs u)).run Try.prog w = .ok (feq s u) w := by
  obtain ⟨i0, hi, hz0, hz1, hz2⟩ := info_parts info_bool
  rw [run_equalIn_array w 9999 (cf 40 (bv s)) (cf 40 (bv u)) Try.underlying63 hi]
  exact eq_items s u w _ (fun i hi => List.mem_range.1 hi)
end Go.Proofs.Ytpabnncfcklnpaa

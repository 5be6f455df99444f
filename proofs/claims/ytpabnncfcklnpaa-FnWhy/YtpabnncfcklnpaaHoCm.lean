/-
  What the law asks of a reason, said of the lists that it reads: each body is there, the goal is there, and without one of the rules the goal does not follow.
-/
import Derived.Test.YtpabnncfcklnpaaHoF
import Derived.Test.YtpabnncfcklnpaaHoWO
import Derived.Test.YtpabnncfcklnpaaHoCh
namespace Go.Proofs.Ytpabnncfcklnpaa
open Go.RowKit M
open Clk (upd upd_same upd_other)
open Ho
namespace M
/-- The facts and then the heads of the rules. -/
def IL (n : Nat) (f : Nat → Int) (ts : Nat → Tk) (A : List Nat) : List Int := (List.range n).map f ++ A.map fun j => (ts j).long
theorem IL_len (n : Nat) (f : Nat → Int) (ts : Nat → Tk) (A : List Nat) : (IL n f ts A).length = n + A.length := by simp [IL]
theorem IL_snoc (n : Nat) (f : Nat → Int) (ts : Nat → Tk) (A : List Nat) (i : Nat) : IL n f ts (A ++ [i]) = IL n f ts A ++ [(ts i).long] := by simp [IL]
def atI (L : List Int) : Nat → Int := fun i => L.getD i 0
def vi (x : Int) : Value := .int .i64 x
theorem vi_range (L : List Int) : L.map vi = (List.range L.length).map (iv (atI L)) := by
  apply List.ext_getElem?
  intro i
  by_cases h : i < L.length
  · rw [List.getElem?_map, List.getElem?_map, List.getElem?_range h, List.getElem?_eq_getElem h]
    simp [vi, iv, atI, List.getD, h]
  · rw [List.getElem?_eq_none (by simp; omega), List.getElem?_eq_none (by simp; omega)]
theorem own_vi {w : World} {B n : Nat} {v : Value} {L : List Int} (hn : n = L.length) (h : w.ownsRow B 3 1 v n (L.map vi)) : IntsOf w v n (atI L) := by
  subst hn
  rw [vi_range] at h; exact own_ints h
theorem mem_atI {L : List Int} {a : Int} (h : a ∈ L) : ∃ j, j < L.length ∧ atI L j = a := by
  obtain ⟨j, hj, e⟩ := List.mem_iff_getElem.1 h
  exact ⟨j, hj, by simp [atI, List.getD, hj, e]⟩
section
variable {k n : Nat} {ts : Nat → Tk} {f : Nat → Int} {x : Nat}
theorem Okay.inv (hO : Okay k n ts f) : Inv (rls ts) k (sof f n) (fin (rls ts) k (nf f) n) := (fin_inv hO.1.gr (f := nf f) (n := n) (fun _ hi => hO.2.nf_lt hi)).1
theorem fact_mem (hO : Okay k n ts f) {A : List Nat} {y : Nat} (h : sof f n y = true) : (y : Int) ∈ IL n f ts A := by
  obtain ⟨j, hj, e⟩ := (ofl_iff n).1 h
  unfold IL
  rw [List.mem_append]
  refine .inl (List.mem_map.2 ⟨j, List.mem_range.2 hj, ?_⟩)
  rw [hO.2.nf_eq hj, e]
theorem head_mem (hO : Okay k n ts f) {A : List Nat} {y : Nat} (hA : ∀ j, j ∈ A → j < k) (h : y ∈ A.map fun j => (rls ts j).hd) : (y : Int) ∈ IL n f ts A := by
  obtain ⟨j, hj, e⟩ := List.mem_map.1 h
  unfold IL
  rw [List.mem_append]
  refine .inr (List.mem_map.2 ⟨j, hj, ?_⟩)
  rw [(hO.1.2 j (hA j hj)).hd.1, ← e]
theorem whyL_lt (hO : Okay k n ts f) {i : Nat} (h : i ∈ whyL k n ts f x) : i < k := why_lt hO.inv h
theorem whyL_body (hO : Okay k n ts f) {i : Nat} {A B : List Nat} (hW : whyL k n ts f x = A ++ i :: B) {b : Nat} (hb : b < (ts i).nn) : (ts i).fn b ∈ IL n f ts A := by
  have hik : i < k := whyL_lt (x := x) hO (by rw [hW]; simp)
  have hA : ∀ j, j ∈ A → j < k := fun j hj => whyL_lt (x := x) hO (by rw [hW]; simp [hj])
  rw [(hO.1.2 i hik).2.nf_eq hb]
  rcases why_ord hO.inv hW (b := b) hb with h | h
  · exact fact_mem hO h
  · exact head_mem hO hA h
theorem whyL_goal (hO : Okay k n ts f) (hin : (fin (rls ts) k (nf f) n).inn x = true) : (x : Int) ∈ IL n f ts (whyL k n ts f x) := by
  rcases why_goal hO.inv hin with h | h
  · exact fact_mem hO h
  · exact head_mem hO (fun j hj => whyL_lt hO hj) h
/-- The rules of a list. -/
def tsL (ts : Nat → Tk) (L : List Nat) : Nat → Tk := fun j => ts (L.getD j 0)
theorem whyL_rest (hO : Okay k n ts f) {i : Nat} {A B : List Nat} (hW : whyL k n ts f x = A ++ i :: B) : Okay (A ++ B).length n (tsL ts (A ++ B)) f ∧ (fi (A ++ B).length n (tsL ts (A ++ B)) f).inn x = false := by
  have hlen := whyL_len hO x
  have hmem : ∀ j, j < (A ++ B).length → (A ++ B).getD j 0 ∈ A ++ B := fun j hj => by
    have : (A ++ B).getD j 0 = (A ++ B)[j] := by rw [List.getD_eq_getElem?_getD, List.getElem?_eq_getElem hj]; rfl
    rw [this]; exact List.getElem_mem hj
  have hk : Okay (A ++ B).length n (tsL ts (A ++ B)) f := by
    refine ⟨⟨by rw [hW] at hlen; simp at hlen ⊢; omega, fun j hj => hO.1.2 _ (whyL_lt (x := x) hO ?_)⟩, hO.2⟩
    have := hmem j hj
    rw [hW]; simp only [List.mem_append, List.mem_cons] at this ⊢
    rcases this with h | h
    · exact .inl h
    · exact .inr (.inr h)
  exact ⟨hk, why_least hO.inv hW hk.inv fun j hj => ⟨_, hmem j hj, rfl⟩⟩
end
/-- The rules so far, without the one at place t. -/
def rst (W : List Nat) (t j : Nat) : List Nat := if j ≤ t then W.take j else W.take t ++ (W.take j).drop (t + 1)
theorem rst_zero (W : List Nat) (t : Nat) : rst W t 0 = [] := by simp [rst]
theorem rst_at {W : List Nat} {t : Nat} (h : t < W.length) : rst W t (t + 1) = rst W t t := by
  unfold rst
  rw [if_neg (by omega), if_pos (by omega), List.drop_eq_nil_of_le (by simp; omega), List.append_nil]
theorem take_snoc {W : List Nat} {j i : Nat} (h : W[j]? = some i) : W.take (j + 1) = W.take j ++ [i] := by
  rw [List.take_add_one, h]; rfl
theorem rst_next {W : List Nat} {t j i : Nat} (h : W[j]? = some i) (hne : j ≠ t) : rst W t (j + 1) = rst W t j ++ [i] := by
  have hj : j < W.length := (List.getElem?_eq_some_iff.1 h).1
  unfold rst
  by_cases h1 : j + 1 ≤ t
  · rw [if_pos h1, if_pos (by omega), take_snoc h]
  · rw [if_neg h1, if_neg (by omega), take_snoc h, List.drop_append_of_le_length (by simp; omega), List.append_assoc]
theorem rst_len {W : List Nat} {t : Nat} : ∀ j, (rst W t j).length ≤ j := fun j => by
  unfold rst
  split
  · simp; omega
  · simp; omega
theorem rst_end {W : List Nat} {t : Nat} (h : t < W.length) : rst W t W.length = W.take t ++ W.drop (t + 1) := by
  unfold rst
  rw [if_neg (by omega), List.take_length]
theorem split_at {W : List Nat} {t i : Nat} (h : W[t]? = some i) : W = W.take t ++ i :: W.drop (t + 1) := by
  obtain ⟨ht, e⟩ := List.getElem?_eq_some_iff.1 h
  subst e
  rw [List.getElem_cons_drop, List.take_append_drop]
/-- Rows of rules out of a list that is read. -/
def rw' (ts : Nat → Tk) (Y : Nat → Value) (L : List Nat) : List Rw := L.map fun i => ⟨(ts i).long, Y i, []⟩
theorem rw'_snoc (ts : Nat → Tk) (Y : Nat → Value) (L : List Nat) (i : Nat) : cellsR (rw' ts Y (L ++ [i])) = cellsR (rw' ts Y L) ++ [.int .i64 (ts i).long, Y i] := by
  unfold rw'; rw [List.map_append]; exact cellsR_snoc _ _
theorem rows_list {w : World} {B m : Nat} {v : Value} {ts : Nat → Tk} {Y : Nat → Value} {L : List Nat} (hm : m = L.length) (h : w.ownsRow B 48 2 v m (cellsR (rw' ts Y L))) (hd : ∀ i, i ∈ L → IntsOf w (Y i) (ts i).nn (ts i).fn) : TasksOf w v m (tsL ts L) := by
  subst hm
  obtain ⟨a, cap, hv, hr⟩ := own_cells h (by rw [cellsR_len]; simp [rw'])
  refine ⟨a, cap, hv, fun hn => ?_⟩
  obtain ⟨g, ha, _, hlt, hc⟩ := hr hn
  refine ⟨g, 0, ha, hlt, fun i hi => ?_⟩
  have hs : (rw' ts Y L)[i]? = some ⟨(ts L[i]).long, Y L[i], []⟩ := by unfold rw'; rw [List.getElem?_map, List.getElem?_eq_getElem hi]; rfl
  have e : tsL ts L i = ts L[i] := by unfold tsL; simp [List.getD, hi]
  rw [e, Nat.zero_add]
  exact ⟨_, hc _ _ (cellsR_at _ i _ hs).1, hc _ _ (cellsR_at _ i _ hs).2, hd _ (List.getElem_mem hi)⟩
/-- The bodies of a list that is read. -/
theorem TasksOf.bodies {w : World} {a : Option Addr} {k cap : Nat} {ts : Nat → Tk} (h : TasksOf w (.slice a k cap) k ts) : ∃ Y : Nat → Value, (∀ i, i < k → IntsOf w (Y i) (ts i).nn (ts i).fn) ∧ (0 < k → ∃ b off, a = some ⟨b, off, none⟩ ∧ b < w.heap.size ∧ ∀ i, i < k → w.cell? ⟨b, off + i * 2, none⟩ = some (.int .i64 (ts i).long) ∧ w.cell? ⟨b, off + i * 2 + 1, none⟩ = some (Y i)) := by
  obtain ⟨a', cap', hv, hr⟩ := h
  simp only [Value.slice.injEq, true_and] at hv
  obtain ⟨rfl, rfl⟩ := hv
  rcases Nat.eq_zero_or_pos k with h0 | h0
  · exact ⟨fun _ => undef, fun i hi => absurd hi (by omega), fun h => absurd h (by omega)⟩
  · obtain ⟨b, off, ha, hlt, hrow⟩ := hr h0
    refine ⟨fun i => (w.cell? ⟨b, off + i * 2 + 1, none⟩).getD undef, fun i hi => ?_, fun _ => ⟨b, off, ha, hlt, fun i hi => ?_⟩⟩
    · obtain ⟨y, _, h2, h3⟩ := hrow i hi
      simp only [h2, Option.getD_some]; exact h3
    · obtain ⟨y, h1, h2, h3⟩ := hrow i hi
      exact ⟨h1, by simp only [h2, Option.getD_some]⟩
end M
end Go.Proofs.Ytpabnncfcklnpaa

/-
  The closure of a set, as lists: plain mathematics.
-/
import Derived.Test.YtpabnncfcklnpaaHoU
namespace Go.Proofs.Ytpabnncfcklnpaa
open Go.RowKit M
open Clk (upd upd_same upd_other)
open Ho
namespace M
theorem lst_sorted (s : Nat → Bool) (m : Nat) : (lst s m).Pairwise (· < ·) := List.Pairwise.filter _ List.pairwise_lt_range
theorem lst_at {s : Nat → Bool} {i : Nat} (h : i < (lst s 40).length) : at' (lst s 40) i = (((lst s 40)[i] : Nat) : Int) := by
  unfold at'; rw [List.getD_eq_getElem?_getD, List.getElem?_eq_getElem h]; rfl
theorem lst_ris (s : Nat → Bool) : Ris (lst s 40).length (at' (lst s 40)) := by
  intro i hi
  have hm : (lst s 40)[i] ∈ lst s 40 := List.getElem_mem hi
  have h40 := (lst_mem.1 hm).1
  refine ⟨?_, fun h0 => ?_⟩
  · rw [lst_at hi]; omega
  · have := List.pairwise_iff_getElem.1 (lst_sorted s 40) (i - 1) i (by omega) hi (by omega)
    rw [lst_at hi, lst_at (show i - 1 < (lst s 40).length by omega)]; omega
def Sup (s : Nat → Bool) : Prop := ∀ x, 40 ≤ x → s x = false
theorem sof_lst {s : Nat → Bool} (hs : Sup s) : sof (at' (lst s 40)) (lst s 40).length = s := by
  funext x
  rw [Bool.eq_iff_iff, ofl_iff]
  constructor
  · rintro ⟨j, hj, rfl⟩
    have hm : (lst s 40)[j] ∈ lst s 40 := List.getElem_mem hj
    unfold nf
    rw [lst_at hj, Int.toNat_natCast]
    exact (lst_mem.1 hm).2
  · intro h
    have hx : x < 40 := by
      rcases Nat.lt_or_ge x 40 with h' | h'
      · exact h'
      · rw [hs x h'] at h; cases h
    obtain ⟨j, hj, e⟩ := List.getElem_of_mem (lst_mem.2 ⟨hx, h⟩)
    exact ⟨j, hj, by unfold nf; rw [lst_at hj, Int.toNat_natCast, e]⟩
theorem sup_sof {n : Nat} {f : Nat → Int} (h : Ris n f) : Sup (sof f n) := by
  intro x hx
  rw [← Bool.not_eq_true, ofl_iff]
  rintro ⟨j, hj, e⟩
  have := h.nf_lt hj
  omega
theorem sup_stp {k : Nat} {ts : Nat → Tk} (hg : GoodL k ts) {s : Nat → Bool} (h : Sup s) : Sup (stp (rls ts) s k) := fun x hx => by rw [stp_far hg.hds hx]; exact h x hx
theorem sup_itr {k : Nat} {ts : Nat → Tk} (hg : GoodL k ts) {s : Nat → Bool} (h : Sup s) : ∀ t, Sup (itr (rls ts) k s t)
  | 0 => h
  | t + 1 => sup_stp hg (sup_itr hg h t)
/-- The closure. -/
def cls (k : Nat) (ts : Nat → Tk) (s : Nat → Bool) : Nat → Bool := itr (rls ts) k s 40
/-- Ahead of the end each step brings one more at least. -/
theorem itr_len {k : Nat} {ts : Nat → Tk} (hg : GoodL k ts) {s : Nat → Bool} {t : Nat} (ht : t ≤ (lst (itr (rls ts) k s t) 40).length) :
    (itr (rls ts) k s (t + 1) = itr (rls ts) k s t → cls k ts s = itr (rls ts) k s t) ∧ (itr (rls ts) k s (t + 1) ≠ itr (rls ts) k s t → t + 1 ≤ (lst (itr (rls ts) k s (t + 1)) 40).length ∧ (lst (itr (rls ts) k s t) 40).length < (lst (itr (rls ts) k s (t + 1)) 40).length) := by
  have hle := lst_len (itr (rls ts) k s t) 40
  refine ⟨fun h => itr_all (by omega) h, fun h => ?_⟩
  have := stp_more hg.hds h
  show t + 1 ≤ (lst (stp (rls ts) (itr (rls ts) k s t) k) 40).length ∧ _ < (lst (stp (rls ts) (itr (rls ts) k s t) k) 40).length
  omega
theorem itr_same {k : Nat} {ts : Nat → Tk} (hg : GoodL k ts) {s : Nat → Bool} {t : Nat} : (lst (itr (rls ts) k s (t + 1)) 40).length = (lst (itr (rls ts) k s t) 40).length ↔ itr (rls ts) k s (t + 1) = itr (rls ts) k s t := stp_same hg.hds
theorem itr_feq {k : Nat} {ts : Nat → Tk} (hg : GoodL k ts) {s : Nat → Bool} {t : Nat} : feq (itr (rls ts) k s (t + 1)) (itr (rls ts) k s t) = true ↔ itr (rls ts) k s (t + 1) = itr (rls ts) k s t := by
  rw [feq_iff]
  exact ⟨fun h => stp_fix hg.hds h, fun h x _ => by rw [h]⟩
/-- What a block of bools holds. -/
def rd (W : World) (g i : Nat) : Bool := match W.cell? ⟨g, i, none⟩ with
  | some (.bool b) => b
  | _ => false
def wl (W : World) (g : Nat) : Nat := (lst (rd W g) 40).length
theorem wl_eq {W : World} {g : Nat} {s : Nat → Bool} {t : TypeId} (h : Blk W g 40 (bv s) t) : wl W g = (lst s 40).length := by
  unfold wl lst
  rw [List.filter_congr (q := s)]
  intro x hx
  unfold rd
  rw [h.cell_bv (List.mem_range.1 hx)]
end M
end Go.Proofs.Ytpabnncfcklnpaa

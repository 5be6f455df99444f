/-
  A good wheel with one timer more: it is good just where its Id is new.
-/
import Derived.Test.YtcodllammndciaaWhY
namespace Go.Proofs.Ytcodllammndciaa
open Go.RowKit M
open Clk (upd upd_same upd_other)
namespace M
theorem slotA_lies {now tm : Int} (h : (slotA now tm).2 = true) : GoodN now ∧ GoodT now tm ∧ Lies now (slotA now tm).1.toNat tm := by
  unfold slotA at h ⊢
  by_cases hg : GoodN now ∧ GoodT now tm
  · rw [if_pos hg] at h ⊢
    refine ⟨hg.1, hg.2, hg.2, ?_⟩
    have key : ∀ l : Nat, l ≤ 2 → Fit l now tm → Fit ((sN l tm).toNat / 8) now tm ∧ tm / pw ((sN l tm).toNat / 8) % 8 = (((sN l tm).toNat % 8 : Nat) : Int) := fun l hl hf => by
      have e1 : (sN l tm).toNat / 8 = l := by unfold sN; omega
      have e2 : (((sN l tm).toNat % 8 : Nat) : Int) = tm / pw l % 8 := by unfold sN; omega
      rw [e1, e2]; exact ⟨hf, rfl⟩
    unfold slotF at h ⊢
    split
    · rename_i k hk
      split at hk
      · cases hk; exact key 0 (by omega) (by assumption)
      · split at hk
        · cases hk; exact key 1 (by omega) (by assumption)
        · split at hk
          · cases hk; exact key 2 (by omega) (by assumption)
          · cases hk
    · rename_i hk
      rw [hk] at h; cases h
  · rw [if_neg hg] at h; cases h
theorem mem_idsR {r : Rw} {z : Int} {n : Nat} : z ∈ idsR r n ↔ ∃ y, y < n ∧ r.f (y * 2 + 1) = z := by
  unfold idsR
  rw [List.mem_map]
  constructor
  · rintro ⟨y, hy, e⟩; exact ⟨y, List.mem_range.1 hy, e⟩
  · rintro ⟨y, hy, e⟩; exact ⟨y, List.mem_range.2 hy, e⟩
theorem mem_idsTo {rs : Nat → Rw} {z : Int} : ∀ m, z ∈ idsTo rs m ↔ ∃ x, x < m ∧ ∃ y, y < (rs x).n ∧ (rs x).f (y * 2 + 1) = z
  | 0 => by simp [idsTo]
  | m + 1 => by
    simp only [idsTo, List.mem_append, mem_idsTo m, mem_idsR]
    constructor
    · rintro (⟨x, hx, h⟩ | h)
      · exact ⟨x, by omega, h⟩
      · exact ⟨m, by omega, h⟩
    · rintro ⟨x, hx, h⟩
      rcases (show x < m ∨ x = m by omega) with h1 | h1
      · exact .inl ⟨x, h1, h⟩
      · subst h1; exact .inr h
theorem snoc_old {r : Rw} {tm id : Int} {q : Nat} (h : q < r.n * 2) : (r.snoc tm id).f q = r.f q := by
  unfold Rw.snoc; show upd (upd r.f (r.n * 2) tm) (r.n * 2 + 1) id q = _
  rw [upd_other _ _ _ _ (by omega), upd_other _ _ _ _ (by omega)]
theorem snoc_at {r : Rw} {tm id : Int} : (r.snoc tm id).f (r.n * 2) = tm := by
  unfold Rw.snoc; show upd (upd r.f (r.n * 2) tm) (r.n * 2 + 1) id (r.n * 2) = _
  rw [upd_other _ _ _ _ (by omega), upd_same]
theorem snoc_id {r : Rw} {tm id : Int} : (r.snoc tm id).f (r.n * 2 + 1) = id := by
  unfold Rw.snoc; show upd (upd r.f (r.n * 2) tm) (r.n * 2 + 1) id (r.n * 2 + 1) = _
  rw [upd_same]
theorem mem_put {rs : Nat → Rw} {k : Nat} {tm id z : Int} (m : Nat) : z ∈ idsTo (upd rs k ((rs k).snoc tm id)) m ↔ z ∈ idsTo rs m ∨ (k < m ∧ z = id) := by
  rw [mem_idsTo, mem_idsTo]
  constructor
  · rintro ⟨x, hx, y, hy, e⟩
    by_cases hxk : x = k
    · subst hxk
      rw [upd_same] at hy e
      by_cases hyn : y < (rs x).n
      · left; exact ⟨x, hx, y, hyn, by rw [← snoc_old (by omega)]; exact e⟩
      · right
        have hy' : y < (rs x).n + 1 := hy
        obtain rfl : y = (rs x).n := by omega
        rw [snoc_id] at e
        exact ⟨hx, e.symm⟩
    · rw [upd_other _ _ _ _ hxk] at hy e
      left; exact ⟨x, hx, y, hy, e⟩
  · rintro (⟨x, hx, y, hy, e⟩ | ⟨hk, e⟩)
    · by_cases hxk : x = k
      · subst hxk
        refine ⟨x, hx, y, ?_, ?_⟩
        · rw [upd_same]; show y < (rs x).n + 1; omega
        · rw [upd_same, snoc_old (by omega)]; exact e
      · exact ⟨x, hx, y, by rw [upd_other _ _ _ _ hxk]; exact hy, by rw [upd_other _ _ _ _ hxk]; exact e⟩
    · exact ⟨k, hk, (rs k).n, by rw [upd_same]; show _ < (rs k).n + 1; omega, by rw [upd_same, snoc_id, e]⟩
theorem tot_put (rs : Nat → Rw) (k : Nat) (tm id : Int) : ∀ m, tot (upd rs k ((rs k).snoc tm id)) m = tot rs m + if k < m then 1 else 0
  | 0 => by simp [tot]
  | m + 1 => by
    simp only [tot]
    rw [tot_put rs k tm id m]
    by_cases h : m = k
    · subst h
      rw [upd_same, if_neg (by omega), if_pos (by omega)]
      show tot rs m + 0 + ((rs m).n + 1) = _
      omega
    · rw [upd_other _ _ _ _ h]
      by_cases h2 : k < m
      · rw [if_pos h2, if_pos (by omega)]; omega
      · rw [if_neg h2, if_neg (by omega)]; omega
theorem good_put {now : Int} {rs : Nat → Rw} {k : Nat} {tm id : Int} (hG : GoodW now 24 rs) (hk : k < 24) (hI : GoodI id) (hL : Lies now k tm) (h60 : tot rs 24 ≠ 60) : GoodW now 24 (upd rs k ((rs k).snoc tm id)) ↔ id ∉ idsTo rs 24 := by
  constructor
  · intro h hm
    obtain ⟨x, hx, y, hy, e⟩ := (mem_idsTo 24).1 hm
    by_cases hxk : k < x
    · have h1 := h.2.2.1 x hx y (by rw [upd_other _ _ _ _ (by omega)]; exact hy)
      refine h1.2.2 ?_
      unfold ids
      rw [List.mem_append]; left
      rw [mem_put]; right
      exact ⟨hxk, by rw [upd_other _ _ _ _ (by omega)]; exact e⟩
    · have h1 := h.2.2.1 k hk (rs k).n (by rw [upd_same]; show _ < (rs k).n + 1; omega)
      refine h1.2.2 ?_
      rw [upd_same, snoc_id]
      unfold ids
      rw [List.mem_append]
      by_cases hx2 : x = k
      · right
        subst hx2
        rw [mem_idsR, upd_same]
        exact ⟨y, hy, by rw [snoc_old (by omega)]; exact e⟩
      · left
        rw [mem_put]; left
        rw [mem_idsTo]; exact ⟨x, by omega, y, hy, e⟩
  · intro hn
    refine ⟨hG.1, rfl, fun i hi j hj => ?_, ?_⟩
    · by_cases hik : i = k
      · subst hik
        rw [upd_same] at hj
        have hj' : j < (rs i).n + 1 := hj
        by_cases hjn : j < (rs i).n
        · obtain ⟨o1, o2, o3⟩ := hG.2.2.1 i hi j hjn
          refine ⟨?_, ?_, ?_⟩
          · rw [upd_same, snoc_old (by omega)]; exact o1
          · rw [upd_same, snoc_old (by omega)]; exact o2
          · rw [upd_same, snoc_old (by omega)]
            intro hm
            apply o3
            unfold ids at hm ⊢
            rw [List.mem_append] at hm ⊢
            rcases hm with hm | hm
            · left
              rcases (mem_put i).1 hm with h | h
              · exact h
              · omega
            · right
              rw [mem_idsR, upd_same] at hm
              obtain ⟨y, hy, e⟩ := hm
              rw [mem_idsR]
              exact ⟨y, hy, by rw [← snoc_old (r := rs i) (tm := tm) (id := id) (by omega)]; exact e⟩
        · obtain rfl : j = (rs i).n := by omega
          refine ⟨?_, ?_, ?_⟩
          · rw [upd_same, snoc_id]; exact hI
          · rw [upd_same, snoc_at]; exact hL
          · rw [upd_same, snoc_id]
            intro hm
            apply hn
            unfold ids at hm
            rw [List.mem_append] at hm
            rcases hm with hm | hm
            · rcases (mem_put i).1 hm with h | h
              · obtain ⟨x, hx, r⟩ := (mem_idsTo i).1 h
                exact (mem_idsTo 24).2 ⟨x, by omega, r⟩
              · omega
            · rw [mem_idsR, upd_same] at hm
              obtain ⟨y, hy, e⟩ := hm
              exact (mem_idsTo 24).2 ⟨i, hi, y, hy, by rw [← snoc_old (r := rs i) (tm := tm) (id := id) (by omega)]; exact e⟩
      · rw [upd_other _ _ _ _ hik] at hj
        obtain ⟨o1, o2, o3⟩ := hG.2.2.1 i hi j hj
        refine ⟨?_, ?_, ?_⟩
        · rw [upd_other _ _ _ _ hik]; exact o1
        · rw [upd_other _ _ _ _ hik]; exact o2
        · rw [upd_other _ _ _ _ hik]
          intro hm
          unfold ids at hm
          rw [List.mem_append] at hm
          rcases hm with hm | hm
          · rcases (mem_put i).1 hm with h | h
            · apply o3
              unfold ids
              rw [List.mem_append]; left; exact h
            · apply hn
              rw [← h.2]
              exact (mem_idsTo 24).2 ⟨i, hi, j, hj, rfl⟩
          · rw [upd_other _ _ _ _ hik] at hm
            apply o3
            unfold ids
            rw [List.mem_append]; right; exact hm
    · rw [tot_put, if_pos hk]
      have := hG.2.2.2
      omega
end M
end Go.Proofs.Ytcodllammndciaa

/-
  The law's look whether marks are still there, on branches and tellings.
-/
import Derived.Test.YtoengmekbpcocaaDoorBrB
namespace Go.Proofs.YtoengmekbpcocaaDoor
open Go.RowKit M
open Go.Sort (grow)
namespace M
theorem mkP_at : ∀ (k0 : Nat) (ps : Prs) (k : Nat) (p : Value × Evs), ps[k]? = some p → (mkP k0 ps)[k]? = some (p.1, mkE (k0 + 4 * evn (ps.take k)) p.2.length)
  | k0, [], k, p, h => by simp at h
  | k0, q :: r, 0, p, h => by simp at h; subst h; simp [mkP, evn]
  | k0, q :: r, k + 1, p, h => by
    have := mkP_at (k0 + 4 * q.2.length) r k p (by simpa using h)
    simp only [mkP, List.getElem?_cons_succ, List.take_succ_cons, evn]
    rw [this]
    congr 3; omega
theorem evn_le {n : Nat} : ∀ {ps : Prs}, (∀ p ∈ ps, p.2.length ≤ n) → evn ps ≤ n * ps.length
  | [], _ => by simp [evn]
  | p :: r, h => by
    have h1 := h p (by simp)
    have h2 := evn_le (ps := r) (fun q hq => h q (by simp [hq]))
    simp only [evn, List.length_cons, Nat.mul_succ]
    omega
theorem vsP_len2 (k : Nat) (ps : Prs) : (mkP k ps).length = ps.length := mkP_len k ps
end M
end Go.Proofs.YtoengmekbpcocaaDoor

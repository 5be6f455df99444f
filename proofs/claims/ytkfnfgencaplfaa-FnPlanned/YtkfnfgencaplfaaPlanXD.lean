/-
  The critical way as both texts make it, and its beginning, its steps, its end.
-/
import Derived.Test.YtkfnfgencaplfaaPlanX
namespace Go.Proofs.Ytkfnfgencaplfaa
open Go.RowKit M
namespace M
def goB (ts : Nat → Tk) (l : List Nat) (x : Nat) : Bool :=
  match l.getLast? with
  | none => decide ((ts x).nn = 0)
  | some y => hasF (ts x).fn (y : Int) (ts x).nn
theorem goB_iff {k : Nat} {ts : Nat → Tk} (hB : Bnd k ts) {l : List Nat} {x : Nat} (hx : x < k) : goB ts l x = true ↔ Goes ts l.getLast? x := by
  unfold goB Goes
  cases l.getLast? with
  | none => simp
  | some y =>
    simp only [hasF_iff]
    constructor
    · rintro ⟨j, hj, h⟩
      exact ⟨j, hj, by unfold need; omega⟩
    · rintro ⟨j, hj, h⟩
      obtain ⟨z, hz, _, e⟩ := hB.need hx hj
      exact ⟨j, hj, by unfold need at h; omega⟩
def pC (ts : Nat → Tk) (L : Nat → Int) (l : List Nat) (e : Int) (x : Nat) : Bool := decide (L x = e) && goB ts l x
def cw (ts : Nat → Tk) (k : Nat) (L : Nat → Int) : Nat → List Nat × Int
  | 0 => ([], 0)
  | i + 1 => match fst (pC ts L (cw ts k L i).1 (cw ts k L i).2) k with
    | none => cw ts k L i
    | some x => ((cw ts k L i).1 ++ [x], (cw ts k L i).2 + (ts x).long)
theorem cw_stay {ts : Nat → Tk} {k i : Nat} {L : Nat → Int} (h : fst (pC ts L (cw ts k L i).1 (cw ts k L i).2) k = none) : ∀ n, i ≤ n → cw ts k L n = cw ts k L i
  | 0, hn => by obtain rfl : i = 0 := by omega
                rfl
  | n + 1, hn => by
    by_cases e : i = n + 1
    · subst e; rfl
    · have := cw_stay h n (by omega)
      simp only [cw, this, h]
/-- Where a way stands. -/
structure CR (k : Nat) (ts : Nat → Tk) (E L : Nat → Int) (all : Int) (i : Nat) (l : List Nat) (e : Int) : Prop where
  way : cw ts k L i = (l, e)
  at_ : AtE k ts E L l.getLast? e
  lo : (i : Int) ≤ e
  hi : e ≤ all
  len : l.length ≤ i
  mem : ∀ x, x ∈ l → x < k
theorem CR.zero {k : Nat} {ts : Nat → Tk} {E L : Nat → Int} {all : Int} (h : Tm k ts E L all) : CR k ts E L all 0 [] 0 := ⟨rfl, rfl, by simp, h.a0, by simp, by simp⟩
theorem CR.next {k : Nat} {ts : Nat → Tk} {E L : Nat → Int} {all : Int} {i x : Nat} {l : List Nat} {e : Int} (hB : Bnd k ts) (h : Tm k ts E L all) (hc : CR k ts E L all i l e) (hf : fst (pC ts L l e) k = some x) : x < k ∧ CR k ts E L all (i + 1) (l ++ [x]) (e + (ts x).long) := by
  obtain ⟨hx, hp⟩ := fst_some hf
  unfold pC at hp
  rw [Bool.and_eq_true, decide_eq_true_eq, goB_iff hB hx] at hp
  have he := h.early hc.at_ hx hp.1 hp.2
  have h1 := h.lng x hx
  have h2 := h.l2 x
  refine ⟨hx, ?_, ?_, ?_, ?_, ?_, ?_⟩
  · simp only [cw, hc.way, hf]
  · rw [List.getLast?_concat]; exact AtE.step hx hp.1 he
  · have := hc.lo; omega
  · omega
  · have := hc.len; simp; exact this
  · intro y hy
    rcases List.mem_append.1 hy with hy | hy
    · exact hc.mem y hy
    · simp at hy; rw [hy]; exact hx
theorem CR.fin {k : Nat} {ts : Nat → Tk} {E L : Nat → Int} {all : Int} {i : Nat} {l : List Nat} {e : Int} (hc : CR k ts E L all i l e) (hf : fst (pC ts L l e) k = none) : (cw ts k L all.toNat).1 = l := by
  have h1 := hc.lo
  have h2 := hc.hi
  have := cw_stay (ts := ts) (k := k) (L := L) (i := i) (by rw [hc.way]; exact hf) all.toNat (by omega)
  rw [this, hc.way]
theorem CR.found {k : Nat} {ts : Nat → Tk} {E L : Nat → Int} {all : Int} {i : Nat} {l : List Nat} {e : Int} (hB : Bnd k ts) (h : Tm k ts E L all) (hc : CR k ts E L all i l e) (he : e < all) : fst (pC ts L l e) k ≠ none := by
  intro hn
  obtain ⟨x, hx, h1, h2⟩ := h.next hc.at_ he
  have := fst_none hn x hx
  unfold pC at this
  rw [decide_eq_true h1, (goB_iff hB hx).2 h2] at this
  cases this
theorem CR.ended {k : Nat} {ts : Nat → Tk} {E L : Nat → Int} {all : Int} {l : List Nat} {e : Int} (h : Tm k ts E L all) (he : ¬ e < all) : fst (pC ts L l e) k = none := by
  cases hf : fst (pC ts L l e) k with
  | none => rfl
  | some x =>
    obtain ⟨hx, hp⟩ := fst_some hf
    unfold pC at hp
    rw [Bool.and_eq_true, decide_eq_true_eq] at hp
    exact absurd hp.1 (h.stop he hx)
def lastI (l : List Nat) : Int := match l.getLast? with
  | none => -1
  | some y => (y : Int)
theorem lastI_snoc (l : List Nat) (x : Nat) : lastI (l ++ [x]) = (x : Int) := by unfold lastI; rw [List.getLast?_concat]
/-- The specification's condition. -/
theorem CR.spec {k : Nat} {ts : Nat → Tk} {E L : Nat → Int} {all : Int} {i x : Nat} {l : List Nat} {e : Int} (hB : Bnd k ts) (h : Tm k ts E L all) (hc : CR k ts E L all i l e) (hx : x < k) : pC ts L l e x = (decide (E x = e) && decide (L x = e) && goB ts l x) := by
  unfold pC
  cases hg : goB ts l x with
  | false => simp
  | true =>
    by_cases hl : L x = e
    · rw [decide_eq_true hl, decide_eq_true (h.early hc.at_ hx hl ((goB_iff hB hx).1 hg))]; rfl
    · rw [decide_eq_false hl]; simp
end M
end Go.Proofs.Ytkfnfgencaplfaa

/-
  slices.Reverse of a row of the call's own.
-/
import Derived.Test.YtpabnncfcklnpaaHoL
import Derived.Test.YtpabnncfcklnpaaAnsC
import Derived.Test.YtpabnncfcklnpaaShelf
namespace Go.Proofs.Ytpabnncfcklnpaa
open Go.RowKit M
open Clk (upd upd_same upd_other)
namespace M
/-- What a row of stores leaves. -/
def put (h : Nat → Value) (o : Nat) (vs : List Value) : Nat → Value := fun i => if o ≤ i then (vs[i - o]?).getD (h i) else h i
theorem put_nil (h : Nat → Value) (o : Nat) : put h o [] = h := by funext i; unfold put; split <;> simp
theorem put_cons (h : Nat → Value) (o : Nat) (v : Value) (vs : List Value) : put (upd h o v) (o + 1) vs = put h o (v :: vs) := by
  funext i
  unfold put upd
  by_cases h1 : i = o
  · subst h1
    rw [if_neg (by omega), if_pos rfl, if_pos (Nat.le_refl _)]; simp
  · by_cases h2 : o ≤ i
    · rw [if_pos (by omega), if_pos h2, if_neg h1, show i - o = (i - (o + 1)) + 1 by omega]; simp
    · rw [if_neg (by omega), if_neg h2, if_neg h1]
theorem Blk.setCells {g n : Nat} {t : TypeId} : ∀ (vs : List Value) (o : Nat) (h : Nat → Value) (w : World), Blk w g n h t → Blk (w.setCells g o vs) g n (put h o vs) t
  | [], o, h, w, hb => by rw [put_nil]; exact hb
  | v :: vs, o, h, w, hb => by
    rw [World.setCells, ← put_cons]
    exact Blk.setCells vs (o + 1) _ _ (hb.set o v)
theorem below_setCells {B g : Nat} (hg : B ≤ g) {a : World} : ∀ (vs : List Value) (o : Nat) (w : World), Below B a w → Below B a (w.setCells g o vs)
  | [], _, _, hb => hb
  | v :: vs, o, w, hb => by rw [World.setCells]; exact below_setCells hg vs (o + 1) _ (hb.setCell hg v)
end M
theorem reverse_own (B : Nat) (v : Value) (L : List Nat) (w : World) (h : w.ownsRow B 3 1 v L.length (L.map nv)) (hL : L.length ≤ 1048576) :
    Calls Try.prog 54 #[v] w fun e w' => e = .returned (.tuple #[]) ∧ AnsC w' B v L.length (at' L.reverse) ∧ Below B w w' := by
  rw [nv_range] at h
  rcases own_ansC h with ⟨rfl, h0⟩ | ⟨b, cap, rfl, hB, hc, k, hb, hk⟩
  · refine (Try.slices_Reverse_int_empty none 0 w).mono ?_
    rintro e w' ⟨rfl, rfl⟩
    exact ⟨rfl, .inl ⟨rfl, h0⟩, Below.refl _ _⟩
  · refine (Try.slices_Reverse_int_cells b 0 L.length cap (L.map fun t : Nat => (t : Int)) w (by simp) (by omega) (fun j hj => ?_) (fun j _ => hb.thaw _)).mono ?_
    · rw [List.length_map] at hj
      rw [Nat.zero_add, hb.cell (by omega), hk j hj]
      simp [at', hj]
    · rintro e w' ⟨rfl, q, rfl⟩
      have hb2 := Blk.setCells (t := 3) (((L.map fun t : Nat => (t : Int)).take L.length).reverse.map (Value.int .i64)) 0 k (w.drewN q) hb
      refine ⟨rfl, .inr ⟨b, cap, rfl, hB, hc, _, hb2, fun i hi => ?_⟩, below_setCells hB _ _ _ (below_drewN (Below.refl _ _) _)⟩
      unfold put
      rw [if_pos (Nat.zero_le _), Nat.sub_zero, List.take_of_length_le (by simp), ← List.map_reverse, List.map_map, List.getElem?_map, List.getElem?_eq_getElem (by simpa using hi)]
      simp [at', hi]
end Go.Proofs.Ytpabnncfcklnpaa

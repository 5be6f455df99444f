/-
  The table of a diagram, choice by choice. Plain mathematics, and the specification's l1In.
-/
import Derived.Test.YtfiooclkefmijaaDoorBddGE
namespace Go.Proofs.YtfiooclkefmijaaDoor
open Go.RowKit M
open Clk (upd upd_same upd_other)
namespace M
open Bdd
def GlC (l : List Ch) (n : Nat) (c : Ch) : Prop := OkC n c ∧ c.no ≠ c.yes ∧ ∀ (k : Nat) (d : Ch), l[k]? = some d → ((k : Int) = c.no ∨ (k : Int) = c.yes) → c.v < d.v
theorem gl_iff (l : List Ch) : Gl l ↔ ∀ (i : Nat) c, l[i]? = some c → GlC l i c := by
  constructor
  · intro h i c hc
    exact ⟨(wf_iff l).1 h.1 i c hc, (h.2 i c hc).1, (h.2 i c hc).2⟩
  · intro h
    exact ⟨(wf_iff l).2 (fun i c hc => (h i c hc).1), fun i c hc => ⟨(h i c hc).2.1, (h i c hc).2.2⟩⟩
/-- What one way of a choice adds. -/
def addT (l : List Ch) (t m : T) (k : Int) : T := if k = -1 then t ||| m else if 0 ≤ k then t ||| (m &&& dec l k) else t
theorem addT_get (l : List Ch) (t m : T) (k : Int) {b : Nat} (hb : b < 64) : (addT l t m k).getLsbD b = (t.getLsbD b || (m.getLsbD b && yes l k b)) := by
  unfold addT
  by_cases h1 : k = -1
  · subst h1
    rw [if_pos rfl, BitVec.getLsbD_or, yes_neg l (by omega)]
    simp
  · rw [if_neg h1]
    by_cases h2 : 0 ≤ k
    · rw [if_pos h2, BitVec.getLsbD_or, BitVec.getLsbD_and, dec_get l k hb]
    · rw [if_neg h2, yes_neg l (by omega)]
      simp [h1]
theorem addT_all {l : List Ch} {n : Nat} (hw : ∀ (i : Nat) c, i ≤ n → l[i]? = some c → OkC i c) {c : Ch} (hc : l[n]? = some c) {vn : Nat} (hv : c.v = (vn : Int)) : addT l (addT l 0 (~~~vt vn) c.no) (vt vn) c.yes = dec l (n : Int) := by
  have hlt : n < l.length := (List.getElem?_eq_some_iff.1 hc).1
  have hW : WF (l.take (n + 1)) := (wf_iff _).2 (fun i d hd => by
    have hi : i < n + 1 := by have := (List.getElem?_eq_some_iff.1 hd).1; rw [List.length_take] at this; omega
    rw [List.getElem?_take_of_lt hi] at hd
    exact hw i d (by omega) hd)
  have hlen : (l.take (n + 1)).length = n + 1 := by rw [List.length_take]; omega
  have hp : ∀ (k : Int) b, k < ((n + 1 : Nat) : Int) → yes l k b = yes (l.take (n + 1)) k b := fun k b hk => by
    have h := yes_pre (r := l.drop (n + 1)) hW b (n := k) (by rw [hlen]; exact hk)
    rw [List.take_append_drop] at h
    exact h
  have hc' : (l.take (n + 1))[n]? = some c := by rw [List.getElem?_take_of_lt (by omega)]; exact hc
  have hok := hw n c (Nat.le_refl _) hc
  have hvn : vn < 6 := by have := hok.2.1; omega
  apply t_ext
  intro b hb
  rw [addT_get _ _ _ _ hb, addT_get _ _ _ _ hb, dec_get _ _ hb, hp (n : Int) b (by omega), yes_at hW hc', hp c.no b (by have := hok.2.2.2.1; omega), hp c.yes b (by have := hok.2.2.2.2.2; omega)]
  unfold Ch.to
  rw [hv, Int.toNat_natCast, BitVec.getLsbD_not, vt_bit hb hvn]
  cases bitOf b vn <;> simp [hb]
theorem dec_no (l : List Ch) : dec l (-2) = 0 := t_ext fun b hb => by rw [dec_get l _ hb, yes_neg l (by omega)]; simp
theorem dec_yes (l : List Ch) : dec l (-1) = all1 := t_ext fun b hb => by rw [dec_get l _ hb, yes_neg l (by omega), all1_get hb]; rfl
/-- The tables of the first n choices, as a row. -/
def tbs (l : List Ch) (n : Nat) : List Value := (List.range n).map fun i : Nat => uv (dec l (i : Int))
theorem tbs_len (l : List Ch) (n : Nat) : (tbs l n).length = n := by simp [tbs]
theorem tbs_snoc (l : List Ch) (n : Nat) : tbs l (n + 1) = tbs l n ++ [uv (dec l (n : Int))] := by simp [tbs, List.range_succ]
theorem tbs_get {l : List Ch} {n k : Nat} (h : k < n) : (tbs l n)[k]? = some (uv (dec l (k : Int))) := by unfold tbs; rw [List.getElem?_map, List.getElem?_range h]; rfl
/-- What l7Of tells. -/
def OfA (l : List Ch) (r : Int) (e : Ending) : Prop := ∃ x b, e = .returned (.tuple #[uv x, .bool b]) ∧ (b = true ↔ Chk l r) ∧ (b = true → x = dec l r)
theorem ofA_no {l : List Ch} {r : Int} (x : T) (h : ¬ Chk l r) : OfA l r (.returned (.tuple #[uv x, .bool false])) := ⟨x, false, rfl, by simp [h], fun h => by cases h⟩
theorem ofA_yes {l : List Ch} {r : Int} {x : T} (h : Chk l r) (hx : x = dec l r) : OfA l r (.returned (.tuple #[uv x, .bool true])) := ⟨x, true, rfl, by simp [h], fun _ => hx⟩
end M
theorem l1_in (x a b : Int) (r : Bool) (h : decide (a ≤ x ∧ x ≤ b) = r) (w : World) :
    Calls Tryd.prog 48 #[.int .i64 x, .int .i64 a, .int .i64 b] w fun e w' => e = .returned (.bool r) ∧ w' = w := by
  by_cases h1 : a ≤ x
  · by_cases h2 : x ≤ b
    · obtain rfl : r = true := by rw [← h]; simp [h1, h2]
      clear h
      go_enter Tryd.func48, Tryd.ntmps48
      go_wp2
      go_ret
      exact ⟨rfl, rfl⟩
    · obtain rfl : r = false := by rw [← h]; simp [h2]
      clear h
      go_enter Tryd.func48, Tryd.ntmps48
      go_wp2
      go_ret
      exact ⟨rfl, rfl⟩
  · obtain rfl : r = false := by rw [← h]; simp [h1]
    clear h
    go_enter Tryd.func48, Tryd.ntmps48
    go_wp2
    go_ret
    exact ⟨rfl, rfl⟩
end Go.Proofs.YtfiooclkefmijaaDoor

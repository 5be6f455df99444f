/-
  The states in the midst of a round; by which rule each came. Plain mathematics.
-/
import Derived.Test.YtpabnncfcklnpaaHoK
namespace Go.Proofs.Ytpabnncfcklnpaa
namespace M
namespace Ho
open Clk (upd upd_same upd_other)
/-- What holds of every state, also in the midst. -/
structure WInv (s : Sta) : Prop where
  nd : (ns s.q).Nodup
  mem : ∀ x, s.inn x = true ↔ x ∈ ns s.q
  lt : ∀ x, x ∈ ns s.q → x < 40
theorem WInv.len {s : Sta} (h : WInv s) : s.q.length ≤ 40 := by rw [← ns_len]; exact nodup_len h.nd h.lt
theorem Inv.w {l : Nat → Rl} {k : Nat} {g : Nat → Bool} {s : Sta} (h : Inv l k g s) : WInv s := ⟨h.nd, h.mem, h.lt⟩
theorem winv_ini (l : Nat → Rl) : WInv (ini l) := (inv_ini l 0 (fun _ => false)).w
theorem WInv.come {s : Sta} (h : WInv s) {x : Nat} (o : Option Nat) (hx : x < 40) : WInv (come s x o) := by
  unfold Ho.come
  by_cases hi : s.inn x = true
  · rw [if_pos hi]; exact h
  · rw [if_neg hi]
    have hxq : ¬ x ∈ ns s.q := fun H => hi ((h.mem x).2 H)
    have hns : ns (s.q ++ [(x, o)]) = ns s.q ++ [x] := by simp [ns]
    refine ⟨?_, ?_, ?_⟩
    · show (ns (s.q ++ [(x, o)])).Nodup
      rw [hns, List.nodup_append]
      refine ⟨h.nd, by simp, ?_⟩
      intro a ha b hb
      simp at hb
      subst hb
      exact fun e => hxq (e ▸ ha)
    · intro y
      show upd s.inn x true y = true ↔ y ∈ ns (s.q ++ [(x, o)])
      rw [hns]
      by_cases e : y = x
      · subst e; rw [upd_same]; simp
      · rw [upd_other _ _ _ _ e, h.mem]; simp [e]
    · intro y hy
      have hy : y ∈ ns (s.q ++ [(x, o)]) := hy
      rw [hns] at hy
      simp at hy
      rcases hy with hy | rfl
      · exact h.lt y hy
      · exact hx
theorem WInv.les {s : Sta} (h : WInv s) (i : Nat) : WInv (les s i) := ⟨h.nd, h.mem, h.lt⟩
theorem WInv.hit {l : Nat → Rl} {s : Sta} (h : WInv s) {i : Nat} (hi : (l i).hd < 40) : WInv (hit l s i) := by
  unfold Ho.hit; split
  · exact (h.les i).come _ hi
  · exact h.les i
/-- The first j rules, those that wait for x. -/
def par (l : Nat → Rl) (s : Sta) (x : Nat) : Nat → Sta
  | 0 => s
  | j + 1 => if inb (l j) x then hit l (par l s x j) j else par l s x j
theorem par_is (l : Nat → Rl) (s : Sta) (x : Nat) : ∀ j, par l s x j = tak l j s x
  | 0 => by simp [par, tak, wts]
  | j + 1 => by
    unfold tak wts
    rw [List.range_succ, List.filter_append, List.foldl_append]
    show _ = ([j].filter fun i => inb (l i) x).foldl (hit l) (tak l j s x)
    simp only [par]
    rw [par_is l s x j]
    cases h : inb (l j) x <;> simp [h]
theorem hit_c (l : Nat → Rl) (s : Sta) (i : Nat) : (hit l s i).c = upd s.c i (s.c i - 1) ∧ (hit l s i).wk = s.wk + 1 := by
  unfold hit; split
  · unfold fireS; rw [(come_c _ _ _).1, (come_c _ _ _).2]; exact ⟨rfl, rfl⟩
  · exact ⟨rfl, rfl⟩
theorem par_c (l : Nat → Rl) (s : Sta) (x : Nat) : ∀ j i, j ≤ i → (par l s x j).c i = s.c i
  | 0, _, _ => rfl
  | j + 1, i, h => by
    simp only [par]; split
    · rw [(hit_c _ _ _).1, upd_other _ _ _ _ (by omega)]; exact par_c l s x j i (by omega)
    · exact par_c l s x j i (by omega)
theorem par_wk (l : Nat → Rl) (s : Sta) (x : Nat) : ∀ j, (par l s x j).wk ≤ s.wk + j
  | 0 => Nat.le_refl _
  | j + 1 => by
    have := par_wk l s x j
    simp only [par]; split
    · rw [(hit_c _ _ _).2]; omega
    · omega
theorem par_ext (l : Nat → Rl) (s : Sta) (x : Nat) : ∀ j, Ext s (par l s x j)
  | 0 => Ext.refl _
  | j + 1 => by
    simp only [par]; split
    · exact (par_ext l s x j).trans (ext_hit _ _ _)
    · exact par_ext l s x j
theorem par_w {l : Nat → Rl} {k : Nat} (hg : GR k l) {s : Sta} (h : WInv s) (x : Nat) : ∀ j, j ≤ k → WInv (par l s x j)
  | 0, _ => h
  | j + 1, hj => by
    have := par_w hg h x j (by omega)
    simp only [par]; split
    · exact this.hit (hg j (by omega)).1
    · exact this
theorem unt_le (T : Nat → Bool) (b : Nat → Nat) : ∀ m, unm T b m ≤ m
  | 0 => Nat.le_refl _
  | m + 1 => by have := unt_le T b m; simp only [unm]; split <;> omega
theorem mn_wk (l : Nat → Rl) (k : Nat) (s : Sta) : ∀ t, (mn l k s t).wk ≤ s.wk + t * k
  | 0 => by show s.wk ≤ _; omega
  | t + 1 => by
    have := mn_wk l k s t
    simp only [mn]
    rw [Nat.succ_mul]
    split
    · rw [← par_is]; have := par_wk l (mn l k s t) (by assumption : Nat × Option Nat).1 k; omega
    · omega
/-- By which rule each came: g the facts. -/
structure ByI (g : Nat → Bool) (q : List (Nat × Option Nat)) (b : Nat → Int) : Prop where
  all : ∀ e, e ∈ q → (g e.1 = true → b e.1 = -1) ∧ (g e.1 = false → ∃ i : Nat, e.2 = some i ∧ b e.1 = (i : Int))
  sub : ∀ x, g x = true → x ∈ ns q
theorem ByI.nil0 (b : Nat → Int) : ByI (fun _ => false) [] b := ⟨fun e h => by simp at h, fun x h => by cases h⟩
theorem ByI.fire {g : Nat → Bool} {s : Sta} {b : Nat → Int} (h : ByI g s.q b) (hw : WInv s) {x i : Nat} (hx : s.inn x = false) : ByI g (s.q ++ [(x, some i)]) (upd b x (i : Int)) := by
  have hxq : ¬ x ∈ ns s.q := fun H => by rw [(hw.mem x).2 H] at hx; cases hx
  refine ⟨fun e he => ?_, fun y hy => by rw [ns_append]; exact List.mem_append_left _ (h.sub y hy)⟩
  simp at he
  rcases he with he | rfl
  · have hne : e.1 ≠ x := fun e' => hxq (e' ▸ List.mem_map_of_mem he)
    rw [upd_other _ _ _ _ hne]; exact h.all e he
  · refine ⟨fun hgx => absurd (h.sub x hgx) hxq, fun _ => ⟨i, rfl, upd_same _ _ _⟩⟩
theorem ByI.fact {g : Nat → Bool} {s : Sta} {b : Nat → Int} (h : ByI g s.q b) (hw : WInv s) (x : Nat) : ByI (upd g x true) (come s x none).q (upd b x (-1)) := by
  have key : ∀ q, (∀ e, e ∈ q → e ∈ s.q ∨ e.1 = x) → (∀ y, y ∈ ns s.q → y ∈ ns q) → x ∈ ns q → ByI (upd g x true) q (upd b x (-1)) := by
    intro q h1 h2 h3
    refine ⟨fun e he => ?_, fun y hy => ?_⟩
    · by_cases e' : e.1 = x
      · rw [e', upd_same, upd_same]; exact ⟨fun _ => rfl, fun h => by cases h⟩
      · rw [upd_other _ _ _ _ e', upd_other _ _ _ _ e']
        rcases h1 e he with h4 | h4
        · exact h.all e h4
        · exact absurd h4 e'
    · by_cases e' : y = x
      · rw [e']; exact h3
      · rw [upd_other _ _ _ _ e'] at hy; exact h2 y (h.sub y hy)
  unfold come
  by_cases hi : s.inn x = true
  · rw [if_pos hi]; exact key s.q (fun e he => .inl he) (fun y hy => hy) ((hw.mem x).1 hi)
  · rw [if_neg hi]
    refine key _ (fun e he => ?_) (fun y hy => ?_) ?_
    · simp at he
      rcases he with he | rfl
      · exact .inl he
      · exact .inr rfl
    · show y ∈ ns (s.q ++ [(x, Option.none)]); rw [ns_append]; exact List.mem_append_left _ hy
    · show x ∈ ns (s.q ++ [(x, Option.none)]); rw [ns_append]; simp [ns]
end Ho
end M
end Go.Proofs.Ytpabnncfcklnpaa

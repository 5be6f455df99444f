/-
  Decisions of six variables as tables of 64 bits, the choices that tell them, each kept once, and why two ways to gather them gather the same. Plain mathematics.
-/
import Derived.RowKit
namespace Go.Proofs.YtfiooclkefmijaaDoor
namespace M
namespace Bdd
abbrev T := BitVec 64
/-- The table of a variable. -/
def vn : Nat → Nat
  | 0 => 0xaaaaaaaaaaaaaaaa
  | 1 => 0xcccccccccccccccc
  | 2 => 0xf0f0f0f0f0f0f0f0
  | 3 => 0xff00ff00ff00ff00
  | 4 => 0xffff0000ffff0000
  | _ => 0xffffffff00000000
def vt (v : Nat) : T := BitVec.ofNat 64 (vn v)
def bitOf (n v : Nat) : Bool := n / 2 ^ v % 2 == 1
/-- The bits n with the one of v so. -/
def sb (n v : Nat) (b : Bool) : Nat := n - n / 2 ^ v % 2 * 2 ^ v + (if b then 2 ^ v else 0)
theorem vt_get : ∀ v : Fin 6, ∀ n : Fin 64, (vt v.val).getLsbD n.val = bitOf n.val v.val := by decide +kernel
theorem sb_lt' : ∀ v : Fin 6, ∀ n : Fin 64, ∀ b : Bool, sb n.val v.val b < 64 := by decide +kernel
theorem sb_sb' : ∀ v : Fin 6, ∀ n : Fin 64, ∀ b c : Bool, sb (sb n.val v.val c) v.val b = sb n.val v.val b := by decide +kernel
theorem sb_swap' : ∀ v u : Fin 6, ∀ n : Fin 64, ∀ b c : Bool, u ≠ v → sb (sb n.val u.val c) v.val b = sb (sb n.val v.val b) u.val c := by decide +kernel
theorem sb_own' : ∀ v : Fin 6, ∀ n : Fin 64, sb n.val v.val (bitOf n.val v.val) = n.val := by decide +kernel
theorem sb_none' : ∀ n : Fin 64, sb (sb (sb (sb (sb (sb n.val 0 false) 1 false) 2 false) 3 false) 4 false) 5 false = 0 := by decide +kernel
theorem sb_yes' : ∀ v : Fin 6, ∀ n : Fin 64, sb n.val v.val true = (if bitOf n.val v.val then n.val else n.val + 2 ^ v.val) := by decide +kernel
theorem sb_no' : ∀ v : Fin 6, ∀ n : Fin 64, sb n.val v.val false = (if bitOf n.val v.val then n.val - 2 ^ v.val else n.val) := by decide +kernel
theorem bit_up' : ∀ v : Fin 6, ∀ n : Fin 64, n.val + 2 ^ v.val < 64 → bitOf (n.val + 2 ^ v.val) v.val = !bitOf n.val v.val := by decide +kernel
theorem bit_down' : ∀ v : Fin 6, ∀ n : Fin 64, 2 ^ v.val ≤ n.val → bitOf (n.val - 2 ^ v.val) v.val = !bitOf n.val v.val := by decide +kernel
theorem bit_big' : ∀ v : Fin 6, ∀ n : Fin 64, (bitOf n.val v.val = true → 2 ^ v.val ≤ n.val) ∧ (bitOf n.val v.val = false → n.val + 2 ^ v.val < 64) := by decide +kernel
section
variable {n v : Nat} (hn : n < 64) (hv : v < 6)
include hn hv
theorem vt_bit : (vt v).getLsbD n = bitOf n v := vt_get ⟨v, hv⟩ ⟨n, hn⟩
theorem sb_lt (b : Bool) : sb n v b < 64 := sb_lt' ⟨v, hv⟩ ⟨n, hn⟩ b
theorem sb_sb (b c : Bool) : sb (sb n v c) v b = sb n v b := sb_sb' ⟨v, hv⟩ ⟨n, hn⟩ b c
theorem sb_swap {u : Nat} (hu : u < 6) (h : u ≠ v) (b c : Bool) : sb (sb n u c) v b = sb (sb n v b) u c := sb_swap' ⟨v, hv⟩ ⟨u, hu⟩ ⟨n, hn⟩ b c (by simp [h])
theorem sb_own : sb n v (bitOf n v) = n := sb_own' ⟨v, hv⟩ ⟨n, hn⟩
end
/-- The table where the variable v is so. -/
def hf (t : T) (v : Nat) (yes : Bool) : T := if yes then (t &&& vt v) ||| ((t &&& vt v) >>> (2 ^ v)) else (t &&& ~~~vt v) ||| ((t &&& ~~~vt v) <<< (2 ^ v))
theorem hf_get (t : T) {n v : Nat} (hn : n < 64) (hv : v < 6) (yes : Bool) : (hf t v yes).getLsbD n = t.getLsbD (sb n v yes) := by
  have hb := bit_big' ⟨v, hv⟩ ⟨n, hn⟩
  simp only at hb
  have hsub : n - 2 ^ v < 64 := Nat.lt_of_le_of_lt (Nat.sub_le _ _) hn
  cases yes
  · have h0 := sb_no' ⟨v, hv⟩ ⟨n, hn⟩
    simp only at h0
    simp only [hf, Bool.false_eq_true, if_false, BitVec.getLsbD_or, BitVec.getLsbD_and, BitVec.getLsbD_shiftLeft, BitVec.getLsbD_not, vt_bit hn hv, hn, decide_true, Bool.true_and]
    rw [h0]
    cases hc : bitOf n v
    · rw [hc] at hb
      have h2 := hb.2 rfl
      simp only [Bool.not_false, Bool.and_true, Bool.false_eq_true, if_false]
      by_cases hle : n < 2 ^ v
      · simp [hle]
      · have hd := bit_down' ⟨v, hv⟩ ⟨n, hn⟩ (by simp only; omega)
        simp only [hc, Bool.not_false] at hd
        simp [hle, vt_bit hsub hv, hd]
    · rw [hc] at hb
      have h1 := hb.1 rfl
      have hd := bit_down' ⟨v, hv⟩ ⟨n, hn⟩ h1
      simp only [hc, Bool.not_true] at hd
      have : ¬ n < 2 ^ v := by omega
      have hx := vt_bit hsub hv
      rw [hd] at hx
      simp only [this, hx, hsub, decide_false, decide_true, Bool.not_false, Bool.not_true, Bool.true_and, Bool.and_true, Bool.and_false, Bool.false_or, if_true]
  · have h0 := sb_yes' ⟨v, hv⟩ ⟨n, hn⟩
    simp only at h0
    simp only [hf, if_true, BitVec.getLsbD_or, BitVec.getLsbD_and, BitVec.getLsbD_ushiftRight, vt_bit hn hv]
    rw [h0]
    cases hc : bitOf n v
    · rw [hc] at hb
      have h2 := hb.2 rfl
      have hd := bit_up' ⟨v, hv⟩ ⟨n, hn⟩ h2
      simp only [hc, Bool.not_false] at hd
      rw [Nat.add_comm (2 ^ v) n, vt_bit h2 hv, hd]
      simp
    · by_cases hlt : n + 2 ^ v < 64
      · have hd := bit_up' ⟨v, hv⟩ ⟨n, hn⟩ hlt
        simp only [hc, Bool.not_true] at hd
        rw [Nat.add_comm (2 ^ v) n, vt_bit hlt hv, hd]
        simp
      · have : t.getLsbD (n + 2 ^ v) = false := BitVec.getLsbD_of_ge _ _ (by omega)
        rw [Nat.add_comm (2 ^ v) n, this]
        simp
theorem t_ext {t u : T} (h : ∀ n, n < 64 → t.getLsbD n = u.getLsbD n) : t = u := BitVec.eq_of_getLsbD_eq fun i hi => h i hi
/-- The variable u has no say. -/
def Ind (t : T) (u : Nat) : Prop := ∀ n, n < 64 → ∀ b, t.getLsbD (sb n u b) = t.getLsbD n
theorem Ind.hf_eq {t : T} {v : Nat} (hv : v < 6) (h : Ind t v) (b : Bool) : hf t v b = t := t_ext fun n hn => by rw [hf_get t hn hv, h n hn]
theorem ind_of_eq {t : T} {v : Nat} (hv : v < 6) (h : hf t v false = hf t v true) : Ind t v := fun n hn b => by
  have key : ∀ c d : Bool, t.getLsbD (sb n v c) = t.getLsbD (sb n v d) := fun c d => by
    rw [← hf_get t hn hv, ← hf_get t hn hv]
    cases c <;> cases d <;> simp [h]
  rw [key b (bitOf n v), sb_own hn hv]
theorem ind_hf (t : T) {v : Nat} (hv : v < 6) (b : Bool) : Ind (hf t v b) v := fun n hn c => by
  rw [hf_get t (sb_lt hn hv c) hv, hf_get t hn hv, sb_sb hn hv]
theorem Ind.keep {t : T} {u v : Nat} (hu : u < 6) (hv : v < 6) (h : Ind t u) (b : Bool) : Ind (hf t v b) u := fun n hn c => by
  by_cases e : u = v
  · subst e; exact ind_hf t hv b n hn c
  · rw [hf_get t (sb_lt hn hu c) hv, hf_get t hn hv, sb_swap hn hv hu e]
    exact h _ (sb_lt hn hv b) c
def all1 : T := BitVec.allOnes 64
theorem all1_get {n : Nat} (hn : n < 64) : all1.getLsbD n = true := by unfold all1; rw [BitVec.getLsbD_allOnes]; simp [hn]
theorem none_left {t : T} (h : ∀ u, u < 6 → Ind t u) : t = 0 ∨ t = all1 := by
  have key : ∀ n, n < 64 → t.getLsbD n = t.getLsbD 0 := fun n hn => by
    have a0 := sb_lt hn (show 0 < 6 by omega) false
    have a1 := sb_lt a0 (show 1 < 6 by omega) false
    have a2 := sb_lt a1 (show 2 < 6 by omega) false
    have a3 := sb_lt a2 (show 3 < 6 by omega) false
    have a4 := sb_lt a3 (show 4 < 6 by omega) false
    have e := sb_none' ⟨n, hn⟩
    simp only at e
    rw [← e, h 5 (by omega) _ a4, h 4 (by omega) _ a3, h 3 (by omega) _ a2, h 2 (by omega) _ a1, h 1 (by omega) _ a0, h 0 (by omega) _ hn]
  cases hc : t.getLsbD 0
  · exact .inl (t_ext fun n hn => by rw [key n hn, hc]; simp)
  · exact .inr (t_ext fun n hn => by rw [key n hn, hc, all1_get hn])
/-- A choice, and the node at which one goes on. -/
structure Ch where
  v : Int
  no : Int
  yes : Int
deriving DecidableEq
def Ch.to (c : Ch) (b : Nat) : Int := if bitOf b c.v.toNat then c.yes else c.no
/-- Where one comes to, at some bits. -/
def cty (l : List Ch) : Nat → Int → Nat → Bool
  | 0, n, _ => n == -1
  | f + 1, n, b => if n < 0 then n == -1 else match l[n.toNat]? with
    | none => false
    | some c => cty l f (c.to b) b
/-- One always comes to an end. -/
def WF (l : List Ch) : Prop := ∀ (i : Nat) (c : Ch), l[i]? = some c → 0 ≤ c.v ∧ c.v < 6 ∧ -2 ≤ c.no ∧ c.no < (i : Int) ∧ -2 ≤ c.yes ∧ c.yes < (i : Int)
theorem WF.to {l : List Ch} (h : WF l) {i : Nat} {c : Ch} (hc : l[i]? = some c) (b : Nat) : -2 ≤ c.to b ∧ c.to b < (i : Int) := by
  obtain ⟨_, _, h1, h2, h3, h4⟩ := h i c hc
  unfold Ch.to; split <;> exact ⟨by assumption, by assumption⟩
theorem cty_more {l : List Ch} (h : WF l) (b : Nat) : ∀ (f : Nat) (n : Int), n < (l.length : Int) → n < (f : Int) → cty l (f + 1) n b = cty l f n b := by
  intro f
  induction f with
  | zero => intro n _ hf; simp [cty, show n < 0 by omega]
  | succ f ih =>
    intro n hn hf
    rw [cty, cty]
    by_cases h0 : n < 0
    · simp [h0]
    · rw [if_neg h0, if_neg h0]
      cases hc : l[n.toNat]? with
      | none => rfl
      | some c =>
        have hb := h.to hc b
        exact ih _ (by omega) (by omega)
theorem cty_at {l : List Ch} (h : WF l) (b : Nat) {f g : Nat} {n : Int} (hn : n < (l.length : Int)) (hf : n < (f : Int)) (hg : n < (g : Int)) : cty l f n b = cty l g n b := by
  have up : ∀ (k f : Nat), n < (f : Int) → cty l (f + k) n b = cty l f n b := by
    intro k
    induction k with
    | zero => intro f _; rfl
    | succ k ih => intro f hf; rw [show f + (k + 1) = (f + k) + 1 by omega, cty_more h b _ _ hn (by omega), ih f hf]
  rcases Nat.le_total f g with hle | hle
  · rw [show g = f + (g - f) by omega, up _ f hf]
  · rw [show f = g + (f - g) by omega, up _ g hg]
/-- Whether node n comes to yes. -/
def yes (l : List Ch) (n : Int) (b : Nat) : Bool := cty l (n + 1).toNat n b
theorem yes_neg (l : List Ch) {n : Int} (h : n < 0) (b : Nat) : yes l n b = (n == -1) := by
  unfold yes
  rw [show (n + 1).toNat = 0 by omega]; rfl
theorem yes_at {l : List Ch} (h : WF l) {i : Nat} {c : Ch} (hc : l[i]? = some c) (b : Nat) : yes l (i : Int) b = yes l (c.to b) b := by
  have hi : i < l.length := (List.getElem?_eq_some_iff.1 hc).1
  have hb := h.to hc b
  unfold yes
  rw [show ((i : Int) + 1).toNat = i + 1 by omega, cty, if_neg (by omega), show ((i : Int)).toNat = i by omega, hc]
  exact cty_at h b (by omega) (by omega) (by omega)
theorem cty_pre {l r : List Ch} (h : WF l) (b : Nat) : ∀ (f : Nat) (n : Int), n < (l.length : Int) → cty (l ++ r) f n b = cty l f n b := by
  intro f
  induction f with
  | zero => intro n _; rfl
  | succ f ih =>
    intro n hn
    rw [cty, cty]
    by_cases h0 : n < 0
    · simp [h0]
    · rw [if_neg h0, if_neg h0, List.getElem?_append_left (by omega)]
      cases hc : l[n.toNat]? with
      | none => rfl
      | some c =>
        have hb := h.to hc b
        exact ih _ (by omega)
theorem yes_pre {l r : List Ch} (h : WF l) (b : Nat) {n : Int} (hn : n < (l.length : Int)) : yes (l ++ r) n b = yes l n b := cty_pre h b _ _ hn
/-- Good choices: besides, No and Yes are unlike, and what is below has a greater variable. -/
def Gl (l : List Ch) : Prop := WF l ∧ ∀ (i : Nat) (c : Ch), l[i]? = some c → c.no ≠ c.yes ∧ ∀ (k : Nat) (d : Ch), l[k]? = some d → ((k : Int) = c.no ∨ (k : Int) = c.yes) → c.v < d.v
theorem Gl.snoc {l : List Ch} (h : Gl l) {c : Ch} (h1 : 0 ≤ c.v) (h2 : c.v < 6) (h3 : -2 ≤ c.no ∧ c.no < (l.length : Int)) (h4 : -2 ≤ c.yes) (h5 : c.yes < (l.length : Int)) (hne : c.no ≠ c.yes)
    (hk : ∀ (k : Nat) (d : Ch), l[k]? = some d → ((k : Int) = c.no ∨ (k : Int) = c.yes) → c.v < d.v) : Gl (l ++ [c]) := by
  have wf : WF (l ++ [c]) := fun i d hd => by
    rcases Nat.lt_or_ge i l.length with hi | hi
    · rw [List.getElem?_append_left hi] at hd; exact h.1 i d hd
    · have hi' : i = l.length := by have := (List.getElem?_eq_some_iff.1 hd).1; simp only [List.length_append, List.length_cons, List.length_nil] at this; omega
      subst hi'
      simp only [List.getElem?_append_right (Nat.le_refl _), Nat.sub_self, List.getElem?_cons_zero, Option.some.injEq] at hd
      subst hd
      exact ⟨h1, h2, h3.1, h3.2, h4, h5⟩
  refine ⟨wf, fun i d hd => ?_⟩
  rcases Nat.lt_or_ge i l.length with hi | hi
  · rw [List.getElem?_append_left hi] at hd
    have hw := h.1 i d hd
    refine ⟨(h.2 i d hd).1, fun k e he hke => ?_⟩
    have : k < l.length := by omega
    rw [List.getElem?_append_left this] at he
    exact (h.2 i d hd).2 k e he hke
  · have hi' : i = l.length := by have := (List.getElem?_eq_some_iff.1 hd).1; simp only [List.length_append, List.length_cons, List.length_nil] at this; omega
    subst hi'
    simp only [List.getElem?_append_right (Nat.le_refl _), Nat.sub_self, List.getElem?_cons_zero, Option.some.injEq] at hd
    subst hd
    refine ⟨hne, fun k e he hke => ?_⟩
    have : k < l.length := by omega
    rw [List.getElem?_append_left this] at he
    exact hk k e he hke
/-- A choice is kept once. -/
def put (c : Ch) (l : List Ch) : Int × List Ch := if c ∈ l then ((l.idxOf c : Nat), l) else (l.length, l ++ [c])
theorem put_pre (c : Ch) (l : List Ch) : ∃ r, (put c l).2 = l ++ r ∧ r.length ≤ 1 ∧ ∀ d ∈ r, d = c := by
  unfold put; split
  · exact ⟨[], by simp⟩
  · exact ⟨[c], by simp⟩
theorem put_at (c : Ch) (l : List Ch) : ∃ i : Nat, (put c l).1 = (i : Int) ∧ (put c l).2[i]? = some c := by
  unfold put; split
  next h => exact ⟨l.idxOf c, rfl, by rw [List.getElem?_eq_getElem (List.idxOf_lt_length_of_mem h)]; simp⟩
  next => exact ⟨l.length, rfl, by simp⟩
theorem put_again (c : Ch) (l r : List Ch) : put c ((put c l).2 ++ r) = ((put c l).1, (put c l).2 ++ r) := by
  unfold put
  by_cases h : c ∈ l
  · rw [if_pos h, if_pos (by simp [h])]
    simp [List.idxOf_append, h]
  · rw [if_neg h, if_pos (by simp)]
    simp [List.idxOf_append, h]
/-- The choices of a table: where a variable has no say it is passed by. -/
def bld : Nat → T → Nat → List Ch → Int × List Ch
  | 0, t, _, l => (if t = 0 then -2 else -1, l)
  | k + 1, t, v, l =>
    if t = 0 then (-2, l) else if t = all1 then (-1, l) else
    if hf t v false = hf t v true then bld k t (v + 1) l else
    put ⟨v, (bld k (hf t v false) (v + 1) l).1, (bld k (hf t v true) (v + 1) (bld k (hf t v false) (v + 1) l).2).1⟩ (bld k (hf t v true) (v + 1) (bld k (hf t v false) (v + 1) l).2).2
/-- The same, asked of the nodes that come. -/
def nod : Nat → T → Nat → List Ch → Int × List Ch
  | 0, t, _, l => (if t = 0 then -2 else -1, l)
  | k + 1, t, v, l =>
    if t = 0 then (-2, l) else if t = all1 then (-1, l) else
    if (nod k (hf t v false) (v + 1) l).1 = (nod k (hf t v true) (v + 1) (nod k (hf t v false) (v + 1) l).2).1 then ((nod k (hf t v false) (v + 1) l).1, (nod k (hf t v true) (v + 1) (nod k (hf t v false) (v + 1) l).2).2) else
    put ⟨v, (nod k (hf t v false) (v + 1) l).1, (nod k (hf t v true) (v + 1) (nod k (hf t v false) (v + 1) l).2).1⟩ (nod k (hf t v true) (v + 1) (nod k (hf t v false) (v + 1) l).2).2
/-- What is known of the choices of a table. -/
structure Ok (k : Nat) (t : T) (v : Nat) (l : List Ch) (o : Int × List Ch) : Prop where
  pre : ∃ r, o.2 = l ++ r ∧ r.length + 1 ≤ 2 ^ k ∧ ∀ c ∈ r, (v : Int) ≤ c.v
  node : -2 ≤ o.1 ∧ o.1 < (o.2.length : Int) ∧ ∀ (i : Nat) (c : Ch), (i : Int) = o.1 → o.2[i]? = some c → (v : Int) ≤ c.v
  good : Gl o.2
  says : ∀ b, b < 64 → yes o.2 o.1 b = t.getLsbD b
  same : ∀ r, bld k t v (o.2 ++ r) = (o.1, o.2 ++ r)
theorem all1_ne : ¬ all1 = 0#64 := by decide
theorem bld_ok : ∀ (k : Nat) (t : T) (v : Nat) (l : List Ch), k + v = 6 → (∀ u, u < v → Ind t u) → Gl l → Ok k t v l (bld k t v l) := by
  have no_case : ∀ (k : Nat) (v : Nat) (l : List Ch), Gl l → bld k 0 v l = (-2, l) → (∀ r, bld k 0 v (l ++ r) = (-2, l ++ r)) → Ok k 0 v l (bld k 0 v l) := fun k v l hl h hr => by
    rw [h]
    exact ⟨⟨[], by simp, by simpa using Nat.one_le_two_pow, by simp⟩, ⟨by simp, by simp only; omega, fun i c hi => by simp only at hi; omega⟩, hl, fun b _ => by rw [yes_neg _ (by simp)]; simp, hr⟩
  have yes_case : ∀ (k : Nat) (v : Nat) (l : List Ch), Gl l → bld k all1 v l = (-1, l) → (∀ r, bld k all1 v (l ++ r) = (-1, l ++ r)) → Ok k all1 v l (bld k all1 v l) := fun k v l hl h hr => by
    rw [h]
    exact ⟨⟨[], by simp, by simpa using Nat.one_le_two_pow, by simp⟩, ⟨by simp, by simp only; omega, fun i c hi => by simp only at hi; omega⟩, hl, fun b hb => by rw [yes_neg _ (by simp), all1_get hb]; simp, hr⟩
  intro k
  induction k with
  | zero =>
    intro t v l hk hi hl
    rcases none_left (t := t) (fun u hu => hi u (by omega)) with h | h
    · subst h; exact no_case 0 v l hl (by simp [bld]) (fun r => by simp [bld])
    · subst h; exact yes_case 0 v l hl (by simp [bld, all1_ne]) (fun r => by simp [bld, all1_ne])
  | succ k ih =>
    intro t v l hk hi hl
    by_cases h0 : t = 0
    · subst h0; exact no_case _ v l hl (by simp [bld]) (fun r => by simp [bld])
    by_cases h1 : t = all1
    · subst h1; exact yes_case _ v l hl (by simp [bld, all1_ne]) (fun r => by simp [bld, all1_ne])
    have hv : v < 6 := by omega
    by_cases he : hf t v false = hf t v true
    · have hb : ∀ l, bld (k + 1) t v l = bld k t (v + 1) l := fun l => by rw [bld, if_neg h0, if_neg h1, if_pos he]
      rw [hb l]
      have hI := ind_of_eq hv he
      have o := ih t (v + 1) l (by omega) (fun u hu => by
        by_cases e : u = v
        · subst e; exact hI
        · exact hi u (by omega)) hl
      obtain ⟨⟨r, p1, p2, p3⟩, ⟨q1, q2, q3⟩, g, s, sm⟩ := o
      refine ⟨⟨r, p1, by rw [Nat.pow_succ]; omega, fun c hc => by have := p3 c hc; omega⟩, ⟨q1, q2, fun i c a b => by have := q3 i c a b; omega⟩, g, s, fun r => ?_⟩
      rw [hb, sm r]
    · have hn : ∀ u, u < v + 1 → Ind (hf t v false) u := fun u hu => by
        by_cases e : u = v
        · subst e; exact ind_hf t hv _
        · exact (hi u (by omega)).keep (by omega) hv _
      have hy : ∀ u, u < v + 1 → Ind (hf t v true) u := fun u hu => by
        by_cases e : u = v
        · subst e; exact ind_hf t hv _
        · exact (hi u (by omega)).keep (by omega) hv _
      have o1 := ih _ (v + 1) l (by omega) hn hl
      have o2 := ih _ (v + 1) _ (by omega) hy o1.good
      have hb : ∀ l, bld (k + 1) t v l = put ⟨v, (bld k (hf t v false) (v + 1) l).1, (bld k (hf t v true) (v + 1) (bld k (hf t v false) (v + 1) l).2).1⟩ (bld k (hf t v true) (v + 1) (bld k (hf t v false) (v + 1) l).2).2 := fun l => by
        rw [bld, if_neg h0, if_neg h1, if_neg he]
      rw [hb l]
      generalize bld k (hf t v false) (v + 1) l = A at o1 o2 ⊢
      generalize bld k (hf t v true) (v + 1) A.2 = B at o2 ⊢
      obtain ⟨r1, e1, n1, c1⟩ := o1.pre
      obtain ⟨r2, e2, n2, c2⟩ := o2.pre
      have w2 := o2.good.1
      have hlen : A.2.length ≤ B.2.length := by rw [e2, List.length_append]; omega
      have hAB : ∀ b, yes B.2 A.1 b = yes A.2 A.1 b := fun b => by rw [e2]; exact yes_pre o1.good.1 b o1.node.2.1
      have hne : A.1 ≠ B.1 := fun e => he (t_ext fun b hb => by rw [← o1.says b hb, ← o2.says b hb, ← hAB b, e])
      have g2 : Gl (put ⟨v, A.1, B.1⟩ B.2).2 := by
        unfold put; split
        · exact o2.good
        · refine Gl.snoc o2.good ?_ ?_ ?_ ?_ ?_ hne ?_
          · simp only; omega
          · simp only; omega
          · exact ⟨o1.node.1, by have := o1.node.2.1; simp only; omega⟩
          · exact o2.node.1
          · exact o2.node.2.1
          · intro i d hd hi
            simp only at hi ⊢
            rcases hi with hi | hi
            · have : i < A.2.length := by have := o1.node.2.1; omega
              have hd' : A.2[i]? = some d := by rw [e2, List.getElem?_append_left this] at hd; exact hd
              have := o1.node.2.2 i d hi hd'; omega
            · have := o2.node.2.2 i d hi hd; omega
      obtain ⟨r3, e3, n3, c3⟩ := put_pre ⟨v, A.1, B.1⟩ B.2
      obtain ⟨i, hi1, hi2⟩ := put_at ⟨v, A.1, B.1⟩ B.2
      have hL : (put ⟨v, A.1, B.1⟩ B.2).2 = l ++ (r1 ++ (r2 ++ r3)) := by rw [e3, e2, e1]; simp
      refine ⟨⟨_, hL, ?_, ?_⟩, ⟨?_, ?_, ?_⟩, g2, ?_, ?_⟩
      · simp only [List.length_append, Nat.pow_succ]; omega
      · intro c hc
        simp only [List.mem_append] at hc
        rcases hc with h | h | h
        · have := c1 c h; omega
        · have := c2 c h; omega
        · rw [c3 c h]; exact Int.le_refl _
      · rw [hi1]; omega
      · rw [hi1]; have := (List.getElem?_eq_some_iff.1 hi2).1; omega
      · intro j c hj hc
        have : j = i := by omega
        subst this
        rw [hi2] at hc; injection hc with hc; subst hc; exact Int.le_refl _
      · intro b hb
        rw [hi1, yes_at g2.1 hi2]
        have hto : Ch.to ⟨v, A.1, B.1⟩ b = if bitOf b v then B.1 else A.1 := by simp [Ch.to]
        rw [hto]
        cases hc : bitOf b v
        · simp only [Bool.false_eq_true, if_false]
          rw [e3, yes_pre w2 b (by have := o1.node.2.1; omega), hAB, o1.says b hb, hf_get t hb hv, ← hc, sb_own hb hv]
        · simp only [if_true]
          rw [e3, yes_pre w2 b o2.node.2.1, o2.says b hb, hf_get t hb hv, ← hc, sb_own hb hv]
      · intro r
        have k1 : bld k (hf t v false) (v + 1) ((put ⟨v, A.1, B.1⟩ B.2).2 ++ r) = (A.1, (put ⟨v, A.1, B.1⟩ B.2).2 ++ r) := by
          have := o1.same (r2 ++ (r3 ++ r))
          rw [show A.2 ++ (r2 ++ (r3 ++ r)) = (put ⟨v, A.1, B.1⟩ B.2).2 ++ r by rw [e3, e2]; simp] at this
          exact this
        have k2 : bld k (hf t v true) (v + 1) ((put ⟨v, A.1, B.1⟩ B.2).2 ++ r) = (B.1, (put ⟨v, A.1, B.1⟩ B.2).2 ++ r) := by
          have := o2.same (r3 ++ r)
          rw [show B.2 ++ (r3 ++ r) = (put ⟨v, A.1, B.1⟩ B.2).2 ++ r by rw [e3]; simp] at this
          exact this
        rw [hb, k1]
        simp only
        rw [k2]
        exact put_again _ _ _
theorem nod_eq : ∀ (k : Nat) (t : T) (v : Nat) (l : List Ch), k + v = 6 → (∀ u, u < v → Ind t u) → Gl l → nod k t v l = bld k t v l := by
  intro k
  induction k with
  | zero => intro t v l _ _ _; rfl
  | succ k ih =>
    intro t v l hk hi hl
    rw [nod, bld]
    by_cases h0 : t = 0
    · rw [if_pos h0, if_pos h0]
    by_cases h1 : t = all1
    · rw [if_neg h0, if_neg h0, if_pos h1, if_pos h1]
    rw [if_neg h0, if_neg h0, if_neg h1, if_neg h1]
    have hv : v < 6 := by omega
    have hn : ∀ b, ∀ u, u < v + 1 → Ind (hf t v b) u := fun b u hu => by
      by_cases e : u = v
      · subst e; exact ind_hf t hv _
      · exact (hi u (by omega)).keep (by omega) hv _
    have o1 := bld_ok k _ (v + 1) l (by omega) (hn false) hl
    have o2 := bld_ok k _ (v + 1) _ (by omega) (hn true) o1.good
    rw [ih _ (v + 1) l (by omega) (hn false) hl, ih _ (v + 1) _ (by omega) (hn true) o1.good]
    by_cases he : hf t v false = hf t v true
    · have hI := ind_of_eq hv he
      have s := o1.same []
      rw [List.append_nil] at s
      rw [if_pos he, ← he, s, if_pos rfl, hI.hf_eq hv]
    · rw [if_neg he]
      have hne : (bld k (hf t v false) (v + 1) l).1 ≠ (bld k (hf t v true) (v + 1) (bld k (hf t v false) (v + 1) l).2).1 := fun e => he (t_ext fun b hb => by
        obtain ⟨r2, e2, _, _⟩ := o2.pre
        rw [← o1.says b hb, ← o2.says b hb, ← e]
        rw [e2]
        exact (yes_pre o1.good.1 b o1.node.2.1).symm)
      rw [if_neg hne]
theorem gl_nil : Gl [] := ⟨fun i c h => by simp at h, fun i c h => by simp at h⟩
/-- The diagram of a table. -/
def dia (t : T) : Int × List Ch := bld 6 t 0 []
theorem dia_nod (t : T) : nod 6 t 0 [] = dia t := nod_eq 6 t 0 [] rfl (fun u hu => absurd hu (by omega)) gl_nil
theorem dia_ok (t : T) : Ok 6 t 0 [] (dia t) := bld_ok 6 t 0 [] rfl (fun u hu => absurd hu (by omega)) gl_nil
theorem dia_len (t : T) : (dia t).2.length ≤ 63 := by
  obtain ⟨r, h, hn, _⟩ := (dia_ok t).pre
  rw [h]; simp only [List.nil_append]; omega
theorem bld_last : ∀ (k : Nat) (t : T) (v : Nat), k + v = 6 → (∀ u, u < v → Ind t u) → ((bld k t v []).1 < 0 ∧ (bld k t v []).2 = []) ∨ ((bld k t v []).1 = ((bld k t v []).2.length : Int) - 1 ∧ 0 ≤ (bld k t v []).1) := by
  intro k
  induction k with
  | zero => intro t v _ _; left; refine ⟨?_, rfl⟩; simp only [bld]; split <;> omega
  | succ k ih =>
    intro t v hk hi
    rw [bld]
    have hv : v < 6 := by omega
    by_cases h0 : t = 0
    · rw [if_pos h0]; exact .inl ⟨by simp, rfl⟩
    by_cases h1 : t = all1
    · rw [if_neg h0, if_pos h1]; exact .inl ⟨by simp, rfl⟩
    rw [if_neg h0, if_neg h1]
    have hn : ∀ b, ∀ u, u < v + 1 → Ind (hf t v b) u := fun b u hu => by
      by_cases e : u = v
      · subst e; exact ind_hf t hv _
      · exact (hi u (by omega)).keep (by omega) hv _
    by_cases he : hf t v false = hf t v true
    · rw [if_pos he]
      exact ih t (v + 1) (by omega) (fun u hu => by
        by_cases e : u = v
        · subst e; exact ind_of_eq hv he
        · exact hi u (by omega))
    · rw [if_neg he]
      have o1 := bld_ok k _ (v + 1) [] (by omega) (hn false) gl_nil
      have o2 := bld_ok k _ (v + 1) _ (by omega) (hn true) o1.good
      right
      generalize bld k (hf t v false) (v + 1) [] = A at o1 o2 ⊢
      generalize bld k (hf t v true) (v + 1) A.2 = B at o2 ⊢
      obtain ⟨r1, e1, _, c1⟩ := o1.pre
      obtain ⟨r2, e2, _, c2⟩ := o2.pre
      have hnot : (⟨v, A.1, B.1⟩ : Ch) ∉ B.2 := fun hm => by
        rw [e2, e1] at hm
        simp only [List.nil_append, List.mem_append] at hm
        rcases hm with h | h
        · have := c1 _ h; simp only at this; omega
        · have := c2 _ h; simp only at this; omega
      unfold put
      rw [if_neg hnot]
      simp only [List.length_append, List.length_cons, List.length_nil]
      omega
theorem dia_last (t : T) : ((dia t).1 < 0 ∧ (dia t).2 = []) ∨ ((dia t).1 = ((dia t).2.length : Int) - 1 ∧ 0 ≤ (dia t).1) := bld_last 6 t 0 rfl (fun u hu => absurd hu (by omega))
/-- The decisions of a diagram, all bits at once. -/
def gat (f : Nat → Bool) : Nat → T
  | 0 => 0
  | n + 1 => if f n then gat f n ||| BitVec.twoPow 64 n else gat f n
theorem gat_get (f : Nat → Bool) : ∀ n, n ≤ 64 → ∀ b, (gat f n).getLsbD b = (decide (b < n) && f b) := by
  intro n
  induction n with
  | zero => intro _ b; simp [gat]
  | succ n ih =>
    intro hn b
    rw [gat]
    by_cases hb : b = n
    · subst hb
      cases hc : f b
      · simp [ih (by omega)]
      · simp only [if_true, BitVec.getLsbD_or, BitVec.getLsbD_twoPow]; simp; omega
    · have e : decide (b < n + 1) = decide (b < n) := by simp only [decide_eq_decide]; omega
      rw [e, ← ih (by omega) b]
      have hb' : ¬ n = b := fun h => hb h.symm
      cases f n
      · simp
      · simp only [if_true, BitVec.getLsbD_or, BitVec.getLsbD_twoPow]; simp [hb']
def dec (l : List Ch) (root : Int) : T := gat (yes l root) 64
theorem dec_get (l : List Ch) (root : Int) {b : Nat} (hb : b < 64) : (dec l root).getLsbD b = yes l root b := by
  rw [dec, gat_get _ 64 (by omega)]; simp [hb]
theorem vt_gat {v : Nat} (hv : v < 6) : gat (fun n => bitOf n v) 64 = vt v := t_ext fun n hn => by
  rw [gat_get _ 64 (by omega), vt_bit hn hv]; simp [hn]
/-- What is held ahead of the diagram's making, by the program. -/
def Ends (l : List Ch) (root : Int) : Prop := l.length ≤ 70 ∧ -2 ≤ root ∧ root < (l.length : Int) ∧ WF l
def Good (l : List Ch) (root : Int) : Prop := Ends l root ∧ dia (dec l root) = (root, l)
/-- What is held by the specification. -/
def Chk (l : List Ch) (root : Int) : Prop := l.length ≤ 70 ∧ Gl l ∧ ((-2 ≤ root ∧ root < 0 ∧ l = []) ∨ (root = (l.length : Int) - 1 ∧ 0 ≤ root))
theorem Chk.ends {l : List Ch} {root : Int} (h : Chk l root) : Ends l root := by
  obtain ⟨h1, h2, h3⟩ := h
  refine ⟨h1, ?_, ?_, h2.1⟩ <;> rcases h3 with h | h <;> (try have := congrArg List.length h.2.2) <;> omega
theorem good_iff (l : List Ch) (root : Int) : Good l root ↔ Chk l root ∧ dia (dec l root) = (root, l) := by
  constructor
  · rintro ⟨⟨h1, h2, h3, h4⟩, h5⟩
    have o := dia_ok (dec l root)
    have la := dia_last (dec l root)
    rw [h5] at o la
    refine ⟨⟨h1, o.good, ?_⟩, h5⟩
    rcases la with ⟨a, b⟩ | ⟨a, b⟩
    · exact .inl ⟨h2, a, b⟩
    · exact .inr ⟨a, b⟩
  · rintro ⟨h, h5⟩
    exact ⟨h.ends, h5⟩
theorem good_dia (t : T) : Good (dia t).2 (dia t).1 := by
  have o := dia_ok t
  have hd : dec (dia t).2 (dia t).1 = t := t_ext fun b hb => by rw [dec_get _ _ hb]; exact o.says b hb
  refine ⟨⟨by have := dia_len t; omega, o.node.1, o.node.2.1, o.good.1⟩, by rw [hd]⟩
end Bdd
end M
end Go.Proofs.YtfiooclkefmijaaDoor

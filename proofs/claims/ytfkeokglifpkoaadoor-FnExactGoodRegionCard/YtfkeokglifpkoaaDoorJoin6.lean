/-
  The mathematics of a region: which are good, the greatest Version told, a call that is taken, and calls that are taken again.
-/
import Derived.Test.YtfkeokglifpkoaaDoorJoin5
namespace Go.Proofs.YtfkeokglifpkoaaDoor
open Go.RowKit M
namespace M
structure Rg where
  id : Int
  ver : Int
  bs : Brs
def verB (bs : Brs) (v : Int) : Prop := ∀ b ∈ bs, ∀ e ∈ b, e.ver ≤ v
def GdW (ver : Int) (bs : Brs) : Prop := (0 ≤ ver ∧ ver ≤ 1000000) ∧ GdT bs ∧ verB bs ver
def GdR (r : Rg) : Prop := (0 ≤ r.id ∧ r.id ≤ 9) ∧ GdW r.ver r.bs
theorem lv_le {b : Evs} (h : Vup b b.length) {e : Ev} (he : e ∈ b) : e.ver ≤ lv b := by
  obtain ⟨i, hi, rfl⟩ := List.mem_iff_getElem.1 he
  have key : ∀ d j, j + d + 1 = b.length → ∀ x, b[j]? = some x → x.ver ≤ lv b := fun d => by
    induction d with
    | zero =>
      intro j hj x hx
      rw [lv_at (b := b) (e := x) (by rw [show b.length - 1 = j by omega]; exact hx)]
      exact Int.le_refl _
    | succ d ih =>
      intro j hj x hx
      have hy : b[j + 1]? = some (b[j + 1]'(by omega)) := List.getElem?_eq_getElem (by omega)
      have h1 := h j x _ (by omega) hx hy
      have h2 := ih (j + 1) (by omega) _ hy
      omega
  exact key (b.length - 1 - i) i (by omega) _ (List.getElem?_eq_getElem hi)
theorem cur_max (bs : Brs) : ∀ k, k ≤ bs.length → ∀ i b, i < k → bs[i]? = some b → lv b ≤ lv (bs.getD (cur bs k) [])
  | 0, _ => fun i b hi _ => absurd hi (Nat.not_lt_zero _)
  | k + 1, hk => fun i b hi hb => by
    have hx : bs[k]? = some bs[k] := List.getElem?_eq_getElem (by omega)
    have ih := cur_max bs k (by omega)
    rw [cur]
    by_cases c : btr (bs.getD k []) (bs.getD (cur bs k) []) = true
    · rw [if_pos c]
      have h1 : lv (bs.getD (cur bs k) []) ≤ lv (bs.getD k []) := by
        unfold btr at c
        simp only [Bool.or_eq_true, Bool.and_eq_true, decide_eq_true_eq] at c
        rcases c with c | ⟨c, -⟩ <;> omega
      by_cases hik : i = k
      · subst hik; rw [getD_at hb]; exact Int.le_refl _
      · have := ih i b (by omega) hb; omega
    · rw [if_neg c]
      have h1 : lv (bs.getD k []) ≤ lv (bs.getD (cur bs k) []) := by
        unfold btr at c
        simp only [Bool.or_eq_true, Bool.and_eq_true, decide_eq_true_eq, not_or, not_and] at c
        omega
      by_cases hik : i = k
      · subst hik; rw [getD_at hb] at h1; exact h1
      · exact ih i b (by omega) hb
/-- The greatest Version of an event, 0 where there is none. -/
def nws (bs : Brs) : Int := lv (cB bs)
theorem cB_mem {bs : Brs} (h : bs ≠ []) : cB bs ∈ bs := by
  unfold cB; rw [if_neg h]
  exact List.mem_of_getElem? (cur_b (List.length_pos_iff.2 h))
theorem nws_iff {bs : Brs} {v : Int} (hg : GdT bs) (hv : 0 ≤ v) : nws bs ≤ v ↔ verB bs v := by
  by_cases h0 : bs = []
  · subst h0
    have : nws [] = 0 := rfl
    rw [this]
    exact ⟨fun _ b hb => (by cases hb), fun _ => hv⟩
  · constructor
    · intro h b hb e he
      have ht := hg.2.1 b hb
      have h1 := lv_le ht.2.2.2 he
      obtain ⟨i, hi, rfl⟩ := List.mem_iff_getElem.1 hb
      have h2 := cur_max bs bs.length (Nat.le_refl _) i _ hi (List.getElem?_eq_getElem hi)
      have h3 : lv (bs.getD (cur bs bs.length) []) = nws bs := by unfold nws cB curB; rw [if_neg h0]
      omega
    · intro h
      have hm := cB_mem h0
      have ht := hg.2.1 _ hm
      have hp : 0 < (cB bs).length := List.length_pos_iff.2 ht.1
      have hx : (cB bs)[(cB bs).length - 1]? = some ((cB bs)[(cB bs).length - 1]'(by omega)) := List.getElem?_eq_getElem (by omega)
      unfold nws
      rw [lv_at hx]
      exact h _ hm _ (List.mem_of_getElem? hx)
/-- The state that the history that counts makes. -/
def stB (bs : Brs) : St := sk (cB bs) (cB bs).length
theorem cB_hist {bs : Brs} (hg : GdT bs) : Hist (cB bs) := by
  by_cases h0 : bs = []
  · subst h0
    exact ⟨Nat.zero_le _, ⟨Nat.zero_le _, fun i e hi => absurd hi (Nat.not_lt_zero _), fun e he => by simp [cB] at he⟩, fun i d e hi => absurd hi (Nat.not_lt_zero _)⟩
  · exact (hg.2.1 _ (cB_mem h0)).2
theorem stB_good {bs : Brs} (hg : GdT bs) : GoodSt (stB bs) := (cB_hist hg).2.1.2.1.good (Nat.le_refl _)
theorem stB_nx (bs : Brs) : (stB bs).nx = ((cB bs).length : Int) + 1 := sk_nx _ _ (Nat.le_refl _)
/-- Kinds and names of good events. -/
def okC (k : Int) (x : ByteArray) : Bool := inB k 1 6 && gN x
/-- A call is told by a code. 'my' tells which events may come. -/
def tkc (my : St → Ev → Bool) (r : Rg) (k : Int) (x : ByteArray) : Int :=
  if okC k x = false then 1
  else if r.ver % 10 ≠ r.id then 2
  else if k = 2 ∧ has (stB r.bs).sg x = true then 5
  else if my (stB r.bs) ⟨(stB r.bs).nx, r.ver, k, x⟩ = false then 3
  else if (cB r.bs).length = 60 then 4
  else 0
def evR (r : Rg) (k : Int) (x : ByteArray) : Ev := ⟨(stB r.bs).nx, r.ver, k, x⟩
def tkh (r : Rg) (k : Int) (x : ByteArray) : Evs := cB r.bs ++ [evR r k x]
def tkb (my : St → Ev → Bool) (r : Rg) (k : Int) (x : ByteArray) : Brs := if tkc my r k x = 0 then add r.bs (tkh r k x) else r.bs
theorem tkc_bad {my : St → Ev → Bool} {r : Rg} {k : Int} {x : ByteArray} (h : okC k x = false) : tkc my r k x = 1 := by unfold tkc; rw [if_pos h]
theorem tkc_passive {my : St → Ev → Bool} {r : Rg} {k : Int} {x : ByteArray} (h : okC k x = true) (h1 : r.ver % 10 ≠ r.id) : tkc my r k x = 2 := by unfold tkc; rw [if_neg (by rw [h]; simp), if_pos h1]
theorem tkc_again {my : St → Ev → Bool} {r : Rg} {k : Int} {x : ByteArray} (h : okC k x = true) (h1 : r.ver % 10 = r.id) (h2 : k = 2 ∧ has (stB r.bs).sg x = true) : tkc my r k x = 5 := by unfold tkc; rw [if_neg (by rw [h]; simp), if_neg (by simp [h1]), if_pos h2]
theorem tkc_refused {my : St → Ev → Bool} {r : Rg} {k : Int} {x : ByteArray} (h : okC k x = true) (h1 : r.ver % 10 = r.id) (h2 : ¬ (k = 2 ∧ has (stB r.bs).sg x = true)) (h3 : my (stB r.bs) (evR r k x) = false) : tkc my r k x = 3 := by
  unfold tkc; rw [if_neg (by rw [h]; simp), if_neg (by simp [h1]), if_neg h2]; unfold evR at h3; rw [if_pos h3]
theorem tkc_full {my : St → Ev → Bool} {r : Rg} {k : Int} {x : ByteArray} (h : okC k x = true) (h1 : r.ver % 10 = r.id) (h2 : ¬ (k = 2 ∧ has (stB r.bs).sg x = true)) (h3 : my (stB r.bs) (evR r k x) = true) (h4 : (cB r.bs).length = 60) : tkc my r k x = 4 := by
  unfold tkc; rw [if_neg (by rw [h]; simp), if_neg (by simp [h1]), if_neg h2]; unfold evR at h3; rw [if_neg (by rw [h3]; simp), if_pos h4]
theorem tkc_ok {my : St → Ev → Bool} {r : Rg} {k : Int} {x : ByteArray} (h : okC k x = true) (h1 : r.ver % 10 = r.id) (h2 : ¬ (k = 2 ∧ has (stB r.bs).sg x = true)) (h3 : my (stB r.bs) (evR r k x) = true) (h4 : (cB r.bs).length ≠ 60) : tkc my r k x = 0 := by
  unfold tkc; rw [if_neg (by rw [h]; simp), if_neg (by simp [h1]), if_neg h2]; unfold evR at h3; rw [if_neg (by rw [h3]; simp), if_neg h4]
theorem tkc_zero {my : St → Ev → Bool} {r : Rg} {k : Int} {x : ByteArray} (h : tkc my r k x = 0) : okC k x = true ∧ r.ver % 10 = r.id ∧ ¬ (k = 2 ∧ has (stB r.bs).sg x = true) ∧ my (stB r.bs) (evR r k x) = true ∧ (cB r.bs).length ≠ 60 := by
  unfold tkc at h
  split at h
  · omega
  · rename_i c0
    split at h
    · omega
    · rename_i c1
      split at h
      · omega
      · rename_i c2
        split at h
        · omega
        · rename_i c3
          split at h
          · omega
          · rename_i c4
            exact ⟨by simpa using c0, by simpa using c1, c2, by unfold evR; simpa using c3, c4⟩
/-- The Version of an event doesn't count for whether it may come. -/
theorem may_ver {s : St} {k v : Int} {x : ByteArray} (h0 : 0 ≤ v) (h1 : v ≤ 1000000) : May s ⟨s.nx, v, k, x⟩ ↔ May s ⟨s.nx, 0, k, x⟩ := by
  have hr : raw s ⟨s.nx, v, k, x⟩ = raw s ⟨s.nx, 0, k, x⟩ := rfl
  have hg : Ev.gd ⟨s.nx, v, k, x⟩ = Ev.gd ⟨s.nx, 0, k, x⟩ := by
    unfold Ev.gd goodB
    have : inB v 0 1000000 = inB 0 0 1000000 := by unfold inB; rw [decide_eq_true h0, decide_eq_true h1]; rfl
    simp only [this]
  unfold May
  rw [hr, hg]
theorem sk_left {a b : Evs} {i : Nat} (h : i ≤ a.length) : sk (a ++ b) i = sk a i := by unfold sk; rw [List.take_append_of_le_length h]
theorem hist_snoc {a : Evs} {e : Ev} (h : Hist a) (hl : a.length < 60) (hm : May (sk a a.length) e) (hv : ∀ x ∈ a, x.ver ≤ e.ver) : Hist (a ++ [e]) := by
  have hlen : (a ++ [e]).length = a.length + 1 := by simp
  refine ⟨by omega, ⟨Nat.le_refl _, fun i x hi hx => ?_, fun x hx => ?_⟩, fun i d x hi hd hx => ?_⟩
  · by_cases c : i < a.length
    · rw [List.getElem?_append_left c] at hx
      rw [sk_left (by omega)]
      exact h.2.1.2.1 i x c hx
    · have hi2 : i = a.length := by omega
      subst hi2
      rw [sk_left (Nat.le_refl _)]
      simp at hx
      subst hx; exact hm
  · rw [List.getElem?_eq_none (Nat.le_refl _)] at hx; cases hx
  · rw [hlen] at hi
    by_cases c : i + 1 < a.length
    · rw [List.getElem?_append_left (by omega)] at hd
      rw [List.getElem?_append_left c] at hx
      exact h.2.2 i d x c hd hx
    · have hi2 : i + 1 = a.length := by omega
      rw [List.getElem?_append_left (by omega)] at hd
      rw [hi2] at hx
      simp at hx
      subst hx
      exact hv d (List.mem_of_getElem? hd)
theorem com_app : ∀ a b : Evs, com a (a ++ b) = a.length
  | [], b => by rw [com_nil_l]; rfl
  | x :: a, b => by
    rw [List.cons_append, com, if_pos (cE_self x), com_app a b]; rfl
theorem add_cur_len {bs : Brs} (e : Ev) (h : bs.length ≤ 12) : (add bs (cB bs ++ [e])).length ≤ 12 := by
  by_cases h0 : bs = []
  · subst h0
    have := add_len [] (cB [] ++ [e])
    simp at this; omega
  · unfold add
    split
    · exact h
    · have hm := cB_mem h0
      have hlt : (lft bs (cB bs ++ [e])).length < bs.length := by
        unfold lft
        rw [List.length_filter_lt_length_iff_exists]
        exact ⟨cB bs, hm, by simp [com_app]⟩
      have hp := plc_le (lft bs (cB bs ++ [e])) (cB bs ++ [e])
      simp
      omega
theorem tkh_tl {my : St → Ev → Bool} {r : Rg} {k : Int} {x : ByteArray} (hmy : ∀ s e, BP (my s e) (May s e)) (hg : GdR r) (h : tkc my r k x = 0) : Tl (tkh r k x) := by
  obtain ⟨-, -, -, h3, h4⟩ := tkc_zero h
  have hh := cB_hist hg.2.2.1
  refine ⟨by unfold tkh; simp, hist_snoc hh (by have := hh.1; omega) ((hmy _ _).1 h3) (fun y hy => ?_)⟩
  show y.ver ≤ r.ver
  by_cases h0 : r.bs = []
  · unfold cB at hy; rw [if_pos h0] at hy; cases hy
  · exact hg.2.2.2 _ (cB_mem h0) y hy
theorem add_mem {bs : Brs} {h b : Evs} (hb : b ∈ add bs h) : b ∈ bs ∨ b = h := by
  unfold add at hb
  split at hb
  · exact .inl hb
  · rw [List.mem_append, List.mem_cons] at hb
    rcases hb with hb | hb | hb
    · exact .inl (mem_lft.1 (List.mem_of_mem_take hb)).1
    · exact .inr hb
    · exact .inl (mem_lft.1 (List.mem_of_mem_drop hb)).1
theorem add_ver {bs : Brs} {h : Evs} {v : Int} (hb : verB bs v) (hh : ∀ e ∈ h, e.ver ≤ v) : verB (add bs h) v := fun b hm e he => by
  rcases add_mem hm with h1 | h1
  · exact hb b h1 e he
  · subst h1; exact hh e he
theorem tkb_good {my : St → Ev → Bool} {r : Rg} {k : Int} {x : ByteArray} (hmy : ∀ s e, BP (my s e) (May s e)) (hg : GdR r) : GdR ⟨r.id, r.ver, tkb my r k x⟩ := by
  unfold tkb
  split
  · rename_i h
    have ht := tkh_tl hmy hg h
    refine ⟨hg.1, hg.2.1, ⟨add_cur_len _ hg.2.2.1.1, add_good hg.2.2.1.2 ht⟩, add_ver hg.2.2.2 (fun e he => ?_)⟩
    unfold tkh at he
    rw [List.mem_append, List.mem_singleton] at he
    rcases he with he | he
    · show e.ver ≤ r.ver
      by_cases h0 : r.bs = []
      · unfold cB at he; rw [if_pos h0] at he; cases he
      · exact hg.2.2.2 _ (cB_mem h0) e he
    · subst he; exact Int.le_refl _
  · exact hg
/-- Signals called for again, one by one. -/
def rps (my : St → Ev → Bool) (id ver : Int) (s : Brs × Nat) (x : ByteArray) : Brs × Nat := (tkb my ⟨id, ver, s.1⟩ 2 x, s.2 + (if tkc my ⟨id, ver, s.1⟩ 2 x = 0 then 1 else 0))
def rpl (my : St → Ev → Bool) (id ver : Int) (ns : Txs) (s : Brs × Nat) : Brs × Nat := ns.foldl (rps my id ver) s
theorem rpl_snoc {my : St → Ev → Bool} {id ver : Int} {ns : Txs} {s : Brs × Nat} {k : Nat} {x : ByteArray} (h : ns[k]? = some x) : rpl my id ver (ns.take (k + 1)) s = rps my id ver (rpl my id ver (ns.take k) s) x := by
  obtain ⟨hk, rfl⟩ := List.getElem?_eq_some_iff.1 h
  unfold rpl
  rw [List.take_succ_eq_append_getElem hk, List.foldl_append]; rfl
theorem rpl_good {my : St → Ev → Bool} {id ver : Int} (hmy : ∀ s e, BP (my s e) (May s e)) : ∀ (ns : Txs) (s : Brs × Nat), GdR ⟨id, ver, s.1⟩ → GdR ⟨id, ver, (rpl my id ver ns s).1⟩
  | [], _, h => h
  | x :: ns, s, h => rpl_good hmy ns (rps my id ver s x) (tkb_good hmy h)
theorem rpl_len {my : St → Ev → Bool} {id ver : Int} : ∀ (ns : Txs) (s : Brs × Nat), (rpl my id ver ns s).2 ≤ s.2 + ns.length
  | [], s => Nat.le_refl _
  | x :: ns, s => by
    have := rpl_len (my := my) (id := id) (ver := ver) ns (rps my id ver s x)
    have h2 : (rps my id ver s x).2 ≤ s.2 + 1 := by unfold rps; simp only; split <;> omega
    show (rpl my id ver ns (rps my id ver s x)).2 ≤ _
    simp only [List.length_cons]; omega
def rpA (my : St → Ev → Bool) (r : Rg) : Brs × Nat := rpl my r.id r.ver (lsl r.bs) (r.bs, 0)
/-- The names that are lost are names of events. -/
theorem allS_mem : ∀ {bs : Brs} {x : ByteArray}, x ∈ allS bs → ∃ b ∈ bs, x ∈ sgB b
  | [], x => fun h => by cases h
  | b :: r, x => fun h => by
    rw [allS, List.mem_append] at h
    rcases h with h | h
    · exact ⟨b, by simp, h⟩
    · obtain ⟨c, hc, hx⟩ := allS_mem h
      exact ⟨c, by simp [hc], hx⟩
theorem lsl_mem {bs : Brs} {x : ByteArray} (h : x ∈ lsl bs) : ∃ b ∈ bs, x ∈ sgB b := by
  have := ((lst_rise (keptOf bs) (allS bs) [] rise_nil).2 x).1 h
  rcases this with h1 | ⟨h1, -⟩
  · cases h1
  · exact allS_mem h1
theorem sgB_len {b : Evs} (h : Tl b) : (sgB b).length ≤ 30 := (h.2.2.1.2.1.good (Nat.le_refl _)).2.2.1.1
theorem allS_len : ∀ {bs : Brs}, (∀ b ∈ bs, Tl b) → (allS bs).length ≤ 30 * bs.length
  | [], _ => by simp [allS]
  | b :: r, h => by
    have h1 := sgB_len (h b (by simp))
    have h2 := allS_len (bs := r) (fun c hc => h c (by simp [hc]))
    rw [allS, List.length_append, List.length_cons]; omega
theorem lsl_len {bs : Brs} (hg : GdT bs) : (lsl bs).length ≤ 360 := by
  have h1 := lst_len (keptOf bs) (allS bs) []
  have h2 := allS_len hg.2.1
  have h3 := hg.1
  unfold lsl
  simp at h1
  omega
end M
end Go.Proofs.YtfkeokglifpkoaaDoor

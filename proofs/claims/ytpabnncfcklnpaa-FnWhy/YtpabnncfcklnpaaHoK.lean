/-
  The least model, reckoned by counts: its states, what holds of them all. Plain mathematics.
-/
import Derived.Test.YtpabnncfcklnpaaHoM
namespace Go.Proofs.Ytpabnncfcklnpaa
namespace M
namespace Ho
open Clk (upd upd_same upd_other)
/-- What is there; what came, in order, with the rule that let it come; the counts; how often one was made less. -/
structure Sta where
  inn : Nat → Bool
  q : List (Nat × Option Nat)
  c : Nat → Int
  wk : Nat
def come (s : Sta) (x : Nat) (o : Option Nat) : Sta := if s.inn x then s else { s with inn := upd s.inn x true, q := s.q ++ [(x, o)] }
def fireS (l : Nat → Rl) (s : Sta) (i : Nat) : Sta := come s (l i).hd (some i)
def ini (l : Nat → Rl) : Sta := ⟨fun _ => false, [], fun i => (l i).nb, 0⟩
def ph0 (l : Nat → Rl) : Nat → Sta
  | 0 => ini l
  | j + 1 => if (l j).nb = 0 then fireS l (ph0 l j) j else ph0 l j
def ph1 (s : Sta) (f : Nat → Nat) : Nat → Sta
  | 0 => s
  | j + 1 => come (ph1 s f j) (f j) none
def les (s : Sta) (i : Nat) : Sta := { s with c := upd s.c i (s.c i - 1), wk := s.wk + 1 }
def hit (l : Nat → Rl) (s : Sta) (i : Nat) : Sta := if s.c i - 1 = 0 then fireS l (les s i) i else les s i
def inb (r : Rl) (x : Nat) : Bool := (List.range r.nb).any fun j => r.bd j == x
theorem inb_iff {r : Rl} {x : Nat} : inb r x = true ↔ ∃ j, j < r.nb ∧ r.bd j = x := by simp [inb]
/-- The rules that wait for x. -/
def wts (l : Nat → Rl) (k x : Nat) : List Nat := (List.range k).filter fun i => inb (l i) x
def tak (l : Nat → Rl) (k : Nat) (s : Sta) (x : Nat) : Sta := (wts l k x).foldl (hit l) s
def mn (l : Nat → Rl) (k : Nat) (s : Sta) : Nat → Sta
  | 0 => s
  | t + 1 => match (mn l k s t).q[t]? with
    | some e => tak l k (mn l k s t) e.1
    | none => mn l k s t
def bgn (l : Nat → Rl) (k : Nat) (f : Nat → Nat) (n : Nat) : Sta := ph1 (ph0 l k) f n
def fin (l : Nat → Rl) (k : Nat) (f : Nat → Nat) (n : Nat) : Sta := mn l k (bgn l k f n) 40
/-- Numbers of what came. -/
def ns (q : List (Nat × Option Nat)) : List Nat := q.map (·.1)
/-- Rules that let something come. -/
def fst (q : List (Nat × Option Nat)) : List Nat := q.filterMap (·.2)
/-- A rule's body is in a list. -/
def In (r : Rl) (L : List Nat) : Prop := ∀ j, j < r.nb → r.bd j ∈ L
/-- What holds of every state: k rules, g the facts. -/
structure Inv (l : Nat → Rl) (k : Nat) (g : Nat → Bool) (s : Sta) : Prop where
  nd : (ns s.q).Nodup
  mem : ∀ x, s.inn x = true ↔ x ∈ ns s.q
  lt : ∀ x, x ∈ ns s.q → x < 40
  non : ∀ e, e ∈ s.q → e.2 = none → g e.1 = true
  som : ∀ e, e ∈ s.q → ∀ i, e.2 = some i → i < k ∧ (l i).hd = e.1
  ord : ∀ A e B, s.q = A ++ e :: B → ∀ i, e.2 = some i → In (l i) (ns A)
theorem ns_append (a b : List (Nat × Option Nat)) : ns (a ++ b) = ns a ++ ns b := by simp [ns]
theorem ns_len (q : List (Nat × Option Nat)) : (ns q).length = q.length := by simp [ns]
theorem nodup_len {L : List Nat} (h : L.Nodup) (hl : ∀ x, x ∈ L → x < 40) : L.length ≤ 40 := by
  have hn : ((List.range 40).filter fun x => decide (x ∈ L)).Nodup := List.nodup_range.sublist List.filter_sublist
  have hp := (List.perm_ext_iff_of_nodup h hn).2 (fun x => by
    simp only [List.mem_filter, List.mem_range, decide_eq_true_eq]
    exact ⟨fun hx => ⟨hl x hx, hx⟩, fun hx => hx.2⟩)
  rw [hp.length_eq]
  have := List.length_filter_le (fun x => decide (x ∈ L)) (List.range 40)
  rwa [List.length_range] at this
theorem Inv.len {l : Nat → Rl} {k : Nat} {g : Nat → Bool} {s : Sta} (h : Inv l k g s) : s.q.length ≤ 40 := by
  rw [← ns_len]; exact nodup_len h.nd h.lt
theorem inv_ini (l : Nat → Rl) (k : Nat) (g : Nat → Bool) : Inv l k g (ini l) :=
  ⟨by simp [ini, ns], fun x => by simp [ini, ns], fun x h => by simp [ini, ns] at h, fun e h => by simp [ini] at h, fun e h => by simp [ini] at h, fun A e B h => by simp [ini] at h⟩
theorem snoc_split {α : Type} {q A B : List α} {x e : α} (h : q ++ [x] = A ++ e :: B) : (A = q ∧ e = x) ∨ ∃ B', q = A ++ e :: B' := by
  rcases List.eq_nil_or_concat B with rfl | ⟨B', y, rfl⟩
  · have h1 := List.append_inj' h rfl
    exact .inl ⟨h1.1.symm, by have := h1.2; simp at this; exact this.symm⟩
  · right
    refine ⟨B', ?_⟩
    have h2 : q ++ [x] = (A ++ e :: B') ++ [y] := by rw [h]; simp
    exact (List.append_inj' h2 rfl).1
theorem Inv.come {l : Nat → Rl} {k : Nat} {g : Nat → Bool} {s : Sta} (h : Inv l k g s) {x : Nat} {o : Option Nat} (hx : x < 40) (hn : o = none → g x = true) (hs : ∀ i, o = some i → i < k ∧ (l i).hd = x ∧ In (l i) (ns s.q)) : Inv l k g (come s x o) := by
  unfold Ho.come
  by_cases hi : s.inn x = true
  · rw [if_pos hi]; exact h
  · rw [if_neg hi]
    have hxq : ¬ x ∈ ns s.q := fun H => hi ((h.mem x).2 H)
    have hns : ns (s.q ++ [(x, o)]) = ns s.q ++ [x] := by simp [ns]
    refine ⟨?_, ?_, ?_, ?_, ?_, ?_⟩
    · show (ns (s.q ++ [(x, o)])).Nodup
      rw [hns, List.nodup_append]
      refine ⟨h.nd, by simp, ?_⟩
      intro a ha b hb
      simp at hb
      subst hb
      exact fun e => hxq (e ▸ ha)
    · intro y
      show upd s.inn x true y = true ↔ y ∈ ns (s.q ++ [(x, o)])
      rw [hns]
      by_cases e : y = x
      · subst e; rw [upd_same]; simp
      · rw [upd_other _ _ _ _ e, h.mem]; simp [e]
    · intro y hy
      have hy : y ∈ ns (s.q ++ [(x, o)]) := hy
      rw [hns] at hy
      simp at hy
      rcases hy with hy | rfl
      · exact h.lt y hy
      · exact hx
    · intro e he h2
      have he : e ∈ s.q ++ [(x, o)] := he
      simp at he
      rcases he with he | rfl
      · exact h.non e he h2
      · exact hn h2
    · intro e he i h2
      have he : e ∈ s.q ++ [(x, o)] := he
      simp at he
      rcases he with he | rfl
      · exact h.som e he i h2
      · exact ⟨(hs i h2).1, (hs i h2).2.1⟩
    · intro A e B hq i h2
      rcases snoc_split (show s.q ++ [(x, o)] = A ++ e :: B from hq) with ⟨rfl, rfl⟩ | ⟨B', hB⟩
      · exact (hs i h2).2.2
      · exact h.ord A e B' hB i h2
/-- What came stays, in its order. -/
def Ext (s s' : Sta) : Prop := ∃ d, s'.q = s.q ++ d
theorem Ext.refl (s : Sta) : Ext s s := ⟨[], by simp⟩
theorem Ext.trans {a b c : Sta} (h : Ext a b) (h' : Ext b c) : Ext a c := by
  obtain ⟨d, hd⟩ := h; obtain ⟨d', hd'⟩ := h'; exact ⟨d ++ d', by rw [hd', hd, List.append_assoc]⟩
theorem ext_come (s : Sta) (x : Nat) (o : Option Nat) : Ext s (come s x o) := by
  unfold come; split
  · exact Ext.refl _
  · exact ⟨_, rfl⟩
theorem ext_hit (l : Nat → Rl) (s : Sta) (i : Nat) : Ext s (hit l s i) := by
  unfold hit; split
  · exact ext_come (les s i) _ _
  · exact ⟨[], by simp [les]⟩
/-- How much of a body is not in T. -/
def unm (T : Nat → Bool) (b : Nat → Nat) : Nat → Nat
  | 0 => 0
  | m + 1 => unm T b m + if T (b m) then 0 else 1
def unt (T : Nat → Bool) (r : Rl) : Nat := unm T r.bd r.nb
theorem unm_none (b : Nat → Nat) : ∀ m, unm (fun _ => false) b m = m
  | 0 => rfl
  | m + 1 => by simp [unm, unm_none b m]
theorem unm_zero {T : Nat → Bool} {b : Nat → Nat} : ∀ m, unm T b m = 0 → ∀ j, j < m → T (b j) = true
  | 0, _, j, hj => by omega
  | m + 1, h, j, hj => by
    simp only [unm] at h
    rcases (show j < m ∨ j = m by omega) with h1 | h1
    · exact unm_zero m (by omega) j h1
    · subst h1
      by_cases hT : T (b j) = true
      · exact hT
      · simp [hT] at h
theorem unm_other {T : Nat → Bool} {b : Nat → Nat} {x : Nat} : ∀ m, (∀ j, j < m → b j ≠ x) → unm (upd T x true) b m = unm T b m
  | 0, _ => rfl
  | m + 1, h => by
    simp only [unm]
    rw [unm_other m (fun j hj => h j (by omega)), upd_other _ _ _ _ (h m (by omega))]
theorem unm_less {T : Nat → Bool} {b : Nat → Nat} {x : Nat} (hx : T x = false) : ∀ m, (∀ i j, i < j → j < m → b i < b j) → (∃ j, j < m ∧ b j = x) → unm T b m = unm (upd T x true) b m + 1
  | 0, _, h => by obtain ⟨j, hj, _⟩ := h; omega
  | m + 1, hu, h => by
    simp only [unm]
    obtain ⟨j, hj, rfl⟩ := h
    by_cases e : j = m
    · subst e
      rw [unm_other j (fun i hi => by have := hu i j hi (by omega); omega), upd_same, hx]; simp
    · have := unm_less (b := b) (x := b j) hx m (fun i j h1 h2 => hu i j h1 (by omega)) ⟨j, by omega, rfl⟩
      have hlt := hu j m (by omega) (by omega)
      rw [upd_other _ _ _ _ (by omega : b m ≠ b j)]
      omega
/-- Good rules: heads and bodies are facts, bodies rise. -/
def GR (k : Nat) (l : Nat → Rl) : Prop := ∀ i, i < k → (l i).hd < 40 ∧ Up (l i).nb (l i).bd
/-- All counts tell how much of the bodies is not in T. -/
def Cnt (l : Nat → Rl) (k : Nat) (T : Nat → Bool) (s : Sta) : Prop := ∀ i, i < k → s.c i = (unt T (l i) : Nat)
theorem come_c (s : Sta) (x : Nat) (o : Option Nat) : (come s x o).c = s.c ∧ (come s x o).wk = s.wk := by
  unfold come; split <;> exact ⟨rfl, rfl⟩
theorem inv_ph0 {l : Nat → Rl} {k : Nat} (hg : GR k l) (g : Nat → Bool) : ∀ j, j ≤ k → Inv l k g (ph0 l j) ∧ (ph0 l j).c = (ini l).c ∧ (ph0 l j).wk = 0
  | 0, _ => ⟨inv_ini l k g, rfl, rfl⟩
  | j + 1, hj => by
    have ih := inv_ph0 hg g j (by omega)
    simp only [ph0]
    split
    · rename_i h0
      refine ⟨ih.1.come (hg j (by omega)).1 (fun h => by cases h) (fun i h => ?_), ?_⟩
      · cases h; exact ⟨by omega, rfl, fun j' hj' => by omega⟩
      · unfold fireS; rw [(come_c _ _ _).1, (come_c _ _ _).2]; exact ih.2
    · exact ih
theorem inv_ph1 {l : Nat → Rl} {k : Nat} {g : Nat → Bool} {s : Sta} (h : Inv l k g s) {f : Nat → Nat} {n : Nat} (hf : ∀ j, j < n → f j < 40 ∧ g (f j) = true) : ∀ j, j ≤ n → Inv l k g (ph1 s f j) ∧ (ph1 s f j).c = s.c ∧ (ph1 s f j).wk = s.wk
  | 0, _ => ⟨h, rfl, rfl⟩
  | j + 1, hj => by
    have ih := inv_ph1 h hf j (by omega)
    simp only [ph1]
    refine ⟨ih.1.come (hf j (by omega)).1 (fun _ => (hf j (by omega)).2) (fun i h => by cases h), ?_⟩
    rw [(come_c _ _ _).1, (come_c _ _ _).2]; exact ih.2
theorem Inv.les {l : Nat → Rl} {k : Nat} {g : Nat → Bool} {s : Sta} (h : Inv l k g s) (i : Nat) : Inv l k g (les s i) := ⟨h.nd, h.mem, h.lt, h.non, h.som, h.ord⟩
/-- One number is taken: the rules that wait for it, one by one. -/
theorem hits_inv {l : Nat → Rl} {k : Nat} (hg : GR k l) {g : Nat → Bool} {T : Nat → Bool} {x : Nat} (hx : T x = false) : ∀ (L : List Nat) (s : Sta), L.Nodup → (∀ i, i ∈ L → i < k ∧ inb (l i) x = true) → Inv l k g s →
    (∀ y, upd T x true y = true → y ∈ ns s.q) → (∀ i, i ∈ L → s.c i = (unt T (l i) : Nat)) → (∀ i, i < k → ¬ i ∈ L → s.c i = (unt (upd T x true) (l i) : Nat)) →
    Inv l k g (L.foldl (hit l) s) ∧ Cnt l k (upd T x true) (L.foldl (hit l) s) ∧ Ext s (L.foldl (hit l) s) ∧ (L.foldl (hit l) s).wk = s.wk + L.length
  | [], s, _, _, hi, _, _, h2 => ⟨hi, fun i hk => h2 i hk (by simp), Ext.refl _, rfl⟩
  | i :: L, s, hnd, hL, hi, hT, h1, h2 => by
    rw [List.nodup_cons] at hnd
    have hik := hL i (by simp)
    have hci := h1 i (by simp)
    have hun : unt T (l i) = unt (upd T x true) (l i) + 1 := unm_less hx _ (hg i hik.1).2.2 (inb_iff.1 hik.2)
    have hls : ∀ j, (les s i).c j = if j = i then s.c i - 1 else s.c j := fun j => rfl
    have hinv : Inv l k g (hit l s i) := by
      unfold hit
      split
      · rename_i h0
        refine (hi.les i).come (hg i hik.1).1 (fun h => by cases h) (fun i' h => ?_)
        cases h
        refine ⟨hik.1, rfl, fun j hj => hT _ (unm_zero _ (show unt (upd T x true) (l i) = 0 by omega) j hj)⟩
      · exact hi.les i
    have hc : ∀ j, (hit l s i).c j = if j = i then s.c i - 1 else s.c j := fun j => by
      unfold hit; split
      · unfold fireS; rw [(come_c _ _ _).1]; exact hls j
      · exact hls j
    have hw : (hit l s i).wk = s.wk + 1 := by
      unfold hit; split
      · unfold fireS; rw [(come_c _ _ _).2]; rfl
      · rfl
    have hex := ext_hit l s i
    obtain ⟨r1, r2, r3, r4⟩ := hits_inv hg hx L (hit l s i) hnd.2 (fun j hj => hL j (by simp [hj])) hinv
      (fun y hy => by obtain ⟨d, hd⟩ := hex; rw [hd, ns_append]; exact List.mem_append_left _ (hT y hy))
      (fun j hj => by
        have hne : j ≠ i := fun e => hnd.1 (e ▸ hj)
        rw [hc, if_neg hne]; exact h1 j (by simp [hj]))
      (fun j hjk hj => by
        rw [hc]
        by_cases e : j = i
        · subst e; rw [if_pos rfl, hci, hun]; omega
        · rw [if_neg e]; exact h2 j hjk (by simp [e, hj]))
    refine ⟨r1, r2, hex.trans r3, ?_⟩
    show (L.foldl (hit l) (hit l s i)).wk = s.wk + (L.length + 1)
    rw [r4, hw]; omega
theorem wts_mem {l : Nat → Rl} {k x i : Nat} : i ∈ wts l k x ↔ i < k ∧ inb (l i) x = true := by simp [wts]
theorem wts_nd (l : Nat → Rl) (k x : Nat) : (wts l k x).Nodup := List.nodup_range.sublist List.filter_sublist
/-- What the first t of those that came are. -/
def tkn (q : List (Nat × Option Nat)) (t : Nat) : Nat → Bool := fun y => decide (y ∈ ns (q.take t))
theorem tak_inv {l : Nat → Rl} {k : Nat} (hg : GR k l) {g : Nat → Bool} {s : Sta} {t : Nat} {e : Nat × Option Nat} (hi : Inv l k g s) (hc : Cnt l k (tkn s.q t) s) (he : s.q[t]? = some e) :
    Inv l k g (tak l k s e.1) ∧ Cnt l k (tkn (tak l k s e.1).q (t + 1)) (tak l k s e.1) ∧ Ext s (tak l k s e.1) ∧ (tak l k s e.1).wk = s.wk + (wts l k e.1).length := by
  have htl : t < s.q.length := (List.getElem?_eq_some_iff.1 he).1
  have hee : s.q[t] = e := (List.getElem?_eq_some_iff.1 he).2
  have htk : s.q.take (t + 1) = s.q.take t ++ [e] := by rw [List.take_add_one, he]; rfl
  have hx : tkn s.q t e.1 = false := by
    unfold tkn
    rw [decide_eq_false_iff_not]
    intro hm
    have hnd : (ns (s.q.take (t + 1))).Nodup := by
      have : ns (s.q.take (t + 1)) = (ns s.q).take (t + 1) := by simp [ns, List.map_take]
      rw [this]; exact hi.nd.sublist (List.take_sublist _ _)
    rw [htk, ns_append, List.nodup_append] at hnd
    exact hnd.2.2 _ hm e.1 (by simp [ns]) rfl
  have hT : ∀ y, upd (tkn s.q t) e.1 true y = tkn s.q (t + 1) y := by
    intro y
    by_cases h : y = e.1
    · subst h; rw [upd_same]; unfold tkn; rw [htk, ns_append]; simp [ns]
    · rw [upd_other _ _ _ _ h]
      unfold tkn
      rw [htk, ns_append]
      have : ns [e] = [e.1] := rfl
      rw [this]; simp [h]
  have hTe : upd (tkn s.q t) e.1 true = tkn s.q (t + 1) := funext hT
  obtain ⟨r1, r2, r3, r4⟩ := hits_inv hg (g := g) hx (wts l k e.1) s (wts_nd l k e.1) (fun i h => wts_mem.1 h) hi
    (fun y hy => by
      rw [hT] at hy
      unfold tkn at hy
      rw [decide_eq_true_eq] at hy
      have : ns (s.q.take (t + 1)) = (ns s.q).take (t + 1) := by simp [ns, List.map_take]
      rw [this] at hy
      exact List.mem_of_mem_take hy)
    (fun i h => hc i (wts_mem.1 h).1)
    (fun i hk h => by
      rw [hc i hk]
      have : ∀ j, j < (l i).nb → (l i).bd j ≠ e.1 := fun j hj h' => h (wts_mem.2 ⟨hk, inb_iff.2 ⟨j, hj, h'⟩⟩)
      unfold unt; rw [unm_other _ this])
  refine ⟨r1, ?_, r3, r4⟩
  obtain ⟨d, hd⟩ := r3
  have : tkn (tak l k s e.1).q (t + 1) = upd (tkn s.q t) e.1 true := by
    rw [hTe]
    unfold tkn
    have hd' : (tak l k s e.1).q = s.q ++ d := hd
    rw [hd', List.take_append_of_le_length (by omega)]
  rw [this]; exact r2
theorem tkn_far {q : List (Nat × Option Nat)} {t : Nat} (h : q.length ≤ t) : tkn q (t + 1) = tkn q t := by
  unfold tkn; rw [List.take_of_length_le (by omega), List.take_of_length_le h]
theorem mn_inv {l : Nat → Rl} {k : Nat} (hg : GR k l) {g : Nat → Bool} {s : Sta} (hi : Inv l k g s) (hc : Cnt l k (fun _ => false) s) : ∀ t, Inv l k g (mn l k s t) ∧ Cnt l k (tkn (mn l k s t).q t) (mn l k s t) ∧ Ext s (mn l k s t)
  | 0 => ⟨hi, by
      have : tkn (mn l k s 0).q 0 = fun _ => false := by funext y; simp [tkn, ns]
      rw [this]; exact hc, Ext.refl _⟩
  | t + 1 => by
    obtain ⟨h1, h2, h3⟩ := mn_inv hg hi hc t
    simp only [mn]
    split
    · rename_i e he
      obtain ⟨r1, r2, r3, _⟩ := tak_inv hg h1 h2 he
      exact ⟨r1, r2, h3.trans r3⟩
    · rename_i he
      refine ⟨h1, ?_, h3⟩
      rw [tkn_far (List.getElem?_eq_none_iff.1 he)]; exact h2
theorem mn_stay {l : Nat → Rl} {k : Nat} {s : Sta} {t : Nat} (h : (mn l k s t).q.length ≤ t) : ∀ d, mn l k s (t + d) = mn l k s t
  | 0 => rfl
  | d + 1 => by
    show (match (mn l k s (t + d)).q[t + d]? with
      | some e => tak l k (mn l k s (t + d)) e.1
      | none => mn l k s (t + d)) = _
    rw [mn_stay h d, List.getElem?_eq_none (by omega)]
theorem bgn_inv {l : Nat → Rl} {k : Nat} (hg : GR k l) {f : Nat → Nat} {n : Nat} (hf : ∀ j, j < n → f j < 40) : Inv l k (ofl f n) (bgn l k f n) ∧ Cnt l k (fun _ => false) (bgn l k f n) ∧ (bgn l k f n).wk = 0 ∧ (bgn l k f n).c = (ini l).c := by
  obtain ⟨a1, a2, a3⟩ := inv_ph0 hg (ofl f n) k (Nat.le_refl _)
  obtain ⟨b1, b2, b3⟩ := inv_ph1 a1 (f := f) (n := n) (fun j hj => ⟨hf j hj, (ofl_iff n).2 ⟨j, hj, rfl⟩⟩) n (Nat.le_refl _)
  refine ⟨b1, fun i hi => ?_, b3.trans a3, b2.trans a2⟩
  show (ph1 (ph0 l k) f n).c i = _
  rw [b2, a2]
  show ((l i).nb : Int) = _
  unfold unt; rw [unm_none]
theorem fin_of {l : Nat → Rl} {k : Nat} {f : Nat → Nat} {n : Nat} {t : Nat} (h : (mn l k (bgn l k f n) t).q.length ≤ t) (ht : t ≤ 40) : fin l k f n = mn l k (bgn l k f n) t := by
  unfold fin
  rw [show 40 = t + (40 - t) by omega]; exact mn_stay h _
theorem fin_inv {l : Nat → Rl} {k : Nat} (hg : GR k l) {f : Nat → Nat} {n : Nat} (hf : ∀ j, j < n → f j < 40) : Inv l k (ofl f n) (fin l k f n) ∧ Ext (bgn l k f n) (fin l k f n) := by
  obtain ⟨a1, a2, -, -⟩ := bgn_inv hg hf
  obtain ⟨b1, b2, b3⟩ := mn_inv hg a1 a2 40
  exact ⟨b1, b3⟩
end Ho
end M
end Go.Proofs.Ytpabnncfcklnpaa

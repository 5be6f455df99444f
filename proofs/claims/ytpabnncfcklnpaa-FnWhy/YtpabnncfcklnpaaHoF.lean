/-
  A reason leads to its goal, and none of its rules may be left out. Plain mathematics.
-/
import Derived.Test.YtpabnncfcklnpaaHoW
namespace Go.Proofs.Ytpabnncfcklnpaa
namespace M
namespace Ho
open Clk (upd upd_same upd_other)
theorem sel_cons {l : Nat → Rl} {g N0 : Nat → Bool} {A B : List (Nat × Option Nat)} {e : Nat × Option Nat} (hnd : (ns (A ++ e :: B)).Nodup) (ho : ∀ i, e.2 = some i → In (l i) (ns A)) :
    (bk l g N0 (e :: B) = bk l g N0 B ∧ sel g (bk l g N0 (e :: B)) (e :: B) = sel g (bk l g N0 B) B) ∨
    ∃ i, e.2 = some i ∧ bk l g N0 B e.1 = true ∧ g e.1 = false ∧ bk l g N0 (e :: B) = addB (bk l g N0 B) (l i) ∧ sel g (bk l g N0 (e :: B)) (e :: B) = i :: sel g (bk l g N0 B) B := by
  rcases he : e.2 with _ | i
  · left
    have h2 : bk l g N0 (e :: B) = bk l g N0 B := by show bst l g e (bk l g N0 B) = _; unfold bst; rw [he]
    refine ⟨h2, ?_⟩
    rw [h2]; unfold sel; rw [List.filterMap_cons]
    have : sl1 g (bk l g N0 B) e = none := by unfold sl1; rw [he]; split <;> rfl
    rw [this]
  · have hb : bk l g N0 (e :: B) = if bk l g N0 B e.1 && !g e.1 then addB (bk l g N0 B) (l i) else bk l g N0 B := by
      show bst l g e (bk l g N0 B) = _; unfold bst; rw [he]
    cases hc : (bk l g N0 B e.1 && !g e.1)
    · left
      rw [hc] at hb
      have hb' : bk l g N0 (e :: B) = bk l g N0 B := hb
      refine ⟨hb', ?_⟩
      rw [hb']; unfold sel; rw [List.filterMap_cons]
      have : sl1 g (bk l g N0 B) e = none := by unfold sl1; rw [hc]; rfl
      rw [this]
    · right
      rw [hc] at hb
      have hb' : bk l g N0 (e :: B) = addB (bk l g N0 B) (l i) := hb
      rw [Bool.and_eq_true] at hc
      refine ⟨i, rfl, hc.1, by simpa using hc.2, hb', ?_⟩
      have hin := ho i he
      have key : ∀ e', e' ∈ B → addB (bk l g N0 B) (l i) e'.1 = bk l g N0 B e'.1 := fun e' h => addB_other fun j hj h' => by
        have hm := hin j hj
        rw [h'] at hm
        rw [ns_append, List.nodup_append] at hnd
        exact hnd.2.2 _ hm e'.1 (List.mem_map_of_mem (by simp [h])) rfl
      rw [hb']
      unfold sel; rw [List.filterMap_cons]
      have : sl1 g (addB (bk l g N0 B) (l i)) e = some i := by
        unfold sl1
        have : addB (bk l g N0 B) (l i) e.1 = true := (adb_iff _).2 (.inl hc.1)
        rw [this, hc.2, he]; rfl
      rw [this]
      show i :: B.filterMap (sl1 g (addB (bk l g N0 B) (l i))) = _
      rw [fm_congr (f := sl1 g (addB (bk l g N0 B) (l i))) (g := sl1 g (bk l g N0 B)) (L := B) (fun e' h => by unfold sl1; rw [key e' h])]
/-- What is needed is the goal or in a body of a rule that is taken; bodies of those are needed. -/
theorem bk_needs {l : Nat → Rl} {g : Nat → Bool} {x : Nat} : ∀ (B A : List (Nat × Option Nat)), (ns (A ++ B)).Nodup → (∀ A' e B', A ++ B = A' ++ e :: B' → ∀ i, e.2 = some i → In (l i) (ns A')) →
    (∀ y, bk l g (upd (fun _ => false) x true) B y = true → y = x ∨ ∃ j, j ∈ sel g (bk l g (upd (fun _ => false) x true) B) B ∧ ∃ b, b < (l j).nb ∧ (l j).bd b = y) ∧
    (∀ j, j ∈ sel g (bk l g (upd (fun _ => false) x true) B) B → ∀ b, b < (l j).nb → bk l g (upd (fun _ => false) x true) B ((l j).bd b) = true) ∧ bk l g (upd (fun _ => false) x true) B x = true
  | [], _, _, _ => by
    refine ⟨fun y h => ?_, fun j h => by simp [sel] at h, (show upd (fun _ => false) x true x = true from upd_same _ _ _)⟩
    by_cases e : y = x
    · exact .inl e
    · have h : upd (fun _ => false) x true y = true := h
      rw [upd_other _ _ _ _ e] at h; cases h
  | e :: B, A, hnd, ho => by
    have hAB : A ++ e :: B = (A ++ [e]) ++ B := by simp
    obtain ⟨h1, h2, h3⟩ := bk_needs (l := l) (g := g) (x := x) B (A ++ [e]) (by rw [← hAB]; exact hnd) (fun A' e' B' h => ho A' e' B' (by rw [hAB]; exact h))
    rcases sel_cons (l := l) (g := g) (N0 := upd (fun _ => false) x true) hnd (fun i hi => ho A e B rfl i hi) with ⟨e1, e2⟩ | ⟨i, e0, -, -, e1, e2⟩
    · rw [e2, e1]; exact ⟨h1, h2, h3⟩
    · rw [e2, e1]
      refine ⟨fun y hy => ?_, fun j hj b hb => ?_, (adb_iff _).2 (.inl h3)⟩
      · rcases (adb_iff _).1 hy with h | ⟨b, hb, h⟩
        · rcases h1 y h with h | ⟨j, hj, hh⟩
          · exact .inl h
          · exact .inr ⟨j, by simp [hj], hh⟩
        · exact .inr ⟨i, by simp, b, hb, h⟩
      · rw [List.mem_cons] at hj
        rcases hj with rfl | hj
        · exact (adb_iff _).2 (.inr ⟨b, hb, rfl⟩)
        · exact (adb_iff _).2 (.inl (h2 j hj b hb))
theorem why_needs {l : Nat → Rl} {k : Nat} {g : Nat → Bool} {s : Sta} (h : Inv l k g s) (x : Nat) :
    (∀ y, bk l g (upd (fun _ => false) x true) s.q y = true → y = x ∨ ∃ j, j ∈ why l g x s.q ∧ ∃ b, b < (l j).nb ∧ (l j).bd b = y) ∧
    (∀ j, j ∈ why l g x s.q → ∀ b, b < (l j).nb → bk l g (upd (fun _ => false) x true) s.q ((l j).bd b) = true) ∧ bk l g (upd (fun _ => false) x true) s.q x = true :=
  bk_needs s.q [] (by simpa using h.nd) (fun A e B hq i hi => h.ord A e B (by simpa using hq) i hi)
theorem sl1_some {g N : Nat → Bool} {e : Nat × Option Nat} {i : Nat} (h : sl1 g N e = some i) : N e.1 = true ∧ g e.1 = false ∧ e.2 = some i := by
  unfold sl1 at h
  split at h
  · rename_i hc
    rw [Bool.and_eq_true] at hc
    exact ⟨hc.1, by simpa using hc.2, h⟩
  · cases h
/-- Each rule's body lies in the facts and the heads ahead. -/
theorem why_ord {l : Nat → Rl} {k : Nat} {g : Nat → Bool} {s : Sta} (h : Inv l k g s) {x i : Nat} {A B : List Nat} (hW : why l g x s.q = A ++ i :: B) {b : Nat} (hb : b < (l i).nb) : g ((l i).bd b) = true ∨ (l i).bd b ∈ A.map fun j => (l j).hd := by
  have hn := (why_needs h x).2.1 i (by rw [hW]; simp) b hb
  unfold why sel at hW
  rw [List.filterMap_eq_append_iff] at hW
  obtain ⟨P, Q, hq, hA, hQ⟩ := hW
  rw [List.filterMap_eq_cons_iff] at hQ
  obtain ⟨R, e, Q', hQ', hR, he, -⟩ := hQ
  obtain ⟨-, -, e2⟩ := sl1_some he
  have hin := h.ord (P ++ R) e Q' (by rw [hq, hQ']; simp) i e2 b hb
  rw [ns_append, List.mem_append] at hin
  by_cases hg : g ((l i).bd b) = true
  · exact .inl hg
  · right
    have hg' : g ((l i).bd b) = false := by simpa using hg
    have key : ∀ L : List (Nat × Option Nat), (∀ e', e' ∈ L → e' ∈ s.q) → (l i).bd b ∈ ns L → ∃ j, sl1 g (bk l g (upd (fun _ => false) x true) s.q) = sl1 g (bk l g (upd (fun _ => false) x true) s.q) ∧ j ∈ L.filterMap (sl1 g (bk l g (upd (fun _ => false) x true) s.q)) ∧ (l j).hd = (l i).bd b := fun L hL hm => by
      unfold ns at hm
      rw [List.mem_map] at hm
      obtain ⟨e', he', hee⟩ := hm
      rcases h2 : e'.2 with _ | j
      · have := h.non e' (hL e' he') h2
        rw [hee] at this; rw [this] at hg'; cases hg'
      · refine ⟨j, rfl, List.mem_filterMap.2 ⟨e', he', ?_⟩, ((h.som e' (hL e' he') j h2).2).trans hee⟩
        unfold sl1; rw [hee, hn, hg', h2]; rfl
    rcases hin with hin | hin
    · obtain ⟨j, -, hj, hh⟩ := key P (fun e' he' => by rw [hq]; simp [he']) hin
      rw [hA] at hj
      exact List.mem_map.2 ⟨j, hj, hh⟩
    · obtain ⟨j, -, hj, -⟩ := key R (fun e' he' => by rw [hq, hQ']; simp [he']) hin
      have : R.filterMap (sl1 g (bk l g (upd (fun _ => false) x true) s.q)) = [] := List.filterMap_eq_nil_iff.2 hR
      rw [this] at hj; cases hj
/-- The goal is a fact, or the head of one of them. -/
theorem why_goal {l : Nat → Rl} {k : Nat} {g : Nat → Bool} {s : Sta} (h : Inv l k g s) {x : Nat} (hx : s.inn x = true) : g x = true ∨ x ∈ (why l g x s.q).map fun j => (l j).hd := by
  have hm := (h.mem x).1 hx
  unfold ns at hm
  rw [List.mem_map] at hm
  obtain ⟨e, he, hee⟩ := hm
  by_cases hg : g x = true
  · exact .inl hg
  · right
    have hg' : g x = false := by simpa using hg
    rcases h2 : e.2 with _ | j
    · have := h.non e he h2
      rw [hee] at this; exact absurd this hg
    · refine List.mem_map.2 ⟨j, List.mem_filterMap.2 ⟨e, he, ?_⟩, ((h.som e he j h2).2).trans hee⟩
      unfold sl1; rw [hee, (why_needs h x).2.2, hg', h2]; rfl
theorem sel_heads {l : Nat → Rl} {g N : Nat → Bool} : ∀ (q : List (Nat × Option Nat)), (∀ e, e ∈ q → ∀ i, e.2 = some i → (l i).hd = e.1) → ((sel g N q).map fun j => (l j).hd).Sublist (ns q)
  | [], _ => by simp [sel, ns]
  | e :: q, h => by
    have ih := sel_heads (l := l) (g := g) (N := N) q (fun e' he' => h e' (by simp [he']))
    show ((List.filterMap (sl1 g N) (e :: q)).map fun j => (l j).hd).Sublist (e.1 :: ns q)
    rw [List.filterMap_cons]
    cases hs : sl1 g N e with
    | none => exact ih.cons _
    | some i =>
      rw [List.map_cons, h e (by simp) i (sl1_some hs).2.2]
      exact ih.cons_cons _
theorem why_heads {l : Nat → Rl} {k : Nat} {g : Nat → Bool} {s : Sta} (h : Inv l k g s) (x : Nat) : ((why l g x s.q).map fun j => (l j).hd).Nodup :=
  h.nd.sublist (sel_heads s.q fun e he i hi => (h.som e he i hi).2)
theorem why_free {l : Nat → Rl} {k : Nat} {g : Nat → Bool} {s : Sta} (h : Inv l k g s) {x i : Nat} (hi : i ∈ why l g x s.q) : g (l i).hd = false ∧ bk l g (upd (fun _ => false) x true) s.q (l i).hd = true := by
  unfold why sel at hi
  rw [List.mem_filterMap] at hi
  obtain ⟨e, he, hs⟩ := hi
  obtain ⟨h1, h2, h3⟩ := sl1_some hs
  rw [(h.som e he i h3).2]; exact ⟨h2, h1⟩
/-- What hangs on the head of rule i. -/
inductive Hang (l : Nat → Rl) (W : List Nat) (i : Nat) : Nat → Prop
  | own : Hang l W i (l i).hd
  | by' (j b : Nat) : j ∈ W → b < (l j).nb → Hang l W i ((l j).bd b) → Hang l W i (l j).hd
theorem inj_heads {l : Nat → Rl} : ∀ {W : List Nat}, (W.map fun j => (l j).hd).Nodup → ∀ i j, i ∈ W → j ∈ W → (l i).hd = (l j).hd → i = j
  | [], _, i, _, hi, _, _ => by simp at hi
  | a :: W, h, i, j, hi, hj, e => by
    rw [List.map_cons, List.nodup_cons] at h
    rw [List.mem_cons] at hi hj
    rcases hi with rfl | hi
    · rcases hj with rfl | hj
      · rfl
      · exact absurd (List.mem_map.2 ⟨j, hj, e.symm⟩) h.1
    · rcases hj with rfl | hj
      · exact absurd (List.mem_map.2 ⟨i, hi, e⟩) h.1
      · exact inj_heads h.2 i j hi hj e
/-- Whatever came lies in each model with all facts. -/
theorem inv_model {l : Nat → Rl} {k : Nat} {g : Nat → Bool} {s : Sta} (h : Inv l k g s) {P : Nat → Prop} (hg : ∀ y, g y = true → P y) (hm : ∀ i, i < k → (∀ b, b < (l i).nb → P ((l i).bd b)) → P (l i).hd) : ∀ y, s.inn y = true → P y := by
  have key : ∀ n, n ≤ s.q.length → ∀ y, y ∈ ns (s.q.take n) → P y := by
    intro n
    induction n with
    | zero => intro _ y hy; simp [ns] at hy
    | succ n ih =>
      intro hn y hy
      have hq : s.q[n]? = some (s.q[n]'(by omega)) := List.getElem?_eq_getElem (by omega)
      generalize hse : s.q[n]'(by omega) = e at hq
      rw [List.take_add_one, hq, ns_append, List.mem_append] at hy
      rcases hy with hy | hy
      · exact ih (by omega) y hy
      · have hye : y = e.1 := by simpa [ns] using hy
        subst hye
        have he : e ∈ s.q := List.mem_of_getElem? hq
        rcases h2 : e.2 with _ | i
        · exact hg _ (h.non e he h2)
        · obtain ⟨hik, hh⟩ := h.som e he i h2
          rw [← hh]
          have hsp : s.q = s.q.take n ++ e :: s.q.drop (n + 1) := by
            have := List.take_append_drop n s.q
            rw [List.drop_eq_getElem_cons (by omega), hse] at this
            exact this.symm
          exact hm i hik fun b hb => ih (by omega) _ (h.ord _ e _ hsp i h2 b hb)
  intro y hy
  have := (h.mem y).1 hy
  exact key s.q.length (Nat.le_refl _) y (by rw [List.take_length]; exact this)
theorem split_same {r : Nat} : ∀ {A E B F : List Nat}, (A ++ r :: B).Nodup → A ++ r :: B = E ++ r :: F → A = E ∧ B = F
  | [], [], B, F, _, h => by simp at h; exact ⟨rfl, h⟩
  | [], e :: E, B, F, hn, h => by
    simp only [List.nil_append, List.cons_append, List.cons.injEq] at h
    rw [List.nil_append, List.nodup_cons, h.2] at hn
    exact absurd (by simp) hn.1
  | a :: A, [], B, F, hn, h => by
    simp only [List.nil_append, List.cons_append, List.cons.injEq] at h
    rw [List.cons_append, List.nodup_cons, h.1] at hn
    exact absurd (by simp) hn.1
  | a :: A, e :: E, B, F, hn, h => by
    simp only [List.cons_append, List.cons.injEq] at h
    rw [List.cons_append, List.nodup_cons] at hn
    obtain ⟨h1, h2⟩ := split_same hn.2 h.2
    exact ⟨by rw [h.1, h1], h2⟩
/-- A head that is in a body of one of them stands ahead of that one. -/
theorem hgoal_aux {l : Nat → Rl} {k : Nat} {g : Nat → Bool} {s : Sta} (h : Inv l k g s) {x j j' b : Nat} {A' B' : List Nat} (hs : why l g x s.q = A' ++ j :: B') (hj' : j' ∈ why l g x s.q) (hb : b < (l j').nb) (e : (l j').bd b = (l j).hd) (hjW : j ∈ why l g x s.q) (hB : ¬ j' ∈ B') : False := by
  obtain ⟨C, D, hCD⟩ := List.append_of_mem hj'
  have hnd := why_heads h x
  rcases why_ord h hCD hb with hg | hm
  · rw [e, (why_free h hjW).1] at hg; cases hg
  · rw [e, List.mem_map] at hm
    obtain ⟨r, hr, hrr⟩ := hm
    have hrW : r ∈ why l g x s.q := by rw [hCD]; simp [hr]
    have := inj_heads hnd r j hrW hjW hrr
    subst this
    obtain ⟨E, G, rfl⟩ := List.append_of_mem hr
    have hwn : (why l g x s.q).Nodup := (List.pairwise_map.1 hnd).imp fun {a b} hne hab => hne (by rw [hab])
    have h1 : A' ++ r :: B' = E ++ r :: (G ++ j' :: D) := by rw [← hs, hCD]; simp
    rw [hs] at hwn
    have hE : A' = E ∧ B' = G ++ j' :: D := split_same hwn h1
    exact hB (by rw [hE.2]; simp)
/-- Without one of the rules the goal does not follow. -/
theorem why_least {l : Nat → Rl} {k : Nat} {g : Nat → Bool} {s : Sta} (h : Inv l k g s) {x i : Nat} {A B : List Nat} (hW : why l g x s.q = A ++ i :: B)
    {l' : Nat → Rl} {k' : Nat} {s' : Sta} (h' : Inv l' k' g s') (hR : ∀ j, j < k' → ∃ r, r ∈ A ++ B ∧ l' j = l r) : s'.inn x = false := by
  have hnd := why_heads h x
  have hmem : ∀ r, r ∈ A ++ B → r ∈ why l g x s.q := fun r hr => by
    rw [hW]; simp only [List.mem_append, List.mem_cons] at hr ⊢
    rcases hr with hr | hr
    · exact .inl hr
    · exact .inr (.inr hr)
  have hiW : i ∈ why l g x s.q := by rw [hW]; simp
  have hiR : ¬ i ∈ A ++ B := fun hr => by
    rw [hW, List.map_append, List.map_cons, List.nodup_append, List.nodup_cons] at hnd
    rw [List.mem_append] at hr
    rcases hr with hr | hr
    · exact hnd.2.2 _ (List.mem_map.2 ⟨i, hr, rfl⟩) (l i).hd (by simp) rfl
    · exact hnd.2.1.1 (List.mem_map.2 ⟨i, hr, rfl⟩)
  have hback : ∀ y, Hang l (why l g x s.q) i y → ∀ r, r ∈ A ++ B → y = (l r).hd → ∃ b, b < (l r).nb ∧ Hang l (why l g x s.q) i ((l r).bd b) := by
    intro y hy
    cases hy with
    | own => intro r hr e; exact absurd (inj_heads hnd i r hiW (hmem r hr) e ▸ hr) hiR
    | by' j b hj hb hh => intro r hr e; have := inj_heads hnd j r hj (hmem r hr) e; subst this; exact ⟨b, hb, hh⟩
  have hfree : ∀ y, Hang l (why l g x s.q) i y → g y = false := by
    intro y hy
    cases hy with
    | own => exact (why_free h hiW).1
    | by' j b hj hb hh => exact (why_free h hj).1
  have hgoal : ∀ n (A' B' : List Nat) (j : Nat), why l g x s.q = A' ++ j :: B' → B'.length ≤ n → Hang l (why l g x s.q) i (l j).hd → Hang l (why l g x s.q) i x := by
    intro n
    induction n with
    | zero =>
      intro A' B' j hs hl hh
      have hjW : j ∈ why l g x s.q := by rw [hs]; simp
      rcases (why_needs h x).1 _ (why_free h hjW).2 with e | ⟨j', hj', b, hb, e⟩
      · rw [e] at hh; exact hh
      · have hB : B' = [] := List.length_eq_zero_iff.1 (by omega)
        exact (hgoal_aux h hs hj' hb e hjW (by rw [hB]; simp)).elim
    | succ n ih =>
      intro A' B' j hs hl hh
      have hjW : j ∈ why l g x s.q := by rw [hs]; simp
      rcases (why_needs h x).1 _ (why_free h hjW).2 with e | ⟨j', hj', b, hb, e⟩
      · rw [e] at hh; exact hh
      · by_cases hjB : j' ∈ B'
        · obtain ⟨C, D, rfl⟩ := List.append_of_mem hjB
          exact ih (A' ++ j :: C) D j' (by rw [hs]; simp) (by simp at hl; omega) (Hang.by' j' b hj' hb (by rw [e]; exact hh))
        · exact (hgoal_aux h hs hj' hb e hjW hjB).elim
  have hU : Hang l (why l g x s.q) i x := hgoal B.length A B i hW (Nat.le_refl _) Hang.own
  rw [← Bool.not_eq_true]
  intro hx
  refine inv_model h' (P := fun y => ¬ Hang l (why l g x s.q) i y) (fun y hy hh => by rw [hfree y hh] at hy; cases hy) (fun j hj hb hh => ?_) x hx hU
  obtain ⟨r, hr, e⟩ := hR j hj
  rw [e] at hb hh
  obtain ⟨b, hbb, h3⟩ := hback _ hh r hr rfl
  exact hb b hbb h3
end Ho
end M
end Go.Proofs.Ytpabnncfcklnpaa

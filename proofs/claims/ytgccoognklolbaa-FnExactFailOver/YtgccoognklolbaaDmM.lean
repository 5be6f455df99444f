/-
  Domains: which are good, what is put where, what two lists make together, who knows all: plain mathematics.
-/
import Derived.Test.YtgccoognklolbaaStN
namespace Go.Proofs.Ytgccoognklolbaa
open Go.RowKit M
namespace M
structure Dm where
  nm : ByteArray
  ver : Int
  nt : ByteArray
abbrev Dms := List Dm
def nms (l : Dms) : Txs := l.map Dm.nm
theorem nms_len (l : Dms) : (nms l).length = l.length := by simp [nms]
theorem nms_at {l : Dms} {i : Nat} {d : Dm} (h : l[i]? = some d) : (nms l)[i]? = some d.nm := by simp [nms, h]
theorem ltD {l : Dms} {k : Nat} {y : Dm} (hy : l[k]? = some y) : k < l.length := by
  rcases Nat.lt_or_ge k l.length with h' | h'
  · exact h'
  · rw [List.getElem?_eq_none h'] at hy; cases hy
/-- One telling is passed by another. -/
def lsD (a b : Dm) : Bool := decide (a.ver < b.ver) || (decide (a.ver = b.ver) && ltS a.nt b.nt)
def nw (a b : Dm) : Dm := if lsD a b = true then b else a
theorem nw_nm {a b : Dm} (h : a.nm = b.nm) : (nw a b).nm = a.nm := by
  unfold nw; split
  · exact h.symm
  · rfl
theorem lsD_iff (a b : Dm) : lsD a b = true ↔ a.ver < b.ver ∨ (a.ver = b.ver ∧ ltS a.nt b.nt = true) := by
  unfold lsD; simp
theorem Dm.ext' {a b : Dm} (h1 : a.nm = b.nm) (h2 : a.ver = b.ver) (h3 : a.nt = b.nt) : a = b := by
  cases a; cases b; simp_all
/-- Of the same name: what is told stays where the other does not pass it. -/
theorem nw_right {x y : Dm} (h : x.nm = y.nm) : nw x y = y ↔ lsD y x = false := by
  unfold nw
  constructor
  · intro e
    cases h1 : lsD y x with
    | false => rfl
    | true =>
      rw [lsD_iff] at h1
      by_cases h2 : lsD x y = true
      · rw [lsD_iff] at h2
        rcases h1 with h1 | ⟨h1, h1'⟩
        · rcases h2 with h2 | ⟨h2, _⟩ <;> omega
        · rcases h2 with h2 | ⟨_, h2'⟩
          · omega
          · rw [lt_asym h1'] at h2'; cases h2'
      · rw [if_neg h2] at e
        subst e
        rcases h1 with h1 | ⟨_, h1'⟩
        · omega
        · rw [lt_irr] at h1'; cases h1'
  · intro h1
    by_cases h2 : lsD x y = true
    · rw [if_pos h2]
    · rw [if_neg h2]
      have h1' : ¬ lsD y x = true := by rw [h1]; simp
      rw [lsD_iff] at h1' h2
      have e1 : x.ver = y.ver := by
        rcases (show x.ver < y.ver ∨ x.ver = y.ver ∨ y.ver < x.ver by omega) with c | c | c
        · exact absurd (.inl c) h2
        · exact c
        · exact absurd (.inl c) h1'
      rcases lt_tri x.nt y.nt with c | c | c
      · exact absurd (.inr ⟨e1, c⟩) h2
      · exact Dm.ext' h e1 c
      · exact absurd (.inr ⟨e1.symm, c⟩) h1'
def e0 : ByteArray := ⟨#[]⟩
def gD (d : Dm) : Prop := d.nm ≠ e0 ∧ gN d.nm = true ∧ inB d.ver 0 1000000 = true ∧ d.nt.size ≤ 20
/-- The domain at place i is good, and the one ahead of it is less. -/
def DAt (l : Dms) (i : Nat) : Prop := ∀ d, l[i]? = some d → gD d ∧ ∀ k e, k + 1 = i → l[k]? = some e → ltS e.nm d.nm = true
def DUp (l : Dms) (n : Nat) : Prop := ∀ i, i < n → DAt l i
def GoodDm (l : Dms) : Prop := l.length ≤ 12 ∧ DUp l l.length
theorem DUp.succ {l : Dms} {n : Nat} (h : DUp l n) (h2 : DAt l n) : DUp l (n + 1) := fun i hi => by
  by_cases e : i = n
  · subst e; exact h2
  · exact h i (by omega)
theorem DUp.bad {l : Dms} {k : Nat} (hk : k < l.length) (h : ¬ DAt l k) : ¬ GoodDm l := fun hn => h (hn.2 k hk)
open Classical in
noncomputable def gdB (l : Dms) : Bool := decide (GoodDm l)
open Classical in
theorem gdB_iff {l : Dms} : gdB l = true ↔ GoodDm l := by unfold gdB; exact decide_eq_true_iff
theorem gdB_yes {l : Dms} (h : GoodDm l) : gdB l = true := gdB_iff.2 h
theorem gdB_no {l : Dms} (h : ¬ GoodDm l) : gdB l = false := by
  cases e : gdB l with
  | false => rfl
  | true => exact absurd (gdB_iff.1 e) h
/-- Names that rise. -/
def RiD (l : Dms) : Prop := l.Pairwise (fun a b => ltS a.nm b.nm = true)
theorem RiD.rise {l : Dms} (h : RiD l) : Rise (nms l) := fun i x y hx hy => by
  unfold nms at hx hy
  rw [List.getElem?_map] at hx hy
  cases h1 : l[i]? with
  | none => rw [h1] at hx; cases hx
  | some a =>
    cases h2 : l[i + 1]? with
    | none => rw [h2] at hy; cases hy
    | some b =>
      rw [h1] at hx; rw [h2] at hy
      simp only [Option.map_some, Option.some.injEq] at hx hy
      subst hx; subst hy
      have l1 := ltD h1
      have l2 := ltD h2
      rw [List.getElem?_eq_getElem l1] at h1
      rw [List.getElem?_eq_getElem l2] at h2
      simp only [Option.some.injEq] at h1 h2
      subst h1; subst h2
      exact List.pairwise_iff_getElem.1 h i (i + 1) l1 l2 (by omega)
theorem GoodDm.rise {l : Dms} (h : GoodDm l) : Rise (nms l) := fun i x y hx hy => by
  have hl : i + 1 < l.length := by have := lt_of_get hy; rwa [nms_len] at this
  have hy' : l[i + 1]? = some l[i + 1] := List.getElem?_eq_getElem hl
  have hx' : l[i]? = some l[i] := List.getElem?_eq_getElem (by omega)
  have h1 := (h.2 (i + 1) hl _ hy').2 i _ rfl hx'
  rw [nms_at hx'] at hx
  rw [nms_at hy'] at hy
  simp only [Option.some.injEq] at hx hy
  subst hx; subst hy; exact h1
theorem GoodDm.rid {l : Dms} (h : GoodDm l) : RiD l := by
  unfold RiD
  rw [List.pairwise_iff_getElem]
  intro i j hi hj hij
  exact h.rise.lt2 hij (nms_at (List.getElem?_eq_getElem hi)) (nms_at (List.getElem?_eq_getElem hj))
theorem GoodDm.good {l : Dms} (h : GoodDm l) : ∀ d ∈ l, gD d := fun d hd => by
  obtain ⟨i, hi, rfl⟩ := List.mem_iff_getElem.1 hd
  exact (h.2 i hi _ (List.getElem?_eq_getElem hi)).1
theorem gD.nms {d : Dm} (h : gD d) : d.nm.size ≤ 12 := gN_size h.2.1
/-- Where a domain belongs by its name, and the list with it put there, the newer one of a name being kept. -/
def pl (l : Dms) (x : ByteArray) : Nat := ps (nms l) x
def fd (l : Dms) (x : ByteArray) : Bool := fnd (nms l) x
def ins (l : Dms) (d : Dm) : Dms := if fd l d.nm = true then l.set (pl l d.nm) (nw (l[pl l d.nm]?.getD d) d) else l.take (pl l d.nm) ++ d :: l.drop (pl l d.nm)
theorem pl_le (l : Dms) (x : ByteArray) : pl l x ≤ l.length := by have := ps_le (nms l) x; rwa [nms_len] at this
theorem pl_nil (x : ByteArray) : pl [] x = 0 := rfl
theorem fd_nil (x : ByteArray) : fd [] x = false := rfl
theorem pl_lt {a : Dm} {r : Dms} {x : ByteArray} (h : ltS a.nm x = true) : pl (a :: r) x = pl r x + 1 := by
  unfold pl ps nms; rw [List.map_cons, List.takeWhile_cons, h]; simp
theorem pl_ge {a : Dm} {r : Dms} {x : ByteArray} (h : ltS a.nm x = false) : pl (a :: r) x = 0 := by
  unfold pl ps nms; rw [List.map_cons, List.takeWhile_cons, h]; simp
theorem fd_iff (l : Dms) (x : ByteArray) : fd l x = true ↔ ∃ d, l[pl l x]? = some d ∧ d.nm = x := by
  unfold fd fnd pl
  rw [decide_eq_true_eq]
  unfold nms
  rw [List.getElem?_map]
  cases h : l[ps (l.map Dm.nm) x]? with
  | none => simp
  | some d => simp
theorem fd_lt {a : Dm} {r : Dms} {x : ByteArray} (h : ltS a.nm x = true) : fd (a :: r) x = fd r x := by
  rw [Bool.eq_iff_iff, fd_iff, fd_iff, pl_lt h]; simp
theorem fd_ge {a : Dm} {r : Dms} {x : ByteArray} (h : ltS a.nm x = false) : fd (a :: r) x = decide (a.nm = x) := by
  rw [Bool.eq_iff_iff, fd_iff, pl_ge h]; simp
theorem ins_nil (d : Dm) : ins [] d = [d] := rfl
theorem ins_lt {x d : Dm} {r : Dms} (h : ltS x.nm d.nm = true) : ins (x :: r) d = x :: ins r d := by
  unfold ins
  rw [fd_lt h, pl_lt h]
  split <;> simp
theorem ins_gt {x d : Dm} {r : Dms} (h : ltS d.nm x.nm = true) : ins (x :: r) d = d :: x :: r := by
  unfold ins
  have h1 := lt_asym h
  have h2 : x.nm ≠ d.nm := fun e => by rw [e, lt_irr] at h; cases h
  rw [fd_ge h1, pl_ge h1, decide_eq_false h2]; simp
theorem ins_eq {x d : Dm} {r : Dms} (h : x.nm = d.nm) : ins (x :: r) d = nw x d :: r := by
  unfold ins
  have h1 : ltS x.nm d.nm = false := by rw [h]; exact lt_irr _
  rw [fd_ge h1, pl_ge h1, decide_eq_true h]; simp
theorem ins_names {d : Dm} : ∀ {l : Dms} {y : Dm}, y ∈ ins l d → y.nm = d.nm ∨ ∃ z ∈ l, z.nm = y.nm
  | [], y, h => by rw [ins_nil] at h; simp at h; exact .inl (by rw [h])
  | x :: r, y, h => by
    rcases lt_tri x.nm d.nm with c | c | c
    · rw [ins_lt c, List.mem_cons] at h
      rcases h with h | h
      · exact .inr ⟨x, by simp, by rw [h]⟩
      · rcases ins_names h with k | ⟨z, hz, k⟩
        · exact .inl k
        · exact .inr ⟨z, by simp [hz], k⟩
    · rw [ins_eq c, List.mem_cons] at h
      rcases h with h | h
      · exact .inl (by rw [h, nw_nm c, c])
      · exact .inr ⟨y, by simp [h], rfl⟩
    · rw [ins_gt c, List.mem_cons] at h
      rcases h with h | h
      · exact .inl (by rw [h])
      · exact .inr ⟨y, h, rfl⟩
theorem ins_from {d : Dm} : ∀ {l : Dms} {y : Dm}, y ∈ ins l d → y = d ∨ y ∈ l
  | [], y, h => by rw [ins_nil] at h; simp at h; exact .inl h
  | x :: r, y, h => by
    rcases lt_tri x.nm d.nm with c | c | c
    · rw [ins_lt c, List.mem_cons] at h
      rcases h with h | h
      · exact .inr (by simp [h])
      · rcases ins_from h with k | k
        · exact .inl k
        · exact .inr (by simp [k])
    · rw [ins_eq c, List.mem_cons] at h
      rcases h with h | h
      · unfold nw at h
        split at h
        · exact .inl h
        · exact .inr (by simp [h])
      · exact .inr (by simp [h])
    · rw [ins_gt c, List.mem_cons] at h
      exact h
theorem ins_len (l : Dms) (d : Dm) : (ins l d).length ≤ l.length + 1 := by
  have := pl_le l d.nm
  unfold ins; split
  · simp
  · simp; omega
theorem RiD.ins {d : Dm} : ∀ {l : Dms}, RiD l → RiD (ins l d)
  | [], _ => by rw [ins_nil]; exact List.pairwise_singleton _ _
  | x :: r, h => by
    obtain ⟨h1, h2⟩ := List.pairwise_cons.1 h
    rcases lt_tri x.nm d.nm with c | c | c
    · rw [ins_lt c]
      refine List.pairwise_cons.2 ⟨fun y hy => ?_, RiD.ins (l := r) h2⟩
      rcases ins_names hy with k | ⟨z, hz, k⟩
      · rw [k]; exact c
      · rw [← k]; exact h1 z hz
    · rw [ins_eq c]
      exact List.pairwise_cons.2 ⟨fun y hy => by rw [nw_nm c]; exact h1 y hy, h2⟩
    · rw [ins_gt c]
      refine List.pairwise_cons.2 ⟨fun y hy => ?_, h⟩
      rcases List.mem_cons.1 hy with k | k
      · rw [k]; exact c
      · exact lt_trans c (h1 y k)
/-- Words put together one by one. -/
def fo (l b : Dms) : Dms := b.foldl ins l
theorem fo_cons (l : Dms) (d : Dm) (b : Dms) : fo l (d :: b) = fo (ins l d) b := rfl
theorem fo_app (l a b : Dms) : fo l (a ++ b) = fo (fo l a) b := by unfold fo; rw [List.foldl_append]
theorem fo_one (l : Dms) (d : Dm) : fo l [d] = ins l d := rfl
theorem RiD.fo : ∀ {b l : Dms}, RiD l → RiD (fo l b)
  | [], _, h => h
  | d :: b, _, h => RiD.fo (b := b) (RiD.ins (d := d) h)
theorem fo_len : ∀ (b l : Dms), (fo l b).length ≤ l.length + b.length
  | [], l => by simp [fo]
  | d :: b, l => by
    have h1 := fo_len b (ins l d)
    have h2 := ins_len l d
    rw [fo_cons]; simp; omega
theorem fo_from : ∀ {b l : Dms} {y : Dm}, y ∈ fo l b → y ∈ l ∨ y ∈ b
  | [], _, _, h => .inl h
  | d :: b, l, y, h => by
    rw [fo_cons] at h
    rcases fo_from h with k | k
    · rcases ins_from k with k | k
      · exact .inr (by simp [k])
      · exact .inl k
    · exact .inr (by simp [k])
theorem fo_head {x : Dm} : ∀ {b a : Dms}, (∀ d ∈ b, ltS x.nm d.nm = true) → fo (x :: a) b = x :: fo a b
  | [], a, _ => rfl
  | d :: b, a, h => by
    rw [fo_cons, fo_cons, ins_lt (h d (by simp))]
    exact fo_head (fun e he => h e (by simp [he]))
/-- Two lists of rising names put together. -/
def mrg : Dms → Dms → Dms
  | [], b => b
  | x :: a, [] => x :: a
  | x :: a, y :: b => if ltS x.nm y.nm = true then x :: mrg a (y :: b) else if ltS y.nm x.nm = true then y :: mrg (x :: a) b else nw x y :: mrg a b
termination_by a b => a.length + b.length
theorem mrg_nil (b : Dms) : mrg [] b = b := by unfold mrg; rfl
theorem mrg_nil2 (a : Dms) : mrg a [] = a := by cases a <;> unfold mrg <;> rfl
theorem mrg_lt {x y : Dm} {a b : Dms} (h : ltS x.nm y.nm = true) : mrg (x :: a) (y :: b) = x :: mrg a (y :: b) := by
  rw [mrg, if_pos h]
theorem mrg_gt {x y : Dm} {a b : Dms} (h : ltS y.nm x.nm = true) : mrg (x :: a) (y :: b) = y :: mrg (x :: a) b := by
  rw [mrg, if_neg (by rw [lt_asym h]; simp), if_pos h]
theorem mrg_eq {x y : Dm} {a b : Dms} (h : x.nm = y.nm) : mrg (x :: a) (y :: b) = nw x y :: mrg a b := by
  rw [mrg, if_neg (by rw [h, lt_irr]; simp), if_neg (by rw [h, lt_irr]; simp)]
theorem fo_nil : ∀ {b : Dms}, RiD b → fo [] b = b
  | [], _ => rfl
  | d :: b, h => by
    obtain ⟨h1, h2⟩ := List.pairwise_cons.1 h
    rw [fo_cons, ins_nil, fo_head h1, fo_nil h2]
theorem fo_mrg : ∀ (n : Nat) (a b : Dms), a.length + b.length ≤ n → RiD a → RiD b → fo a b = mrg a b
  | _, [], b, _, _, hb => by rw [mrg_nil]; exact fo_nil hb
  | _, x :: a, [], _, _, _ => by rw [mrg_nil2]; rfl
  | 0, x :: a, y :: b, hn, _, _ => by simp at hn
  | n + 1, x :: a, y :: b, hn, ha, hb => by
    obtain ⟨a1, a2⟩ := List.pairwise_cons.1 ha
    obtain ⟨b1, b2⟩ := List.pairwise_cons.1 hb
    simp only [List.length_cons] at hn
    rcases lt_tri x.nm y.nm with c | c | c
    · rw [mrg_lt c, fo_head, fo_mrg n a (y :: b) (by simp; omega) a2 hb]
      intro d hd
      rcases List.mem_cons.1 hd with k | k
      · rw [k]; exact c
      · exact lt_trans c (b1 d k)
    · rw [mrg_eq c, fo_cons, ins_eq c, fo_head, fo_mrg n a b (by omega) a2 b2]
      intro d hd
      rw [nw_nm c, c]; exact b1 d hd
    · rw [mrg_gt c, fo_cons, ins_gt c, fo_head b1, fo_mrg n (x :: a) b (by simp; omega) ha b2]
theorem put_all {a b : Dms} (ha : RiD a) (hb : RiD b) : fo [] (a ++ b) = mrg a b := by
  rw [fo_app, fo_nil ha, fo_mrg _ a b (Nat.le_refl _) ha hb]
theorem mrg_len {a b : Dms} (ha : RiD a) (hb : RiD b) : (mrg a b).length ≤ a.length + b.length := by
  rw [← fo_mrg _ a b (Nat.le_refl _) ha hb]; exact fo_len b a
/-- Whether b knows all of a, or better. -/
def Kn (a b : Dms) : Prop := ∀ x ∈ a, ∃ y ∈ b, y.nm = x.nm ∧ lsD y x = false
theorem mrg_kn : ∀ (n : Nat) (a b : Dms), a.length + b.length ≤ n → RiD a → RiD b → (mrg a b = b ↔ Kn a b)
  | _, [], b, _, _, _ => by rw [mrg_nil]; exact ⟨fun _ x hx => by simp at hx, fun _ => rfl⟩
  | _, x :: a, [], _, _, _ => by
    rw [mrg_nil2]
    constructor
    · intro h; cases h
    · intro h; obtain ⟨y, hy, _⟩ := h x (by simp); simp at hy
  | 0, x :: a, y :: b, hn, _, _ => by simp at hn
  | n + 1, x :: a, y :: b, hn, ha, hb => by
    obtain ⟨a1, a2⟩ := List.pairwise_cons.1 ha
    obtain ⟨b1, b2⟩ := List.pairwise_cons.1 hb
    simp only [List.length_cons] at hn
    rcases lt_tri x.nm y.nm with c | c | c
    · rw [mrg_lt c]
      constructor
      · intro h
        simp only [List.cons.injEq] at h
        rw [h.1, lt_irr] at c; cases c
      · intro h
        obtain ⟨z, hz, e, _⟩ := h x (by simp)
        rcases List.mem_cons.1 hz with k | k
        · rw [← e, k, lt_irr] at c; cases c
        · have := lt_trans c (b1 z k)
          rw [e, lt_irr] at this; cases this
    · rw [mrg_eq c, List.cons.injEq, nw_right c, mrg_kn n a b (by omega) a2 b2]
      constructor
      · rintro ⟨h1, h2⟩ z hz
        rcases List.mem_cons.1 hz with k | k
        · exact ⟨y, by simp, by rw [k]; exact c.symm, by rw [k]; exact h1⟩
        · obtain ⟨u, hu, e⟩ := h2 z k
          exact ⟨u, by simp [hu], e⟩
      · intro h
        refine ⟨?_, fun z hz => ?_⟩
        · obtain ⟨u, hu, e, e2⟩ := h x (by simp)
          rcases List.mem_cons.1 hu with k | k
          · rw [k] at e2; exact e2
          · have := b1 u k
            rw [e, c, lt_irr] at this; cases this
        · obtain ⟨u, hu, e, e2⟩ := h z (by simp [hz])
          rcases List.mem_cons.1 hu with k | k
          · have := a1 z hz
            rw [c, ← k, e, lt_irr] at this; cases this
          · exact ⟨u, k, e, e2⟩
    · rw [mrg_gt c, List.cons.injEq, mrg_kn n (x :: a) b (by simp; omega) ha b2]
      constructor
      · rintro ⟨_, h⟩ z hz
        obtain ⟨u, hu, e⟩ := h z hz
        exact ⟨u, by simp [hu], e⟩
      · intro h
        refine ⟨rfl, fun z hz => ?_⟩
        obtain ⟨u, hu, e, e2⟩ := h z hz
        rcases List.mem_cons.1 hu with k | k
        · exfalso
          rw [← k, e] at c
          rcases List.mem_cons.1 hz with k2 | k2
          · rw [k2, lt_irr] at c; cases c
          · have := lt_trans c (a1 z k2)
            rw [lt_irr] at this; cases this
        · exact ⟨u, k, e, e2⟩
theorem knows {a b : Dms} (ha : RiD a) (hb : RiD b) : fo [] (a ++ b) = b ↔ Kn a b := by
  rw [put_all ha hb]; exact mrg_kn _ a b (Nat.le_refl _) ha hb
/-- A domain that is there gets a greater version. -/
theorem ins_set {l : Dms} {d : Dm} {n : Int} (hd : l[pl l d.nm]? = some d) (hn : d.ver < n) : ins l ⟨d.nm, n, d.nt⟩ = l.set (pl l d.nm) ⟨d.nm, n, d.nt⟩ := by
  unfold ins
  have hf : fd l d.nm = true := (fd_iff _ _).2 ⟨d, hd, rfl⟩
  show (if fd l d.nm = true then l.set (pl l d.nm) (nw ((l[pl l d.nm]?).getD _) _) else _) = _
  rw [if_pos hf, hd]
  show l.set _ (nw d _) = _
  unfold nw
  rw [if_pos ((lsD_iff _ _).2 (.inl hn))]
theorem at_place {l : Dms} (h : Rise (nms l)) {i : Nat} {d : Dm} (hd : l[i]? = some d) : pl l d.nm = i ∧ fd l d.nm = true := by
  have h1 := nms_at hd
  have e : ps (nms l) d.nm = i := by
    rcases (show i < ps (nms l) d.nm ∨ i = ps (nms l) d.nm ∨ ps (nms l) d.nm < i by omega) with k | k | k
    · have := ps_lt _ _ i _ k h1; rw [lt_irr] at this; cases this
    · exact k.symm
    · have := ps_gt h k h1; rw [lt_irr] at this; cases this
  refine ⟨e, (fd_iff _ _).2 ⟨d, ?_, rfl⟩⟩
  unfold pl; rw [e]; exact hd
theorem not_there {l : Dms} (h : Rise (nms l)) {x : ByteArray} (hf : fd l x = false) : ∀ d ∈ l, d.nm ≠ x := fun d hd e => by
  obtain ⟨i, hi⟩ := List.mem_iff_getElem?.1 hd
  have := (at_place h hi).2
  rw [e, hf] at this; cases this
/-- The next version at which a region leads. -/
def nx (v r : Int) : Int := if v - v % 10 + r ≤ v then v - v % 10 + r + 10 else v - v % 10 + r
theorem nx_gt {v r : Int} (hr : 0 ≤ r) (hr2 : r ≤ 9) : v < nx v r ∧ nx v r ≤ v + 10 := by
  unfold nx; split <;> omega
def NxOk (v r : Int) : Prop := (0 ≤ v ∧ v ≤ 1000000) ∧ (0 ≤ r ∧ r ≤ 9) ∧ nx v r ≤ 1000000
end M
end Go.Proofs.Ytgccoognklolbaa

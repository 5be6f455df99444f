/-
  Rows of triples in memory (two numbers and branches): regions, and what is said to one.
-/
import Derived.Test.YtjgopjnkkhkcnaaGreatDoorRgX
import Derived.Test.YtjgopjnkkhkcnaaGreatDoorBrHd
namespace Go.Proofs.YtjgopjnkkhkcnaaGreatDoor
open Go.RowKit M
open Go.Sort (grow)
namespace M
/-- A triple in memory: two numbers, branches' value and what it holds, and between which blocks that lies. -/
structure Tp where
  a : Int
  b : Int
  v : Value
  ps : Prs
  lo : Nat
  hi : Nat
abbrev Tp.rg (t : Tp) : Rg := ⟨t.a, t.b, bsP t.ps⟩
def rgs (ts : List Tp) : List Rg := ts.map Tp.rg
theorem rgs_len (ts : List Tp) : (rgs ts).length = ts.length := by simp [rgs]
theorem rgs_at {ts : List Tp} {i : Nat} {t : Tp} (h : ts[i]? = some t) : (rgs ts)[i]? = some t.rg := by
  unfold rgs; rw [List.getElem?_map, h]; rfl
theorem rgs_of {ts : List Tp} {i : Nat} {r : Rg} (h : (rgs ts)[i]? = some r) : ∃ t, ts[i]? = some t ∧ t.rg = r := by
  unfold rgs at h
  rw [List.getElem?_map] at h
  cases ht : ts[i]? with
  | none => rw [ht] at h; simp at h
  | some t => rw [ht] at h; simp at h; exact ⟨t, rfl, h⟩
def cellsT : List Tp → List Value
  | [] => []
  | t :: r => .int .i64 t.a :: .int .i64 t.b :: t.v :: cellsT r
theorem cellsT_len : ∀ l : List Tp, (cellsT l).length = l.length * 3
  | [] => rfl
  | t :: r => by simp [cellsT, cellsT_len r]; omega
theorem cellsT_at : ∀ (l : List Tp) (i : Nat) (t : Tp), l[i]? = some t → (cellsT l)[i * 3]? = some (.int .i64 t.a) ∧ (cellsT l)[i * 3 + 1]? = some (.int .i64 t.b) ∧ (cellsT l)[i * 3 + 2]? = some t.v
  | [], i, e, h => by simp at h
  | x :: r, 0, e, h => by simp at h; subst h; simp [cellsT]
  | x :: r, i + 1, e, h => by
    obtain ⟨a, b, c⟩ := cellsT_at r i e (by simpa using h)
    have q : (i + 1) * 3 = i * 3 + 1 + 1 + 1 := by omega
    rw [q]
    simp only [cellsT, List.getElem?_cons_succ, a, b, c, and_self]
theorem cellsT_app : ∀ a b : List Tp, cellsT (a ++ b) = cellsT a ++ cellsT b
  | [], b => rfl
  | e :: r, b => by simp [cellsT, cellsT_app r b]
theorem cellsT_a : ∀ (l : List Tp) (i : Nat) (t : Tp) (x : Int), l[i]? = some t → (cellsT l).set (i * 3) (.int .i64 x) = cellsT (l.set i ⟨x, t.b, t.v, t.ps, t.lo, t.hi⟩)
  | [], i, e, x, h => by simp at h
  | y :: r, 0, e, x, h => by simp at h; subst h; simp [cellsT]
  | y :: r, i + 1, e, x, h => by
    rw [show (i + 1) * 3 = i * 3 + 1 + 1 + 1 by omega]
    simp only [cellsT, List.set_cons_succ]
    rw [cellsT_a r i e x (by simpa using h)]
theorem cellsT_b : ∀ (l : List Tp) (i : Nat) (t : Tp) (x : Int), l[i]? = some t → (cellsT l).set (i * 3 + 1) (.int .i64 x) = cellsT (l.set i ⟨t.a, x, t.v, t.ps, t.lo, t.hi⟩)
  | [], i, e, x, h => by simp at h
  | y :: r, 0, e, x, h => by simp at h; subst h; simp [cellsT]
  | y :: r, i + 1, e, x, h => by
    rw [show (i + 1) * 3 + 1 = i * 3 + 1 + 1 + 1 + 1 by omega]
    simp only [cellsT, List.set_cons_succ]
    rw [cellsT_b r i e x (by simpa using h)]
theorem cellsT_set : ∀ (l : List Tp) (i : Nat) (t x : Tp), l[i]? = some t → (((cellsT l).set (i * 3) (.int .i64 x.a)).set (i * 3 + 1) (.int .i64 x.b)).set (i * 3 + 2) x.v = cellsT (l.set i x)
  | [], i, e, x, h => by simp at h
  | y :: r, 0, e, x, h => by simp at h; subst h; simp [cellsT]
  | y :: r, i + 1, e, x, h => by
    rw [show (i + 1) * 3 + 2 = i * 3 + 2 + 1 + 1 + 1 by omega, show (i + 1) * 3 + 1 = i * 3 + 1 + 1 + 1 + 1 by omega, show (i + 1) * 3 = i * 3 + 1 + 1 + 1 by omega]
    simp only [cellsT, List.set_cons_succ]
    rw [cellsT_set r i e x (by simpa using h)]
/-- The cells of two lists are the same where their numbers and values are. -/
theorem cellsT_same : ∀ (l : List Tp) (i : Nat) (t : Tp) (qs : Prs) (lo hi : Nat), l[i]? = some t → cellsT (l.set i ⟨t.a, t.b, t.v, qs, lo, hi⟩) = cellsT l
  | [], i, e, _, _, _, h => by simp at h
  | y :: r, 0, e, _, _, _, h => by simp at h; subst h; simp [cellsT]
  | y :: r, i + 1, e, qs, lo, hi, h => by
    simp only [List.set_cons_succ, cellsT]
    rw [cellsT_same r i e qs lo hi (by simpa using h)]
theorem mem_set {α : Type} {l : List α} {j : Nat} {x y : α} (h : y ∈ l.set j x) : y ∈ l ∨ y = x := List.mem_or_eq_of_mem_set h
/-- The three cells of a triple; where it is asked, the branches' value has room for what it holds. -/
def T3 (c : Bool) (w : World) (b o : Nat) (r : Rg) : Prop := ∃ u, (w.cell? ⟨b, o, none⟩ = some (.int .i64 r.id) ∧ w.cell? ⟨b, o + 1, none⟩ = some (.int .i64 r.ver) ∧ w.cell? ⟨b, o + 2, none⟩ = some u) ∧ BrsOf w u r.bs ∧ (c = true → CapOk u)
theorem T3.below {c : Bool} {w w' : World} {b o : Nat} {r : Rg} (h : T3 c w b o r) (hb : Below w.heap.size w w') (hB : b < w.heap.size) : T3 c w' b o r := by
  obtain ⟨u, ⟨h0, h1, h2⟩, h3, h4⟩ := h
  exact ⟨u, ⟨(hb.cell hB).trans h0, (hb.cell hB).trans h1, (hb.cell hB).trans h2⟩, h3.below hb, h4⟩
/-- A slice of triples that is read. -/
def TpsOf (c : Bool) (w : World) (v : Value) (rs : List Rg) : Prop :=
  ∃ a cap, v = .slice a rs.length cap ∧ (0 < rs.length → ∃ b off, a = some ⟨b, off, none⟩ ∧ b < w.heap.size ∧ ∀ (i : Nat) r, rs[i]? = some r → T3 c w b (off + i * 3) r)
theorem TpsOf.below {c : Bool} {w w' : World} {v : Value} {rs : List Rg} (h : TpsOf c w v rs) (hb : Below w.heap.size w w') : TpsOf c w' v rs := by
  obtain ⟨a, cap, hv, hr⟩ := h
  refine ⟨a, cap, hv, fun hn => ?_⟩
  obtain ⟨b, off, ha, hlt, hrow⟩ := hr hn
  exact ⟨b, off, ha, Nat.lt_of_lt_of_le hlt hb.size, fun i x hi => (hrow i x hi).below hb hlt⟩
theorem TpsOf.form {c : Bool} {w : World} {v : Value} {rs : List Rg} (h : TpsOf c w v rs) : ∃ a cap, v = .slice a rs.length cap := by
  obtain ⟨a, cap, hv, _⟩ := h; exact ⟨a, cap, hv⟩
theorem TpsOf.nil (c : Bool) (w : World) (a : Option Addr) (k : Nat) : TpsOf c w (.slice a 0 k) [] := ⟨a, k, rfl, fun h => absurd h (Nat.lt_irrefl _)⟩
/-- One of them. -/
theorem TpsOf.at {c : Bool} {w : World} {a : Option Addr} {n cap : Nat} {rs : List Rg} (h : TpsOf c w (.slice a n cap) rs) {i : Nat} {r : Rg} (hi : rs[i]? = some r) : ∃ b off, a = some ⟨b, off, none⟩ ∧ b < w.heap.size ∧ T3 c w b (off + i * 3) r := by
  obtain ⟨a2, cap2, hv, hr⟩ := h
  simp only [Value.slice.injEq] at hv
  obtain ⟨rfl, rfl, rfl⟩ := hv
  have hl := (List.getElem?_eq_some_iff.1 hi).1
  obtain ⟨b, off, ha, hlt, hrow⟩ := hr (by omega)
  exact ⟨b, off, ha, hlt, hrow i r hi⟩
theorem TpsOf.weak {c : Bool} {w : World} {v : Value} {rs : List Rg} (h : TpsOf c w v rs) : TpsOf false w v rs := by
  obtain ⟨a, cap, hv, hr⟩ := h
  refine ⟨a, cap, hv, fun hn => ?_⟩
  obtain ⟨b, off, ha, hlt, hrow⟩ := hr hn
  refine ⟨b, off, ha, hlt, fun i x hi => ?_⟩
  obtain ⟨u, h1, h2, _⟩ := hrow i x hi
  exact ⟨u, h1, h2, fun h => by cases h⟩
/-- All blocks but some are as they were. -/
structure KeptS (S : Nat → Prop) (w w' : World) : Prop where
  os : w'.os = w.os
  tape : w'.tape = w.tape
  output : w'.output = w.output
  size : w.heap.size ≤ w'.heap.size
  block : ∀ k, k < w.heap.size → ¬ S k → w'.heap[k]? = w.heap[k]?
theorem KeptS.refl (S : Nat → Prop) (w : World) : KeptS S w w := ⟨rfl, rfl, rfl, Nat.le_refl _, fun _ _ _ => rfl⟩
theorem KeptS.trans {S : Nat → Prop} {a b c : World} (h : KeptS S a b) (h2 : KeptS S b c) : KeptS S a c :=
  ⟨h2.os.trans h.os, h2.tape.trans h.tape, h2.output.trans h.output, Nat.le_trans h.size h2.size, fun k hk hl => (h2.block k (Nat.lt_of_lt_of_le hk h.size) hl).trans (h.block k hk hl)⟩
theorem KeptS.wide {S T : Nat → Prop} {w w' : World} (h : KeptS S w w') (hs : ∀ k, S k → T k) : KeptS T w w' := ⟨h.os, h.tape, h.output, h.size, fun k hk hl => h.block k hk (fun hh => hl (hs k hh))⟩
theorem KeptB.toS {lo hi : Nat} {w w' : World} (h : KeptB lo hi w w') : KeptS (fun k => lo ≤ k ∧ k < hi) w w' := ⟨h.os, h.tape, h.output, h.size, fun k hk hl => h.block k hk (by omega)⟩
theorem KeptS.toB {S : Nat → Prop} {lo hi : Nat} {w w' : World} (h : KeptS S w w') (hs : ∀ k, S k → lo ≤ k ∧ k < hi) : KeptB lo hi w w' := ⟨h.os, h.tape, h.output, h.size, fun k hk hl => h.block k hk (fun hh => by have := hs k hh; omega)⟩
theorem KeptS.grown {w w' : World} {row : Option Nat} (h : w.grownBy w' row) : KeptS (fun k => row = some k) w w' := ⟨h.os, h.tape, h.output, h.size, fun k hk hl => h.block k hk (fun e => hl e.symm)⟩
theorem KeptS.set (w : World) (g i : Nat) (x : Value) : KeptS (fun k => k = g) w (w.setCell ⟨g, i, none⟩ x) := (KeptS.grown (gbT_set (gbT_refl w (some g)))).wide (fun k h => by simp only [Option.some.injEq] at h; exact h.symm)
theorem Below.keptS {w w1 : World} (h : Below w.heap.size w w1) (S : Nat → Prop) : KeptS S w w1 := ⟨h.os, h.tape, h.output, h.size, fun k hk _ => h.block k hk⟩
theorem owns_S {S : Nat → Prop} {w w' : World} {B e s n : Nat} {v : Value} {l : List Value} (h : w.ownsRow B e s v n l) (hk : KeptS S w w') (hB : ∀ g, v.ownBlock = some g → ¬ S g) : w'.ownsRow B e s v n l := by
  refine ⟨h.1, ?_⟩
  rcases h.2 with h0 | ⟨g, cap, cur, hv, hB', hb, r⟩
  · exact .inl h0
  · refine .inr ⟨g, cap, cur, hv, hB', ?_, r⟩
    have hlt : g < w.heap.size := by
      rcases Nat.lt_or_ge g w.heap.size with h' | h'
      · exact h'
      · rw [Array.getElem?_eq_none h'] at hb; cases hb
    rw [hk.block g hlt (hB g (by rw [hv]; rfl))]; exact hb
theorem OwnP.keptS {S : Nat → Prop} {w w' : World} {B lo hi : Nat} {v : Value} {ps : Prs} (h : OwnP w B v ps) (hin : Within lo hi v ps) (hk : KeptS S w w') (hs : ∀ k, lo ≤ k → k < hi → ¬ S k) : OwnP w' B v ps :=
  ⟨owns_S h.row hk (fun g hg => hs g (hin.1 g hg).1 (hin.1 g hg).2), fun p hp => owns_S (h.evs p hp) hk (fun g hg => hs g (hin.2 p hp g hg).1 (hin.2 p hp g hg).2), h.ap⟩
theorem Within.wide {lo hi lo' hi' : Nat} {v : Value} {ps : Prs} (h : Within lo hi v ps) (h1 : lo' ≤ lo) (h2 : hi ≤ hi') : Within lo' hi' v ps :=
  ⟨fun g hg => by have := h.1 g hg; omega, fun p hp g hg => by have := h.2 p hp g hg; omega⟩
theorem Within.vs {lo hi : Nat} {v : Value} {ps qs : Prs} (h : Within lo hi v ps) (hv : vsP qs = vsP ps) : Within lo hi v qs := by
  refine ⟨h.1, fun p hp => ?_⟩
  have hm : p.1 ∈ vsP ps := by rw [← hv]; exact List.mem_map.2 ⟨p, hp, rfl⟩
  obtain ⟨q, hq, e⟩ := List.mem_map.1 hm
  rw [← e]; exact h.2 q hq
/-- Triples that a call owns: a row of its own, and each one's branches between blocks of its own. -/
structure OwnTp (e : TypeId) (w : World) (B : Nat) (v : Value) (ts : List Tp) : Prop where
  row : w.ownsRow B e 3 v ts.length (cellsT ts)
  own : ∀ t ∈ ts, OwnP w t.lo t.v t.ps ∧ Within t.lo t.hi t.v t.ps ∧ B ≤ t.lo ∧ t.hi ≤ w.heap.size
  far : ∀ g, v.ownBlock = some g → ∀ t ∈ ts, g < t.lo ∨ t.hi ≤ g
  ap : ∀ (i j : Nat) (s t : Tp), i ≠ j → ts[i]? = some s → ts[j]? = some t → s.hi ≤ t.lo ∨ t.hi ≤ s.lo
theorem OwnTp.down {e : TypeId} {w w' : World} {B : Nat} {v : Value} {ts : List Tp} (h : OwnTp e w B v ts) (hb : Below w.heap.size w w') : OwnTp e w' B v ts :=
  ⟨owns_below h.row hb, fun t ht => ⟨(h.own t ht).1.down hb, (h.own t ht).2.1, (h.own t ht).2.2.1, Nat.le_trans (h.own t ht).2.2.2 hb.size⟩, h.far, h.ap⟩
theorem OwnTp.mono {e : TypeId} {w : World} {B B' : Nat} {v : Value} {ts : List Tp} (h : OwnTp e w B v ts) (hB : B' ≤ B) : OwnTp e w B' v ts :=
  ⟨owns_mono h.row hB, fun t ht => ⟨(h.own t ht).1, (h.own t ht).2.1, Nat.le_trans hB (h.own t ht).2.2.1, (h.own t ht).2.2.2⟩, h.far, h.ap⟩
theorem OwnTp.nil (e : TypeId) (w : World) (B : Nat) : OwnTp e w B (.slice none 0 0) [] := ⟨⟨rfl, .inl ⟨rfl, rfl⟩⟩, fun t ht => (by cases ht), fun g hg => (by cases hg), fun i j s t _ hs => (by simp at hs)⟩
theorem OwnTp.split {e : TypeId} {w : World} {B : Nat} {v : Value} {ts : List Tp} (h : OwnTp e w B v ts) : (v = .slice none 0 0 ∧ ts = []) ∨ ∃ g cap, v = .slice (some ⟨g, 0, none⟩) ts.length cap ∧ B ≤ g ∧ g < w.heap.size ∧ ts.length ≤ cap ∧ cap ≤ maxLen := by
  rcases h.row.2 with ⟨rfl, h0⟩ | ⟨g, cap, cur, rfl, hB, hg, hn, hc, hs, ht⟩
  · exact .inl ⟨rfl, List.eq_nil_of_length_eq_zero h0⟩
  · refine .inr ⟨g, cap, rfl, hB, ?_, hn, hc⟩
    rcases Nat.lt_or_ge g w.heap.size with h' | h'
    · exact h'
    · rw [Array.getElem?_eq_none h'] at hg; cases hg
theorem OwnTp.form {e : TypeId} {w : World} {B : Nat} {v : Value} {ts : List Tp} (h : OwnTp e w B v ts) : ∃ a cap, v = .slice a ts.length cap := by
  rcases h.split with ⟨rfl, rfl⟩ | ⟨g, cap, rfl, _⟩
  · exact ⟨_, _, rfl⟩
  · exact ⟨_, _, rfl⟩
theorem OwnTp.len {e : TypeId} {w : World} {B n cap : Nat} {a : Option Addr} {ts : List Tp} (h : OwnTp e w B (.slice a n cap) ts) : n = ts.length := by
  obtain ⟨a', c, hv⟩ := h.form
  simp only [Value.slice.injEq] at hv
  exact hv.2.1
theorem OwnTp.cell {e : TypeId} {w : World} {B g n cap : Nat} {ts : List Tp} (h : OwnTp e w B (.slice (some ⟨g, 0, none⟩) n cap) ts) {j : Nat} {u : Value} (hj : (cellsT ts)[j]? = some u) : w.cell? ⟨g, j, none⟩ = some u := by
  have hl : 0 < ts.length := by
    have := (List.getElem?_eq_some_iff.1 hj).1
    rw [cellsT_len] at this; omega
  obtain ⟨a, c, hv, hr⟩ := own_cells h.row (cellsT_len ts)
  obtain ⟨g', ha, _, _, hc⟩ := hr hl
  simp only [Value.slice.injEq] at hv
  obtain ⟨rfl, -, -⟩ := hv
  simp only [Option.some.injEq, Addr.mk.injEq, and_true] at ha
  subst ha
  exact hc j _ hj
theorem OwnTp.c3 {e : TypeId} {w : World} {B g n cap : Nat} {ts : List Tp} (h : OwnTp e w B (.slice (some ⟨g, 0, none⟩) n cap) ts) {j : Nat} {t : Tp} (hj : ts[j]? = some t) : w.cell? ⟨g, j * 3, none⟩ = some (.int .i64 t.a) ∧ w.cell? ⟨g, j * 3 + 1, none⟩ = some (.int .i64 t.b) ∧ w.cell? ⟨g, j * 3 + 2, none⟩ = some t.v := by
  obtain ⟨k0, k1, k2⟩ := cellsT_at ts j t hj
  exact ⟨h.cell k0, h.cell k1, h.cell k2⟩
theorem OwnTp.thaw {e : TypeId} {w : World} {B g n cap : Nat} {ts : List Tp} (h : OwnTp e w B (.slice (some ⟨g, 0, none⟩) n cap) ts) (j : Nat) : w.frozen? ⟨g, j, none⟩ = false := by
  have e' := h.len
  subst e'
  exact World.ownsRow.frozenAt h.row j
theorem OwnTp.lt {e : TypeId} {w : World} {B g : Nat} {v : Value} {ts : List Tp} (h : OwnTp e w B v ts) (hg : v.ownBlock = some g) : B ≤ g ∧ g < w.heap.size := by
  rcases h.split with ⟨rfl, _⟩ | ⟨g', cap, rfl, h1, h2, _⟩
  · simp [Value.ownBlock] at hg
  · simp only [Value.ownBlock, Option.some.injEq] at hg
    subst hg; exact ⟨h1, h2⟩
theorem OwnTp.tps {e : TypeId} {w : World} {B : Nat} {v : Value} {ts : List Tp} (h : OwnTp e w B v ts) : TpsOf true w v (rgs ts) := by
  obtain ⟨a, cap, hv, hr⟩ := own_cells h.row (cellsT_len ts)
  refine ⟨a, cap, by rw [rgs_len]; exact hv, fun hn => ?_⟩
  obtain ⟨g, ha, _, hlt, hc⟩ := hr (by rw [rgs_len] at hn; exact hn)
  refine ⟨g, 0, ha, hlt, fun i x hi => ?_⟩
  obtain ⟨t, ht, rfl⟩ := rgs_of hi
  obtain ⟨k0, k1, k2⟩ := cellsT_at ts i t ht
  have ho := (h.own t (List.mem_of_getElem? ht)).1
  rw [Nat.zero_add]
  exact ⟨t.v, ⟨hc _ _ k0, hc _ _ k1, hc _ _ k2⟩, ho.brs, fun _ => ho.capOk⟩
/-- The blocks that triples lie in. -/
def Blks (v : Value) (ts : List Tp) : Nat → Prop := fun k => v.ownBlock = some k ∨ ∃ t ∈ ts, t.lo ≤ k ∧ k < t.hi
theorem OwnTp.blks {e : TypeId} {w : World} {B k : Nat} {v : Value} {ts : List Tp} (h : OwnTp e w B v ts) (hk : Blks v ts k) : B ≤ k ∧ k < w.heap.size := by
  rcases hk with hk | ⟨t, ht, h1, h2⟩
  · exact h.lt hk
  · have := (h.own t ht).2.2; omega
theorem OwnTp.keptS {e : TypeId} {S : Nat → Prop} {w w' : World} {B : Nat} {v : Value} {ts : List Tp} (h : OwnTp e w B v ts) (hk : KeptS S w w') (hs : ∀ k, Blks v ts k → ¬ S k) : OwnTp e w' B v ts :=
  ⟨owns_S h.row hk (fun g hg => hs g (.inl hg)), fun t ht => ⟨(h.own t ht).1.keptS (h.own t ht).2.1 hk (fun k h1 h2 => hs k (.inr ⟨t, ht, h1, h2⟩)), (h.own t ht).2.1, (h.own t ht).2.2.1, Nat.le_trans (h.own t ht).2.2.2 hk.size⟩, h.far, h.ap⟩
theorem OwnTp.kept {e : TypeId} {lo hi : Nat} {w w' : World} {B : Nat} {v : Value} {ts : List Tp} (h : OwnTp e w B v ts) (hk : KeptB lo hi w w') (hB : hi ≤ B) : OwnTp e w' B v ts :=
  h.keptS hk.toS (fun k hk' hs => by have := h.blks hk'; omega)
theorem OwnTp.low {e : TypeId} {w : World} {B g i : Nat} {v : Value} {ts : List Tp} (h : OwnTp e w B v ts) (hg : g < B) (x : Value) : OwnTp e (w.setCell ⟨g, i, none⟩ x) B v ts :=
  h.keptS (KeptS.set w g i x) (fun k hk' hs => by have := h.blks hk'; omega)
/-- What is put into a row's own cells does not touch its triples. -/
theorem OwnTp.rowset {e : TypeId} {w w' : World} {B g : Nat} {n cap : Nat} {ts : List Tp} (h : OwnTp e w B (.slice (some ⟨g, 0, none⟩) n cap) ts) (hk : KeptS (fun k => k = g) w w') : ∀ t ∈ ts, OwnP w' t.lo t.v t.ps ∧ Within t.lo t.hi t.v t.ps ∧ B ≤ t.lo ∧ t.hi ≤ w'.heap.size := fun t ht => by
  have hf := h.far g rfl t ht
  exact ⟨(h.own t ht).1.keptS (h.own t ht).2.1 hk (fun k h1 h2 e => by omega), (h.own t ht).2.1, (h.own t ht).2.2.1, Nat.le_trans (h.own t ht).2.2.2 hk.size⟩
theorem set_pos {l : List Tp} {i j : Nat} {x s : Tp} (h : (l.set j x)[i]? = some s) : (i = j ∧ s = x) ∨ (i ≠ j ∧ l[i]? = some s) := by
  by_cases c : i = j
  · subst c
    have hl := (List.getElem?_eq_some_iff.1 h).1
    rw [List.length_set] at hl
    rw [List.getElem?_set_self hl] at h
    exact .inl ⟨rfl, by simpa using h.symm⟩
  · rw [List.getElem?_set_ne (Ne.symm c)] at h
    exact .inr ⟨c, h⟩
theorem ap_set {ts : List Tp} {j : Nat} {t x : Tp} (h : ∀ (i j : Nat) (s t : Tp), i ≠ j → ts[i]? = some s → ts[j]? = some t → s.hi ≤ t.lo ∨ t.hi ≤ s.lo) (hj : ts[j]? = some t) (h1 : x.lo = t.lo) (h2 : x.hi = t.hi) : ∀ (i k : Nat) (s u : Tp), i ≠ k → (ts.set j x)[i]? = some s → (ts.set j x)[k]? = some u → s.hi ≤ u.lo ∨ u.hi ≤ s.lo := by
  intro i k s u hik hs hu
  rcases set_pos hs with ⟨a1, rfl⟩ | ⟨a1, a2⟩ <;> rcases set_pos hu with ⟨b1, rfl⟩ | ⟨b1, b2⟩
  · omega
  · rw [h1, h2]; exact h j k t u (by omega) hj b2
  · rw [h1, h2]; exact h i j s t (by omega) a2 hj
  · exact h i k s u hik a2 b2
theorem OwnTp.setA {e : TypeId} {w : World} {B g n cap j : Nat} {ts : List Tp} {t : Tp} (h : OwnTp e w B (.slice (some ⟨g, 0, none⟩) n cap) ts) (hj : ts[j]? = some t) (x : Int) : OwnTp e (w.setCell ⟨g, j * 3, none⟩ (.int .i64 x)) B (.slice (some ⟨g, 0, none⟩) n cap) (ts.set j ⟨x, t.b, t.v, t.ps, t.lo, t.hi⟩) := by
  have el := h.len
  subst el
  have h1 := (World.ownsRow.stored h.row (j * 3) (.int .i64 x)).1
  rw [cellsT_a ts j t x hj] at h1
  have ho := h.rowset (KeptS.set w g (j * 3) (.int .i64 x))
  have hm := List.mem_of_getElem? hj
  refine ⟨by rw [List.length_set]; exact h1, fun s hs => ?_, fun q hq s hs => ?_, ap_set h.ap hj rfl rfl⟩
  · rcases mem_set hs with hs | rfl
    · exact ho s hs
    · exact ho t hm
  · rcases mem_set hs with hs | rfl
    · exact h.far q hq s hs
    · exact h.far q hq t hm
theorem OwnTp.setB {e : TypeId} {w : World} {B g n cap j : Nat} {ts : List Tp} {t : Tp} (h : OwnTp e w B (.slice (some ⟨g, 0, none⟩) n cap) ts) (hj : ts[j]? = some t) (x : Int) : OwnTp e (w.setCell ⟨g, j * 3 + 1, none⟩ (.int .i64 x)) B (.slice (some ⟨g, 0, none⟩) n cap) (ts.set j ⟨t.a, x, t.v, t.ps, t.lo, t.hi⟩) := by
  have el := h.len
  subst el
  have h1 := (World.ownsRow.stored h.row (j * 3 + 1) (.int .i64 x)).1
  rw [cellsT_b ts j t x hj] at h1
  have ho := h.rowset (KeptS.set w g (j * 3 + 1) (.int .i64 x))
  have hm := List.mem_of_getElem? hj
  refine ⟨by rw [List.length_set]; exact h1, fun s hs => ?_, fun q hq s hs => ?_, ap_set h.ap hj rfl rfl⟩
  · rcases mem_set hs with hs | rfl
    · exact ho s hs
    · exact ho t hm
  · rcases mem_set hs with hs | rfl
    · exact h.far q hq s hs
    · exact h.far q hq t hm
/-- What one of them holds is turned in its own blocks. -/
theorem OwnTp.turn {e : TypeId} {w w' : World} {B j : Nat} {v : Value} {ts : List Tp} {t : Tp} {qs : Prs} (h : OwnTp e w B v ts) (hj : ts[j]? = some t) (hk : KeptB t.lo t.hi w w') (ho : OwnP w' t.lo t.v qs) (hv : vsP qs = vsP t.ps) : OwnTp e w' B v (ts.set j ⟨t.a, t.b, t.v, qs, t.lo, t.hi⟩) := by
  have hm := List.mem_of_getElem? hj
  have hS := hk.toS
  refine ⟨?_, fun s hs => ?_, fun q hq s hs => ?_, ap_set h.ap hj rfl rfl⟩
  · rw [List.length_set, cellsT_same ts j t qs t.lo t.hi hj]
    exact owns_S h.row hS (fun g hg => by have := h.far g hg t hm; omega)
  · obtain ⟨k, hk'⟩ := List.getElem?_of_mem hs
    rcases set_pos hk' with ⟨-, rfl⟩ | ⟨c, hc⟩
    · exact ⟨ho, (h.own t hm).2.1.vs hv, (h.own t hm).2.2.1, Nat.le_trans (h.own t hm).2.2.2 hk.size⟩
    · have hs' := h.own s (List.mem_of_getElem? hc)
      have hd := h.ap k j s t c hc hj
      exact ⟨hs'.1.keptS hs'.2.1 hS (fun q h1 h2 hh => by omega), hs'.2.1, hs'.2.2.1, Nat.le_trans hs'.2.2.2 hk.size⟩
  · rcases mem_set hs with hs | rfl
    · exact h.far q hq s hs
    · exact h.far q hq t hm
/-- A new one is laid in the place of one of them. -/
theorem OwnTp.put {e : TypeId} {w w' : World} {B g n cap j lo : Nat} {ts : List Tp} {a b : Int} {u : Value} {qs : Prs} (h : OwnTp e w B (.slice (some ⟨g, 0, none⟩) n cap) ts) (hj : j < ts.length) (hb : Below w.heap.size w w') (ho : OwnP w' lo u qs) (hlo : w.heap.size ≤ lo) :
    OwnTp e (((w'.setCell ⟨g, j * 3, none⟩ (.int .i64 a)).setCell ⟨g, j * 3 + 1, none⟩ (.int .i64 b)).setCell ⟨g, j * 3 + 2, none⟩ u) B (.slice (some ⟨g, 0, none⟩) n cap) (ts.set j ⟨a, b, u, qs, lo, w'.heap.size⟩) := by
  have el := h.len
  subst el
  have h2 := h.down hb
  have hgl := h.lt (g := g) rfl
  have h1 := (World.ownsRow.stored (World.ownsRow.stored (World.ownsRow.stored h2.row (j * 3) (.int .i64 a)).1 (j * 3 + 1) (.int .i64 b)).1 (j * 3 + 2) u).1
  rw [cellsT_set ts j _ ⟨a, b, u, qs, lo, w'.heap.size⟩ (List.getElem?_eq_getElem hj)] at h1
  have hk := ((KeptS.set w' g (j * 3) (.int .i64 a)).trans (KeptS.set _ g (j * 3 + 1) (.int .i64 b))).trans (KeptS.set _ g (j * 3 + 2) u)
  have hr := h2.rowset hk
  have hsz : ((((w'.setCell ⟨g, j * 3, none⟩ (.int .i64 a)).setCell ⟨g, j * 3 + 1, none⟩ (.int .i64 b)).setCell ⟨g, j * 3 + 2, none⟩ u)).heap.size = w'.heap.size := by simp
  refine ⟨by rw [List.length_set]; exact h1, fun s hs => ?_, fun q hq s hs => ?_, fun i k s t hik hs ht => ?_⟩
  · rcases mem_set hs with hs | rfl
    · exact hr s hs
    · exact ⟨ho.keptS ho.within hk (fun q h1 h2 hh => by omega), ho.within, by show B ≤ lo; omega, by rw [hsz]; exact Nat.le_refl _⟩
  · simp only [Value.ownBlock, Option.some.injEq] at hq
    subst hq
    rcases mem_set hs with hs | rfl
    · exact h.far g rfl s hs
    · left; show g < lo; omega
  · rcases set_pos hs with ⟨a1, rfl⟩ | ⟨a1, a2⟩ <;> rcases set_pos ht with ⟨b1, rfl⟩ | ⟨b1, b2⟩
    · omega
    · right; have := (h.own t (List.mem_of_getElem? b2)).2.2.2; show t.hi ≤ lo; omega
    · left; have := (h.own s (List.mem_of_getElem? a2)).2.2.2; show s.hi ≤ lo; omega
    · exact h.ap i k s t hik a2 b2
/-- Nothing, at a place. -/
def t0 (B : Nat) : Tp := ⟨0, 0, .slice none 0 0, [], B, B⟩
theorem made_cellsT (n B : Nat) : (madeCells #[(.int .i64 0 : Value), .int .i64 0, .slice none 0 0] (n * 3)).toList = cellsT (List.replicate n (t0 B)) := by
  apply List.ext_getElem?
  intro i
  by_cases hi : i < n * 3
  · have h1 : (madeCells #[(.int .i64 0 : Value), .int .i64 0, .slice none 0 0] (n * 3))[i]? = some (#[(.int .i64 0 : Value), .int .i64 0, .slice none 0 0][i % 3]!) := by
      simp [madeCells, hi]
    rw [Array.getElem?_toList, h1]
    obtain ⟨a, b, c⟩ := cellsT_at (List.replicate n (t0 B)) (i / 3) (t0 B) (by rw [List.getElem?_replicate, if_pos (by omega)])
    rcases (show i % 3 = 0 ∨ i % 3 = 1 ∨ i % 3 = 2 by omega) with h | h | h
    · rw [h, show i = i / 3 * 3 by omega, a]; rfl
    · rw [h, show i = i / 3 * 3 + 1 by omega, b]; rfl
    · rw [h, show i = i / 3 * 3 + 2 by omega, c]; rfl
  · rw [List.getElem?_eq_none (by rw [Array.length_toList, size_madeCells]; omega), List.getElem?_eq_none (by rw [cellsT_len, List.length_replicate]; omega)]
theorem made_tps (e : TypeId) (w : World) (n : Nat) (h : n ≤ 1048576) : OwnTp e (w.alloc (.cells (madeCells #[(.int .i64 0 : Value), .int .i64 0, .slice none 0 0] (n * 3)) e)) w.heap.size (.slice (some ⟨w.heap.size, 0, none⟩) n n) (List.replicate n (t0 w.heap.size)) := by
  have h1 := World.ownsRow_lit (base := w.heap.size) (e := e) (size := 3) w (madeCells #[(.int .i64 0 : Value), .int .i64 0, .slice none 0 0] (n * 3)) n (Nat.le_refl _) (by unfold maxLen; omega) (by rw [size_madeCells])
  rw [made_cellsT n w.heap.size] at h1
  refine ⟨by rw [List.length_replicate]; exact h1, fun t ht => ?_, fun g hg t ht => ?_, fun i j s t _ hs ht => ?_⟩
  · obtain ⟨-, rfl⟩ := List.mem_replicate.1 ht
    exact ⟨OwnP.nil _ _, ⟨fun g hg => (by cases hg), fun p hp => (by cases hp)⟩, Nat.le_refl _, by show w.heap.size ≤ _; simp⟩
  · obtain ⟨-, rfl⟩ := List.mem_replicate.1 ht
    show g < w.heap.size ∨ w.heap.size ≤ g
    omega
  · obtain ⟨-, rfl⟩ := List.mem_replicate.1 (List.mem_of_getElem? hs)
    obtain ⟨-, rfl⟩ := List.mem_replicate.1 (List.mem_of_getElem? ht)
    exact .inl (Nat.le_refl _)
/-- Marks from k on. -/
def mkT : Nat → List Tp → List Tp
  | _, [] => []
  | k, t :: r => ⟨(k : Int), ((k + 1 : Nat) : Int), t.v, mkP (k + 2) t.ps, t.lo, t.hi⟩ :: mkT (k + 2 + 4 * evn t.ps) r
def evT : List Tp → Nat
  | [] => 0
  | t :: r => 2 + 4 * evn t.ps + evT r
theorem mkT_len : ∀ (k : Nat) (ts : List Tp), (mkT k ts).length = ts.length
  | _, [] => rfl
  | k, t :: r => by simp [mkT, mkT_len]
theorem mkT_app : ∀ (k : Nat) (a b : List Tp), mkT k (a ++ b) = mkT k a ++ mkT (k + evT a) b
  | k, [], b => by simp [mkT, evT]
  | k, t :: r, b => by
    rw [List.cons_append, mkT, mkT, mkT_app _ r b, evT, List.cons_append]
    congr 3; omega
theorem evT_app : ∀ (a b : List Tp), evT (a ++ b) = evT a + evT b
  | [], b => by simp [evT]
  | t :: r, b => by rw [List.cons_append, evT, evT, evT_app r b]; omega
theorem evT_take_le (ts : List Tp) (k : Nat) : evT (ts.take k) ≤ evT ts := by
  have h : ts = ts.take k ++ ts.drop k := (List.take_append_drop k ts).symm
  have := congrArg evT h
  rw [evT_app] at this
  omega
theorem mkT_at (k0 : Nat) (ts : List Tp) (k : Nat) (t : Tp) (h : ts[k]? = some t) : (mkT k0 ts)[k]? = some ⟨((k0 + evT (ts.take k) : Nat) : Int), ((k0 + evT (ts.take k) + 1 : Nat) : Int), t.v, mkP (k0 + evT (ts.take k) + 2) t.ps, t.lo, t.hi⟩ := by
  have hk := (List.getElem?_eq_some_iff.1 h).1
  have e : ts = ts.take k ++ t :: ts.drop (k + 1) := by
    conv => lhs; rw [← List.take_append_drop k ts, List.drop_eq_getElem_cons hk]
    rw [(List.getElem?_eq_some_iff.1 h).2]
  have hl : (mkT k0 (ts.take k)).length = k := by rw [mkT_len, List.length_take]; omega
  conv => lhs; rw [e, mkT_app]
  rw [List.getElem?_append_right (by omega), hl, Nat.sub_self, mkT]
  rfl
theorem evT_snoc {ts : List Tp} {k : Nat} {t : Tp} (h : ts[k]? = some t) : evT (ts.take (k + 1)) = evT (ts.take k) + (2 + 4 * evn t.ps) := by
  rw [take_snocB h, evT_app]; simp [evT]
/-- Some are marked, one more is. -/
theorem mkT_step {ts : List Tp} {k0 k : Nat} {t : Tp} (h : ts[k]? = some t) : (mkT k0 (ts.take k) ++ ts.drop k).set k ⟨((k0 + evT (ts.take k) : Nat) : Int), ((k0 + evT (ts.take k) + 1 : Nat) : Int), t.v, mkP (k0 + evT (ts.take k) + 2) t.ps, t.lo, t.hi⟩ = mkT k0 (ts.take (k + 1)) ++ ts.drop (k + 1) := by
  have hk := (List.getElem?_eq_some_iff.1 h).1
  have hl : (mkT k0 (ts.take k)).length = k := by rw [mkT_len, List.length_take]; omega
  rw [List.set_append_right _ _ (by omega), hl, Nat.sub_self, List.drop_eq_getElem_cons hk, List.set_cons_zero, take_snocB h, mkT_app]
  simp [mkT]
theorem mkT_mid {ts : List Tp} {k0 k : Nat} {t : Tp} (h : ts[k]? = some t) : (mkT k0 (ts.take k) ++ ts.drop k)[k]? = some t := by
  have hk := (List.getElem?_eq_some_iff.1 h).1
  have hl : (mkT k0 (ts.take k)).length = k := by rw [mkT_len, List.length_take]; omega
  rw [List.getElem?_append_right (by omega), hl, Nat.sub_self, List.getElem?_drop]
  simpa using h
/-- Where triples lie is not changed by marks. -/
theorem blks_mk (v : Value) : ∀ (k : Nat) (ts : List Tp) (q : Nat), Blks v (mkT k ts) q ↔ Blks v ts q := by
  intro k ts q
  have key : ∀ (k : Nat) (ts : List Tp), (∃ t ∈ mkT k ts, t.lo ≤ q ∧ q < t.hi) ↔ ∃ t ∈ ts, t.lo ≤ q ∧ q < t.hi := by
    intro k ts
    induction ts generalizing k with
    | nil => simp [mkT]
    | cons t r ih => simp only [mkT, List.mem_cons, exists_eq_or_imp, ih]
  unfold Blks
  rw [key]
/-- The law's size of triples: what they hold. -/
def wgR : List Rg → Nat
  | [] => 0
  | r :: l => (r.bs.length + wb r.bs) + wgR l
theorem wgR_app : ∀ (a b : List Rg), wgR (a ++ b) = wgR a + wgR b
  | [], b => by simp [wgR]
  | t :: r, b => by rw [List.cons_append, wgR, wgR, wgR_app r b]; omega
theorem wgR_take {rs : List Rg} {k : Nat} {r : Rg} (h : rs[k]? = some r) : wgR (rs.take (k + 1)) = wgR (rs.take k) + (r.bs.length + wb r.bs) := by
  rw [take_snocB h, wgR_app]; simp [wgR]
theorem wgR_take_le (rs : List Rg) (k : Nat) : wgR (rs.take k) ≤ wgR rs := by
  have h : rs = rs.take k ++ rs.drop k := (List.take_append_drop k rs).symm
  have := congrArg wgR h
  rw [wgR_app] at this
  omega
theorem wgR_mem : ∀ {rs : List Rg} {r : Rg}, r ∈ rs → r.bs.length + wb r.bs ≤ wgR rs
  | [], r, h => by cases h
  | x :: l, r, h => by
    rcases List.mem_cons.1 h with h | h
    · subst h; simp [wgR]
    · have := wgR_mem h; simp only [wgR]; omega
theorem evT_wgR : ∀ ts : List Tp, evT ts ≤ 2 * ts.length + 4 * wgR (rgs ts)
  | [] => by simp [evT]
  | t :: r => by
    have h1 := evT_wgR r
    have h2 := evn_wb t.ps
    unfold rgs at h1 ⊢
    simp only [evT, List.length_cons, List.map_cons, wgR]
    omega
def FinT (rs : List Rg) : Prop := rs.length ≤ maxLen ∧ ∀ r ∈ rs, Fine r.bs
def FinS (rs : List Rg) : Prop := rs.length ≤ 1048576 ∧ ∀ r ∈ rs, FineS r.bs
end M
end Go.Proofs.YtjgopjnkkhkcnaaGreatDoor

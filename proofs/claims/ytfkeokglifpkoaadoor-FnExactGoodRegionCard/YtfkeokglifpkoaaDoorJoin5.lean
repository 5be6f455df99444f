/-
  Texts that follow one another, joined: BrN, BrCu.
-/
import Derived.Test.YtfkeokglifpkoaaDoorJoin4
import Derived.Lib.SlicesCompact
import Derived.Sort.Walk0
/-
  Names that are lost: put one by one in order, or gathered, sorted and freed of what is told twice: the same.
-/
namespace Go.Proofs.YtfkeokglifpkoaaDoor
open Go.RowKit M
namespace M
def has (l : Txs) (x : ByteArray) : Bool := l.any (fun y => y.toList == x.toList)
theorem has_iff {l : Txs} {x : ByteArray} : has l x = true ↔ x ∈ l := by
  unfold has
  rw [List.any_eq_true]
  constructor
  · rintro ⟨y, hy, he⟩
    rw [eqS, decide_eq_true_eq] at he
    exact he ▸ hy
  · exact fun h => ⟨x, h, by simp⟩
def RisP (l : Txs) : Prop := l.Pairwise (fun a b => ltS a b = true)
theorem Rise.pw {l : Txs} : Rise l ↔ RisP l := by
  unfold RisP
  rw [List.pairwise_iff_getElem]
  constructor
  · intro h i j hi hj hij
    exact h.lt2 hij (List.getElem?_eq_getElem hi) (List.getElem?_eq_getElem hj)
  · intro h i x y hx hy
    obtain ⟨hi, rfl⟩ := List.getElem?_eq_some_iff.1 hx
    obtain ⟨hj, rfl⟩ := List.getElem?_eq_some_iff.1 hy
    exact h i (i + 1) hi hj (by omega)
theorem tog_new {l : Txs} {x : ByteArray} (hr : Rise l) (hx : ¬ x ∈ l) : Rise (tog l x) ∧ ∀ y, y ∈ tog l x ↔ y ∈ l ∨ y = x := by
  have hf : ¬ fnd l x = true := fun h => hx ((fnd_iff hr x).1 h)
  unfold tog
  rw [if_neg hf]
  constructor
  · have hp := Rise.pw.1 hr
    have hs : l.take (ps l x) ++ l.drop (ps l x) = l := List.take_append_drop _ _
    unfold RisP at hp
    rw [← hs, List.pairwise_append] at hp
    rw [Rise.pw]
    unfold RisP
    rw [List.pairwise_append, List.pairwise_cons]
    have hlo : ∀ a ∈ l.take (ps l x), ltS a x = true := fun a ha => by
      obtain ⟨i, hi, he⟩ := List.mem_iff_getElem.1 ha
      rw [List.length_take] at hi
      rw [List.getElem_take] at he
      exact ps_lt l x i a (by omega) (by rw [← he]; exact List.getElem?_eq_getElem (by omega))
    refine ⟨hp.1, ⟨fun a ha => ?_, hp.2.1⟩, fun a ha b hb => ?_⟩
    · obtain ⟨i, hi, he⟩ := List.mem_iff_getElem.1 ha
      rw [List.length_drop] at hi
      rw [List.getElem_drop] at he
      have hg : l[ps l x + i]? = some a := by rw [← he]; exact List.getElem?_eq_getElem (by omega)
      have h1 := ps_ge hr (show ps l x ≤ ps l x + i by omega) hg
      rcases lt_tri x a with h | h | h
      · exact h
      · exact absurd (h ▸ List.mem_of_getElem? hg) hx
      · rw [h] at h1; cases h1
    · rw [List.mem_cons] at hb
      rcases hb with hb | hb
      · subst hb; exact hlo a ha
      · exact hp.2.2 a ha b hb
  · intro y
    have hs : l.take (ps l x) ++ l.drop (ps l x) = l := List.take_append_drop _ _
    have hm : y ∈ l ↔ y ∈ l.take (ps l x) ∨ y ∈ l.drop (ps l x) := by
      rw [← List.mem_append, hs]
    rw [List.mem_append, List.mem_cons, hm]
    constructor
    · rintro (h | h | h)
      · exact .inl (.inl h)
      · exact .inr h
      · exact .inl (.inr h)
    · rintro ((h | h) | h)
      · exact .inl h
      · exact .inr (.inr h)
      · exact .inr (.inl h)
theorem rise_ext : ∀ {a b : Txs}, RisP a → RisP b → (∀ x, x ∈ a ↔ x ∈ b) → a = b
  | [], [], _, _, _ => rfl
  | [], y :: b, _, _, h => by have := (h y).2 (by simp); cases this
  | x :: a, [], _, _, h => by have := (h x).1 (by simp); cases this
  | x :: a, y :: b, ha, hb, h => by
    unfold RisP at ha hb
    rw [List.pairwise_cons] at ha hb
    have hxy : x = y := by
      have h1 := (h x).1 (by simp)
      have h2 := (h y).2 (by simp)
      rw [List.mem_cons] at h1 h2
      rcases h1 with h1 | h1
      · exact h1
      · rcases h2 with h2 | h2
        · exact h2.symm
        · have h3 := hb.1 x h1
          have h4 := ha.1 y h2
          rw [lt_asym h4] at h3; cases h3
    subst hxy
    congr 1
    refine rise_ext ha.2 hb.2 (fun z => ⟨fun hz => ?_, fun hz => ?_⟩)
    · have h1 := (h z).1 (by simp [hz])
      rw [List.mem_cons] at h1
      rcases h1 with h1 | h1
      · subst h1
        have := ha.1 z hz
        rw [lt_irr] at this; cases this
      · exact h1
    · have h1 := (h z).2 (by simp [hz])
      rw [List.mem_cons] at h1
      rcases h1 with h1 | h1
      · subst h1
        have := hb.1 z hz
        rw [lt_irr] at this; cases this
      · exact h1
/-- One name more among those that are lost. -/
def lin (kept out : Txs) (n : ByteArray) : Txs := if has kept n = true then out else if has out n = true then out else tog out n
theorem lin_len (kept out : Txs) (n : ByteArray) : (lin kept out n).length ≤ out.length + 1 := by
  unfold lin
  split
  · omega
  · split
    · omega
    · exact tog_len _ _
theorem lin_rise {kept out : Txs} {n : ByteArray} (h : Rise out) : Rise (lin kept out n) ∧ ∀ x, x ∈ lin kept out n ↔ x ∈ out ∨ (x = n ∧ ¬ x ∈ kept) := by
  unfold lin
  split
  · rename_i h1
    rw [has_iff] at h1
    refine ⟨h, fun x => ⟨fun hx => .inl hx, fun hx => ?_⟩⟩
    rcases hx with hx | ⟨rfl, hx⟩
    · exact hx
    · exact absurd h1 hx
  · rename_i h1
    rw [has_iff] at h1
    split
    · rename_i h2
      rw [has_iff] at h2
      refine ⟨h, fun x => ⟨fun hx => .inl hx, fun hx => ?_⟩⟩
      rcases hx with hx | ⟨rfl, hx⟩
      · exact hx
      · exact h2
    · rename_i h2
      rw [has_iff] at h2
      obtain ⟨h3, h4⟩ := tog_new h h2
      refine ⟨h3, fun x => ?_⟩
      rw [h4]
      constructor
      · rintro (h | rfl)
        · exact .inl h
        · exact .inr ⟨rfl, h1⟩
      · rintro (h | ⟨rfl, -⟩)
        · exact .inl h
        · exact .inr rfl
def lst (kept : Txs) (ns out : Txs) : Txs := ns.foldl (lin kept) out
theorem lst_snoc (kept ns out : Txs) (n : ByteArray) : lst kept (ns ++ [n]) out = lin kept (lst kept ns out) n := by unfold lst; rw [List.foldl_append]; rfl
theorem lst_app (kept a b out : Txs) : lst kept (a ++ b) out = lst kept b (lst kept a out) := by unfold lst; rw [List.foldl_append]
theorem lst_len (kept : Txs) : ∀ (ns out : Txs), (lst kept ns out).length ≤ out.length + ns.length
  | [], out => by simp [lst]
  | n :: ns, out => by
    have h1 := lst_len kept ns (lin kept out n)
    have h2 := lin_len kept out n
    show (lst kept ns (lin kept out n)).length ≤ _
    simp only [List.length_cons]; omega
theorem lst_rise (kept : Txs) : ∀ (ns out : Txs), Rise out → Rise (lst kept ns out) ∧ ∀ x, x ∈ lst kept ns out ↔ x ∈ out ∨ (x ∈ ns ∧ ¬ x ∈ kept)
  | [], out, h => ⟨h, fun x => ⟨fun hx => .inl hx, fun hx => by rcases hx with hx | ⟨hx, _⟩; exact hx; cases hx⟩⟩
  | n :: ns, out, h => by
    obtain ⟨h1, h2⟩ := lin_rise (kept := kept) (n := n) h
    obtain ⟨h3, h4⟩ := lst_rise kept ns (lin kept out n) h1
    refine ⟨h3, fun x => ?_⟩
    show x ∈ lst kept ns (lin kept out n) ↔ _
    rw [h4, h2, List.mem_cons]
    constructor
    · rintro ((h | ⟨rfl, h⟩) | ⟨h, h'⟩)
      · exact .inl h
      · exact .inr ⟨.inl rfl, h⟩
      · exact .inr ⟨.inr h, h'⟩
    · rintro (h | ⟨rfl | h, h'⟩)
      · exact .inl (.inl h)
      · exact .inl (.inr ⟨rfl, h'⟩)
      · exact .inr ⟨h, h'⟩
theorem rise_nil : Rise [] := fun i x y hx => by simp at hx
/-- Gathered. -/
def gat (kept ns : Txs) : Txs := ns.filter (fun n => !has kept n)
theorem mem_gat {kept ns : Txs} {x : ByteArray} : x ∈ gat kept ns ↔ x ∈ ns ∧ ¬ x ∈ kept := by
  unfold gat
  rw [List.mem_filter]
  constructor
  · rintro ⟨h, h2⟩; exact ⟨h, fun h3 => by rw [has_iff.2 h3] at h2; cases h2⟩
  · rintro ⟨h, h2⟩
    refine ⟨h, ?_⟩
    cases hb : has kept x with
    | false => rfl
    | true => exact absurd (has_iff.1 hb) h2
abbrev Bs := List UInt8
def unB (x : ByteArray) : Bs := x.data.toList
def toB (b : Bs) : ByteArray := ⟨b.toArray⟩
theorem toB_un (x : ByteArray) : toB (unB x) = x := by cases x; simp [toB, unB]
theorem unB_to (b : Bs) : unB (toB b) = b := by simp [toB, unB]
theorem lt_un (x y : ByteArray) : ltS x y = decide (unB x < unB y) := by
  unfold ltS unB; rw [toL, toL, Go.Proofs.bytesLess_eq]
theorem lt_to (x y : Bs) : ltS (toB x) (toB y) = decide (x < y) := by rw [lt_un, unB_to, unB_to]
theorem bs_trans {a b c : Bs} (h1 : a < b) (h2 : b < c) : a < c := by
  have := @lt_trans (toB a) (toB b) (toB c) (by rw [lt_to, decide_eq_true h1]) (by rw [lt_to, decide_eq_true h2])
  rw [lt_to] at this; exact of_decide_eq_true this
theorem bs_tri (a b : Bs) : a < b ∨ a = b ∨ b < a := by
  rcases lt_tri (toB a) (toB b) with h | h | h
  · rw [lt_to] at h; exact .inl (of_decide_eq_true h)
  · have := congrArg unB h; rw [unB_to, unB_to] at this; exact .inr (.inl this)
  · rw [lt_to] at h; exact .inr (.inr (of_decide_eq_true h))
theorem bs_irr (a : Bs) : ¬ a < a := fun h => by
  have := lt_irr (toB a)
  rw [lt_to, decide_eq_true h] at this; cases this
theorem bs_le {a b : Bs} : a ≤ b ↔ ¬ b < a := Iff.rfl
theorem bs_le2 {a b : Bs} : a ≤ b ↔ a < b ∨ a = b := by
  rw [bs_le]
  constructor
  · intro h
    rcases bs_tri a b with h1 | h1 | h1
    · exact .inl h1
    · exact .inr h1
    · exact absurd h1 h
  · rintro (h | rfl) h2
    · exact bs_irr a (bs_trans h h2)
    · exact bs_irr a h2
theorem bs_ltle {a b c : Bs} (h1 : a ≤ b) (h2 : b < c) : a < c := by
  rcases bs_le2.1 h1 with h | rfl
  · exact bs_trans h h2
  · exact h2
/-- Sorted. -/
def srt (l : Txs) : List Bs := (l.map unB).mergeSort (fun x y => decide (x ≤ y))
theorem srt_pw (l : Txs) : (srt l).Pairwise (fun x y => x ≤ y) := by
  have h := List.pairwise_mergeSort (le := fun (x y : Bs) => decide (x ≤ y)) (fun a b c h1 h2 => by
    rw [decide_eq_true_eq] at h1 h2 ⊢
    rcases bs_le2.1 h1 with h | rfl
    · rcases bs_le2.1 h2 with h' | rfl
      · exact bs_le2.2 (.inl (bs_trans h h'))
      · exact h1
    · exact h2) (fun a b => by
    rw [Bool.or_eq_true, decide_eq_true_eq, decide_eq_true_eq]
    rcases bs_tri a b with h | h | h
    · exact .inl (bs_le2.2 (.inl h))
    · exact .inl (bs_le2.2 (.inr h))
    · exact .inr (bs_le2.2 (.inl h))) (l.map unB)
  exact h.imp (fun h => by simpa using h)
theorem mem_srt {l : Txs} {b : Bs} : b ∈ srt l ↔ b ∈ l.map unB := (List.mergeSort_perm _ _).mem_iff
theorem srt_len (l : Txs) : (srt l).length = l.length := by
  unfold srt; rw [(List.mergeSort_perm _ _).length_eq, List.length_map]
theorem mem_cpt (zs : List Bs) (b : Bs) : b ∈ Lib.compact zs ↔ b ∈ zs := by
  unfold Lib.compact Lib.compactUpTo
  rw [List.mem_map]
  constructor
  · rintro ⟨i, hi, rfl⟩
    rw [List.mem_filter, List.mem_range] at hi
    have : i < zs.length := hi.1
    simp [this]
  · intro hb
    obtain ⟨i, hi, he⟩ := List.mem_iff_getElem.1 hb
    have key : ∀ i, (hi : i < zs.length) → zs[i] = b → ∃ a, a ∈ List.filter (Lib.keeps zs.toArray) (List.range zs.length) ∧ zs.toArray[a]! = b := by
      intro i
      induction i with
      | zero =>
        intro hi he
        exact ⟨0, by rw [List.mem_filter, List.mem_range]; exact ⟨hi, by simp [Lib.keeps]⟩, by simp [hi, he]⟩
      | succ i ih =>
        intro hi he
        by_cases hk : zs[i + 1] = zs[i]
        · exact ih (by omega) (by rw [← hk]; exact he)
        · refine ⟨i + 1, ?_, by simp [hi, he]⟩
          rw [List.mem_filter, List.mem_range]
          refine ⟨hi, ?_⟩
          unfold Lib.keeps
          rw [decide_eq_true_eq]
          right
          have h1 : i < zs.length := by omega
          simpa [hi, h1] using hk
    exact key i hi he
theorem cpt_pw {zs : List Bs} (h : zs.Pairwise (fun x y => x ≤ y)) : (Lib.compact zs).Pairwise (fun x y => x < y) := by
  unfold Lib.compact Lib.compactUpTo
  rw [List.pairwise_map, List.pairwise_filter, List.pairwise_iff_getElem]
  intro i j hi hj hij h1 h2
  rw [List.getElem_range] at h1 h2 ⊢
  rw [List.getElem_range]
  rw [List.length_range] at hi hj
  rw [List.pairwise_iff_getElem] at h
  unfold Lib.keeps at h2
  rw [decide_eq_true_eq] at h2
  obtain ⟨k, rfl⟩ : ∃ k, j = k + 1 := ⟨j - 1, by omega⟩
  have hk : k < zs.length := by omega
  rcases h2 with h2 | h2
  · omega
  · have e1 : zs.toArray[k + 1]! = zs[k + 1] := by simp [hj]
    have e2 : zs.toArray[k]! = zs[k] := by simp [hk]
    have e3 : zs.toArray[i]! = zs[i] := by simp [hi]
    rw [Nat.add_sub_cancel, e1, e2] at h2
    rw [e1, e3]
    have h3 := h k (k + 1) hk hj (by omega)
    have h4 : zs[k] < zs[k + 1] := by
      rcases bs_le2.1 h3 with h | h
      · exact h
      · exact absurd h.symm h2
    by_cases c : i = k
    · subst c; exact h4
    · exact bs_ltle (h i k hi hk (by omega)) h4
/-- Gathered, sorted, freed of what is told twice. -/
def fnl (l : Txs) : Txs := (Lib.compact (srt l)).map toB
theorem fnl_is {kept ns : Txs} : fnl (gat kept ns) = lst kept ns [] := by
  obtain ⟨h1, h2⟩ := lst_rise kept ns [] rise_nil
  refine rise_ext ?_ (Rise.pw.1 h1) (fun x => ?_)
  · unfold RisP fnl
    rw [List.pairwise_map]
    exact (cpt_pw (srt_pw _)).imp (fun h => by rw [lt_to]; exact decide_eq_true h)
  · rw [h2]
    unfold fnl
    rw [List.mem_map]
    constructor
    · rintro ⟨b, hb, rfl⟩
      rw [mem_cpt, mem_srt, List.mem_map] at hb
      obtain ⟨y, hy, rfl⟩ := hb
      rw [toB_un]
      exact .inr (mem_gat.1 hy)
    · rintro (h | h)
      · cases h
      · exact ⟨unB x, by rw [mem_cpt, mem_srt, List.mem_map]; exact ⟨x, mem_gat.2 h, rfl⟩, toB_un x⟩
end M
end Go.Proofs.YtfkeokglifpkoaaDoor

/-
  The history that counts, and the names that it lacks: plain mathematics.
-/
namespace Go.Proofs.YtfkeokglifpkoaaDoor
open Go.RowKit M
namespace M
def curB (bs : Brs) : Evs := bs.getD (cur bs bs.length) []
theorem cur_at {bs : Brs} {k : Nat} (hk : k ≤ bs.length) (hp : 0 < bs.length) : ∃ o, bs[cur bs k]? = some o := by
  cases k with
  | zero => exact ⟨bs[0], List.getElem?_eq_getElem hp⟩
  | succ k =>
    have := cur_lt bs k
    exact ⟨bs[cur bs (k + 1)]'(by omega), List.getElem?_eq_getElem _⟩
theorem cur_one (bs : Brs) : cur bs 1 = 0 := Nat.le_zero.1 (cur_lt bs 0)
theorem cur_b {bs : Brs} (hp : 0 < bs.length) : bs[cur bs bs.length]? = some (curB bs) := by
  obtain ⟨o, ho⟩ := cur_at (Nat.le_refl bs.length) hp
  rw [ho]; unfold curB; rw [getD_at ho]
def sgB (es : Evs) : Txs := (sk es es.length).sg
def cB (bs : Brs) : Evs := if bs = [] then [] else curB bs
def keptOf (bs : Brs) : Txs := sgB (cB bs)
def allS : Brs → Txs
  | [] => []
  | b :: r => sgB b ++ allS r
theorem allS_app : ∀ a b : Brs, allS (a ++ b) = allS a ++ allS b
  | [], b => rfl
  | x :: a, b => by simp [allS, allS_app a b]
theorem gat_len (k a : Txs) : (gat k a).length ≤ a.length := List.length_filter_le _ _
theorem gat_in {k : Txs} {y : ByteArray} (h : y ∈ k) : gat k [y] = [] := by simp [gat, has_iff.2 h]
theorem gat_out {k : Txs} {y : ByteArray} (h : ¬ y ∈ k) : gat k [y] = [y] := by
  have : has k y = false := by
    cases hb : has k y with
    | false => rfl
    | true => exact absurd (has_iff.1 hb) h
  simp [gat, this]
theorem gat_app (k a b : Txs) : gat k (a ++ b) = gat k a ++ gat k b := by simp [gat]
def lsl (bs : Brs) : Txs := lst (keptOf bs) (allS bs) []
theorem lsl_is (bs : Brs) : fnl (gat (keptOf bs) (allS bs)) = lsl bs := fnl_is
end M
end Go.Proofs.YtfkeokglifpkoaaDoor

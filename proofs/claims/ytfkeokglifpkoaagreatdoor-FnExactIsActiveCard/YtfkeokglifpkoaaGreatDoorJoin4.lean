/-
  Texts that follow one another, joined: BrN, BrCu, RgM.
-/
import Derived.Test.YtfkeokglifpkoaaGreatDoorJoin3
import Derived.Lib.SlicesCompact
import Derived.Sort.Walk0
/-
  Names that are lost: put one by one in order, or gathered, sorted and freed of what is told twice: the same.
-/
namespace Go.Proofs.YtfkeokglifpkoaaGreatDoor
open Go.RowKit M
namespace M
def has (l : Txs) (x : ByteArray) : Bool := l.any (fun y => y.toList == x.toList)
theorem has_iff {l : Txs} {x : ByteArray} : has l x = true ↔ x ∈ l := by
  unfold has
  rw [List.any_eq_true]
  constructor
  · rintro ⟨y, hy, he⟩
    rw [eqS, decide_eq_true_eq] at he
    exact he ▸ hy
  · exact fun h => ⟨x, h, by simp⟩
def RisP (l : Txs) : Prop := l.Pairwise (fun a b => ltS a b = true)
theorem Rise.pw {l : Txs} : Rise l ↔ RisP l := by
  unfold RisP
  rw [List.pairwise_iff_getElem]
  constructor
  · intro h i j hi hj hij
    exact h.lt2 hij (List.getElem?_eq_getElem hi) (List.getElem?_eq_getElem hj)
  · intro h i x y hx hy
    obtain ⟨hi, rfl⟩ := List.getElem?_eq_some_iff.1 hx
    obtain ⟨hj, rfl⟩ := List.getElem?_eq_some_iff.1 hy
    exact h i (i + 1) hi hj (by omega)
theorem tog_new {l : Txs} {x : ByteArray} (hr : Rise l) (hx : ¬ x ∈ l) : Rise (tog l x) ∧ ∀ y, y ∈ tog l x ↔ y ∈ l ∨ y = x := by
  have hf : ¬ fnd l x = true := fun h => hx ((fnd_iff hr x).1 h)
  unfold tog
  rw [if_neg hf]
  constructor
  · have hp := Rise.pw.1 hr
    have hs : l.take (ps l x) ++ l.drop (ps l x) = l := List.take_append_drop _ _
    unfold RisP at hp
    rw [← hs, List.pairwise_append] at hp
    rw [Rise.pw]
    unfold RisP
    rw [List.pairwise_append, List.pairwise_cons]
    have hlo : ∀ a ∈ l.take (ps l x), ltS a x = true := fun a ha => by
      obtain ⟨i, hi, he⟩ := List.mem_iff_getElem.1 ha
      rw [List.length_take] at hi
      rw [List.getElem_take] at he
      exact ps_lt l x i a (by omega) (by rw [← he]; exact List.getElem?_eq_getElem (by omega))
    refine ⟨hp.1, ⟨fun a ha => ?_, hp.2.1⟩, fun a ha b hb => ?_⟩
    · obtain ⟨i, hi, he⟩ := List.mem_iff_getElem.1 ha
      rw [List.length_drop] at hi
      rw [List.getElem_drop] at he
      have hg : l[ps l x + i]? = some a := by rw [← he]; exact List.getElem?_eq_getElem (by omega)
      have h1 := ps_ge hr (show ps l x ≤ ps l x + i by omega) hg
      rcases lt_tri x a with h | h | h
      · exact h
      · exact absurd (h ▸ List.mem_of_getElem? hg) hx
      · rw [h] at h1; cases h1
    · rw [List.mem_cons] at hb
      rcases hb with hb | hb
      · subst hb; exact hlo a ha
      · exact hp.2.2 a ha b hb
  · intro y
    have hs : l.take (ps l x) ++ l.drop (ps l x) = l := List.take_append_drop _ _
    have hm : y ∈ l ↔ y ∈ l.take (ps l x) ∨ y ∈ l.drop (ps l x) := by
      rw [← List.mem_append, hs]
    rw [List.mem_append, List.mem_cons, hm]
    constructor
    · rintro (h | h | h)
      · exact .inl (.inl h)
      · exact .inr h
      · exact .inl (.inr h)
    · rintro ((h | h) | h)
      · exact .inl h
      · exact .inr (.inr h)
      · exact .inr (.inl h)
theorem rise_ext : ∀ {a b : Txs}, RisP a → RisP b → (∀ x, x ∈ a ↔ x ∈ b) → a = b
  | [], [], _, _, _ => rfl
  | [], y :: b, _, _, h => by have := (h y).2 (by simp); cases this
  | x :: a, [], _, _, h => by have := (h x).1 (by simp); cases this
  | x :: a, y :: b, ha, hb, h => by
    unfold RisP at ha hb
    rw [List.pairwise_cons] at ha hb
    have hxy : x = y := by
      have h1 := (h x).1 (by simp)
      have h2 := (h y).2 (by simp)
      rw [List.mem_cons] at h1 h2
      rcases h1 with h1 | h1
      · exact h1
      · rcases h2 with h2 | h2
        · exact h2.symm
        · have h3 := hb.1 x h1
          have h4 := ha.1 y h2
          rw [lt_asym h4] at h3; cases h3
    subst hxy
    congr 1
    refine rise_ext ha.2 hb.2 (fun z => ⟨fun hz => ?_, fun hz => ?_⟩)
    · have h1 := (h z).1 (by simp [hz])
      rw [List.mem_cons] at h1
      rcases h1 with h1 | h1
      · subst h1
        have := ha.1 z hz
        rw [lt_irr] at this; cases this
      · exact h1
    · have h1 := (h z).2 (by simp [hz])
      rw [List.mem_cons] at h1
      rcases h1 with h1 | h1
      · subst h1
        have := hb.1 z hz
        rw [lt_irr] at this; cases this
      · exact h1
/-- One name more among those that are lost. -/
def lin (kept out : Txs) (n : ByteArray) : Txs := if has kept n = true then out else if has out n = true then out else tog out n
theorem lin_len (kept out : Txs) (n : ByteArray) : (lin kept out n).length ≤ out.length + 1 := by
  unfold lin
  split
  · omega
  · split
    · omega
    · exact tog_len _ _
theorem lin_rise {kept out : Txs} {n : ByteArray} (h : Rise out) : Rise (lin kept out n) ∧ ∀ x, x ∈ lin kept out n ↔ x ∈ out ∨ (x = n ∧ ¬ x ∈ kept) := by
  unfold lin
  split
  · rename_i h1
    rw [has_iff] at h1
    refine ⟨h, fun x => ⟨fun hx => .inl hx, fun hx => ?_⟩⟩
    rcases hx with hx | ⟨rfl, hx⟩
    · exact hx
    · exact absurd h1 hx
  · rename_i h1
    rw [has_iff] at h1
    split
    · rename_i h2
      rw [has_iff] at h2
      refine ⟨h, fun x => ⟨fun hx => .inl hx, fun hx => ?_⟩⟩
      rcases hx with hx | ⟨rfl, hx⟩
      · exact hx
      · exact h2
    · rename_i h2
      rw [has_iff] at h2
      obtain ⟨h3, h4⟩ := tog_new h h2
      refine ⟨h3, fun x => ?_⟩
      rw [h4]
      constructor
      · rintro (h | rfl)
        · exact .inl h
        · exact .inr ⟨rfl, h1⟩
      · rintro (h | ⟨rfl, -⟩)
        · exact .inl h
        · exact .inr rfl
def lst (kept : Txs) (ns out : Txs) : Txs := ns.foldl (lin kept) out
theorem lst_snoc (kept ns out : Txs) (n : ByteArray) : lst kept (ns ++ [n]) out = lin kept (lst kept ns out) n := by unfold lst; rw [List.foldl_append]; rfl
theorem lst_app (kept a b out : Txs) : lst kept (a ++ b) out = lst kept b (lst kept a out) := by unfold lst; rw [List.foldl_append]
theorem lst_len (kept : Txs) : ∀ (ns out : Txs), (lst kept ns out).length ≤ out.length + ns.length
  | [], out => by simp [lst]
  | n :: ns, out => by
    have h1 := lst_len kept ns (lin kept out n)
    have h2 := lin_len kept out n
    show (lst kept ns (lin kept out n)).length ≤ _
    simp only [List.length_cons]; omega
theorem lst_rise (kept : Txs) : ∀ (ns out : Txs), Rise out → Rise (lst kept ns out) ∧ ∀ x, x ∈ lst kept ns out ↔ x ∈ out ∨ (x ∈ ns ∧ ¬ x ∈ kept)
  | [], out, h => ⟨h, fun x => ⟨fun hx => .inl hx, fun hx => by rcases hx with hx | ⟨hx, _⟩; exact hx; cases hx⟩⟩
  | n :: ns, out, h => by
    obtain ⟨h1, h2⟩ := lin_rise (kept := kept) (n := n) h
    obtain ⟨h3, h4⟩ := lst_rise kept ns (lin kept out n) h1
    refine ⟨h3, fun x => ?_⟩
    show x ∈ lst kept ns (lin kept out n) ↔ _
    rw [h4, h2, List.mem_cons]
    constructor
    · rintro ((h | ⟨rfl, h⟩) | ⟨h, h'⟩)
      · exact .inl h
      · exact .inr ⟨.inl rfl, h⟩
      · exact .inr ⟨.inr h, h'⟩
    · rintro (h | ⟨rfl | h, h'⟩)
      · exact .inl (.inl h)
      · exact .inl (.inr ⟨rfl, h'⟩)
      · exact .inr ⟨h, h'⟩
theorem rise_nil : Rise [] := fun i x y hx => by simp at hx
/-- Gathered. -/
def gat (kept ns : Txs) : Txs := ns.filter (fun n => !has kept n)
theorem mem_gat {kept ns : Txs} {x : ByteArray} : x ∈ gat kept ns ↔ x ∈ ns ∧ ¬ x ∈ kept := by
  unfold gat
  rw [List.mem_filter]
  constructor
  · rintro ⟨h, h2⟩; exact ⟨h, fun h3 => by rw [has_iff.2 h3] at h2; cases h2⟩
  · rintro ⟨h, h2⟩
    refine ⟨h, ?_⟩
    cases hb : has kept x with
    | false => rfl
    | true => exact absurd (has_iff.1 hb) h2
abbrev Bs := List UInt8
def unB (x : ByteArray) : Bs := x.data.toList
def toB (b : Bs) : ByteArray := ⟨b.toArray⟩
theorem toB_un (x : ByteArray) : toB (unB x) = x := by cases x; simp [toB, unB]
theorem unB_to (b : Bs) : unB (toB b) = b := by simp [toB, unB]
theorem lt_un (x y : ByteArray) : ltS x y = decide (unB x < unB y) := by
  unfold ltS unB; rw [toL, toL, Go.Proofs.bytesLess_eq]
theorem lt_to (x y : Bs) : ltS (toB x) (toB y) = decide (x < y) := by rw [lt_un, unB_to, unB_to]
theorem bs_trans {a b c : Bs} (h1 : a < b) (h2 : b < c) : a < c := by
  have := @lt_trans (toB a) (toB b) (toB c) (by rw [lt_to, decide_eq_true h1]) (by rw [lt_to, decide_eq_true h2])
  rw [lt_to] at this; exact of_decide_eq_true this
theorem bs_tri (a b : Bs) : a < b ∨ a = b ∨ b < a := by
  rcases lt_tri (toB a) (toB b) with h | h | h
  · rw [lt_to] at h; exact .inl (of_decide_eq_true h)
  · have := congrArg unB h; rw [unB_to, unB_to] at this; exact .inr (.inl this)
  · rw [lt_to] at h; exact .inr (.inr (of_decide_eq_true h))
theorem bs_irr (a : Bs) : ¬ a < a := fun h => by
  have := lt_irr (toB a)
  rw [lt_to, decide_eq_true h] at this; cases this
theorem bs_le {a b : Bs} : a ≤ b ↔ ¬ b < a := Iff.rfl
theorem bs_le2 {a b : Bs} : a ≤ b ↔ a < b ∨ a = b := by
  rw [bs_le]
  constructor
  · intro h
    rcases bs_tri a b with h1 | h1 | h1
    · exact .inl h1
    · exact .inr h1
    · exact absurd h1 h
  · rintro (h | rfl) h2
    · exact bs_irr a (bs_trans h h2)
    · exact bs_irr a h2
theorem bs_ltle {a b c : Bs} (h1 : a ≤ b) (h2 : b < c) : a < c := by
  rcases bs_le2.1 h1 with h | rfl
  · exact bs_trans h h2
  · exact h2
/-- Sorted. -/
def srt (l : Txs) : List Bs := (l.map unB).mergeSort (fun x y => decide (x ≤ y))
theorem srt_pw (l : Txs) : (srt l).Pairwise (fun x y => x ≤ y) := by
  have h := List.pairwise_mergeSort (le := fun (x y : Bs) => decide (x ≤ y)) (fun a b c h1 h2 => by
    rw [decide_eq_true_eq] at h1 h2 ⊢
    rcases bs_le2.1 h1 with h | rfl
    · rcases bs_le2.1 h2 with h' | rfl
      · exact bs_le2.2 (.inl (bs_trans h h'))
      · exact h1
    · exact h2) (fun a b => by
    rw [Bool.or_eq_true, decide_eq_true_eq, decide_eq_true_eq]
    rcases bs_tri a b with h | h | h
    · exact .inl (bs_le2.2 (.inl h))
    · exact .inl (bs_le2.2 (.inr h))
    · exact .inr (bs_le2.2 (.inl h))) (l.map unB)
  exact h.imp (fun h => by simpa using h)
theorem mem_srt {l : Txs} {b : Bs} : b ∈ srt l ↔ b ∈ l.map unB := (List.mergeSort_perm _ _).mem_iff
theorem srt_len (l : Txs) : (srt l).length = l.length := by
  unfold srt; rw [(List.mergeSort_perm _ _).length_eq, List.length_map]
theorem mem_cpt (zs : List Bs) (b : Bs) : b ∈ Lib.compact zs ↔ b ∈ zs := by
  unfold Lib.compact Lib.compactUpTo
  rw [List.mem_map]
  constructor
  · rintro ⟨i, hi, rfl⟩
    rw [List.mem_filter, List.mem_range] at hi
    have : i < zs.length := hi.1
    simp [this]
  · intro hb
    obtain ⟨i, hi, he⟩ := List.mem_iff_getElem.1 hb
    have key : ∀ i, (hi : i < zs.length) → zs[i] = b → ∃ a, a ∈ List.filter (Lib.keeps zs.toArray) (List.range zs.length) ∧ zs.toArray[a]! = b := by
      intro i
      induction i with
      | zero =>
        intro hi he
        exact ⟨0, by rw [List.mem_filter, List.mem_range]; exact ⟨hi, by simp [Lib.keeps]⟩, by simp [hi, he]⟩
      | succ i ih =>
        intro hi he
        by_cases hk : zs[i + 1] = zs[i]
        · exact ih (by omega) (by rw [← hk]; exact he)
        · refine ⟨i + 1, ?_, by simp [hi, he]⟩
          rw [List.mem_filter, List.mem_range]
          refine ⟨hi, ?_⟩
          unfold Lib.keeps
          rw [decide_eq_true_eq]
          right
          have h1 : i < zs.length := by omega
          simpa [hi, h1] using hk
    exact key i hi he
theorem cpt_pw {zs : List Bs} (h : zs.Pairwise (fun x y => x ≤ y)) : (Lib.compact zs).Pairwise (fun x y => x < y) := by
  unfold Lib.compact Lib.compactUpTo
  rw [List.pairwise_map, List.pairwise_filter, List.pairwise_iff_getElem]
  intro i j hi hj hij h1 h2
  rw [List.getElem_range] at h1 h2 ⊢
  rw [List.getElem_range]
  rw [List.length_range] at hi hj
  rw [List.pairwise_iff_getElem] at h
  unfold Lib.keeps at h2
  rw [decide_eq_true_eq] at h2
  obtain ⟨k, rfl⟩ : ∃ k, j = k + 1 := ⟨j - 1, by omega⟩
  have hk : k < zs.length := by omega
  rcases h2 with h2 | h2
  · omega
  · have e1 : zs.toArray[k + 1]! = zs[k + 1] := by simp [hj]
    have e2 : zs.toArray[k]! = zs[k] := by simp [hk]
    have e3 : zs.toArray[i]! = zs[i] := by simp [hi]
    rw [Nat.add_sub_cancel, e1, e2] at h2
    rw [e1, e3]
    have h3 := h k (k + 1) hk hj (by omega)
    have h4 : zs[k] < zs[k + 1] := by
      rcases bs_le2.1 h3 with h | h
      · exact h
      · exact absurd h.symm h2
    by_cases c : i = k
    · subst c; exact h4
    · exact bs_ltle (h i k hi hk (by omega)) h4
/-- Gathered, sorted, freed of what is told twice. -/
def fnl (l : Txs) : Txs := (Lib.compact (srt l)).map toB
theorem fnl_is {kept ns : Txs} : fnl (gat kept ns) = lst kept ns [] := by
  obtain ⟨h1, h2⟩ := lst_rise kept ns [] rise_nil
  refine rise_ext ?_ (Rise.pw.1 h1) (fun x => ?_)
  · unfold RisP fnl
    rw [List.pairwise_map]
    exact (cpt_pw (srt_pw _)).imp (fun h => by rw [lt_to]; exact decide_eq_true h)
  · rw [h2]
    unfold fnl
    rw [List.mem_map]
    constructor
    · rintro ⟨b, hb, rfl⟩
      rw [mem_cpt, mem_srt, List.mem_map] at hb
      obtain ⟨y, hy, rfl⟩ := hb
      rw [toB_un]
      exact .inr (mem_gat.1 hy)
    · rintro (h | h)
      · cases h
      · exact ⟨unB x, by rw [mem_cpt, mem_srt, List.mem_map]; exact ⟨x, mem_gat.2 h, rfl⟩, toB_un x⟩
end M
end Go.Proofs.YtfkeokglifpkoaaGreatDoor

/-
  The history that counts, and the names that it lacks: plain mathematics.
-/
namespace Go.Proofs.YtfkeokglifpkoaaGreatDoor
open Go.RowKit M
namespace M
def curB (bs : Brs) : Evs := bs.getD (cur bs bs.length) []
theorem cur_at {bs : Brs} {k : Nat} (hk : k ≤ bs.length) (hp : 0 < bs.length) : ∃ o, bs[cur bs k]? = some o := by
  cases k with
  | zero => exact ⟨bs[0], List.getElem?_eq_getElem hp⟩
  | succ k =>
    have := cur_lt bs k
    exact ⟨bs[cur bs (k + 1)]'(by omega), List.getElem?_eq_getElem _⟩
theorem cur_one (bs : Brs) : cur bs 1 = 0 := Nat.le_zero.1 (cur_lt bs 0)
theorem cur_b {bs : Brs} (hp : 0 < bs.length) : bs[cur bs bs.length]? = some (curB bs) := by
  obtain ⟨o, ho⟩ := cur_at (Nat.le_refl bs.length) hp
  rw [ho]; unfold curB; rw [getD_at ho]
def sgB (es : Evs) : Txs := (sk es es.length).sg
def cB (bs : Brs) : Evs := if bs = [] then [] else curB bs
def keptOf (bs : Brs) : Txs := sgB (cB bs)
def allS : Brs → Txs
  | [] => []
  | b :: r => sgB b ++ allS r
theorem allS_app : ∀ a b : Brs, allS (a ++ b) = allS a ++ allS b
  | [], b => rfl
  | x :: a, b => by simp [allS, allS_app a b]
theorem gat_len (k a : Txs) : (gat k a).length ≤ a.length := List.length_filter_le _ _
theorem gat_in {k : Txs} {y : ByteArray} (h : y ∈ k) : gat k [y] = [] := by simp [gat, has_iff.2 h]
theorem gat_out {k : Txs} {y : ByteArray} (h : ¬ y ∈ k) : gat k [y] = [y] := by
  have : has k y = false := by
    cases hb : has k y with
    | false => rfl
    | true => exact absurd (has_iff.1 hb) h
  simp [gat, this]
theorem gat_app (k a b : Txs) : gat k (a ++ b) = gat k a ++ gat k b := by simp [gat]
def lsl (bs : Brs) : Txs := lst (keptOf bs) (allS bs) []
theorem lsl_is (bs : Brs) : fnl (gat (keptOf bs) (allS bs)) = lsl bs := fnl_is
end M
end Go.Proofs.YtfkeokglifpkoaaGreatDoor

/-
  The mathematics of a region: which are good, the greatest Version told, a call that is taken, and calls that are taken again.
-/
namespace Go.Proofs.YtfkeokglifpkoaaGreatDoor
open Go.RowKit M
namespace M
structure Rg where
  id : Int
  ver : Int
  bs : Brs
def verB (bs : Brs) (v : Int) : Prop := ∀ b ∈ bs, ∀ e ∈ b, e.ver ≤ v
def GdW (ver : Int) (bs : Brs) : Prop := (0 ≤ ver ∧ ver ≤ 1000000) ∧ GdT bs ∧ verB bs ver
def GdR (r : Rg) : Prop := (0 ≤ r.id ∧ r.id ≤ 9) ∧ GdW r.ver r.bs
theorem lv_le {b : Evs} (h : Vup b b.length) {e : Ev} (he : e ∈ b) : e.ver ≤ lv b := by
  obtain ⟨i, hi, rfl⟩ := List.mem_iff_getElem.1 he
  have key : ∀ d j, j + d + 1 = b.length → ∀ x, b[j]? = some x → x.ver ≤ lv b := fun d => by
    induction d with
    | zero =>
      intro j hj x hx
      rw [lv_at (b := b) (e := x) (by rw [show b.length - 1 = j by omega]; exact hx)]
      exact Int.le_refl _
    | succ d ih =>
      intro j hj x hx
      have hy : b[j + 1]? = some (b[j + 1]'(by omega)) := List.getElem?_eq_getElem (by omega)
      have h1 := h j x _ (by omega) hx hy
      have h2 := ih (j + 1) (by omega) _ hy
      omega
  exact key (b.length - 1 - i) i (by omega) _ (List.getElem?_eq_getElem hi)
theorem cur_max (bs : Brs) : ∀ k, k ≤ bs.length → ∀ i b, i < k → bs[i]? = some b → lv b ≤ lv (bs.getD (cur bs k) [])
  | 0, _ => fun i b hi _ => absurd hi (Nat.not_lt_zero _)
  | k + 1, hk => fun i b hi hb => by
    have hx : bs[k]? = some bs[k] := List.getElem?_eq_getElem (by omega)
    have ih := cur_max bs k (by omega)
    rw [cur]
    by_cases c : btr (bs.getD k []) (bs.getD (cur bs k) []) = true
    · rw [if_pos c]
      have h1 : lv (bs.getD (cur bs k) []) ≤ lv (bs.getD k []) := by
        unfold btr at c
        simp only [Bool.or_eq_true, Bool.and_eq_true, decide_eq_true_eq] at c
        rcases c with c | ⟨c, -⟩ <;> omega
      by_cases hik : i = k
      · subst hik; rw [getD_at hb]; exact Int.le_refl _
      · have := ih i b (by omega) hb; omega
    · rw [if_neg c]
      have h1 : lv (bs.getD k []) ≤ lv (bs.getD (cur bs k) []) := by
        unfold btr at c
        simp only [Bool.or_eq_true, Bool.and_eq_true, decide_eq_true_eq, not_or, not_and] at c
        omega
      by_cases hik : i = k
      · subst hik; rw [getD_at hb] at h1; exact h1
      · exact ih i b (by omega) hb
/-- The greatest Version of an event, 0 where there is none. -/
def nws (bs : Brs) : Int := lv (cB bs)
theorem cB_mem {bs : Brs} (h : bs ≠ []) : cB bs ∈ bs := by
  unfold cB; rw [if_neg h]
  exact List.mem_of_getElem? (cur_b (List.length_pos_iff.2 h))
theorem nws_iff {bs : Brs} {v : Int} (hg : GdT bs) (hv : 0 ≤ v) : nws bs ≤ v ↔ verB bs v := by
  by_cases h0 : bs = []
  · subst h0
    have : nws [] = 0 := rfl
    rw [this]
    exact ⟨fun _ b hb => (by cases hb), fun _ => hv⟩
  · constructor
    · intro h b hb e he
      have ht := hg.2.1 b hb
      have h1 := lv_le ht.2.2.2 he
      obtain ⟨i, hi, rfl⟩ := List.mem_iff_getElem.1 hb
      have h2 := cur_max bs bs.length (Nat.le_refl _) i _ hi (List.getElem?_eq_getElem hi)
      have h3 : lv (bs.getD (cur bs bs.length) []) = nws bs := by unfold nws cB curB; rw [if_neg h0]
      omega
    · intro h
      have hm := cB_mem h0
      have ht := hg.2.1 _ hm
      have hp : 0 < (cB bs).length := List.length_pos_iff.2 ht.1
      have hx : (cB bs)[(cB bs).length - 1]? = some ((cB bs)[(cB bs).length - 1]'(by omega)) := List.getElem?_eq_getElem (by omega)
      unfold nws
      rw [lv_at hx]
      exact h _ hm _ (List.mem_of_getElem? hx)
/-- The state that the history that counts makes. -/
def stB (bs : Brs) : St := sk (cB bs) (cB bs).length
theorem cB_hist {bs : Brs} (hg : GdT bs) : Hist (cB bs) := by
  by_cases h0 : bs = []
  · subst h0
    exact ⟨Nat.zero_le _, ⟨Nat.zero_le _, fun i e hi => absurd hi (Nat.not_lt_zero _), fun e he => by simp [cB] at he⟩, fun i d e hi => absurd hi (Nat.not_lt_zero _)⟩
  · exact (hg.2.1 _ (cB_mem h0)).2
theorem stB_good {bs : Brs} (hg : GdT bs) : GoodSt (stB bs) := (cB_hist hg).2.1.2.1.good (Nat.le_refl _)
theorem stB_nx (bs : Brs) : (stB bs).nx = ((cB bs).length : Int) + 1 := sk_nx _ _ (Nat.le_refl _)
/-- Kinds and names of good events. -/
def okC (k : Int) (x : ByteArray) : Bool := inB k 1 6 && gN x
/-- A call is told by a code. 'my' tells which events may come. -/
def tkc (my : St → Ev → Bool) (r : Rg) (k : Int) (x : ByteArray) : Int :=
  if okC k x = false then 1
  else if r.ver % 10 ≠ r.id then 2
  else if k = 2 ∧ has (stB r.bs).sg x = true then 5
  else if my (stB r.bs) ⟨(stB r.bs).nx, r.ver, k, x⟩ = false then 3
  else if (cB r.bs).length = 60 then 4
  else 0
def evR (r : Rg) (k : Int) (x : ByteArray) : Ev := ⟨(stB r.bs).nx, r.ver, k, x⟩
def tkh (r : Rg) (k : Int) (x : ByteArray) : Evs := cB r.bs ++ [evR r k x]
def tkb (my : St → Ev → Bool) (r : Rg) (k : Int) (x : ByteArray) : Brs := if tkc my r k x = 0 then add r.bs (tkh r k x) else r.bs
theorem tkc_bad {my : St → Ev → Bool} {r : Rg} {k : Int} {x : ByteArray} (h : okC k x = false) : tkc my r k x = 1 := by unfold tkc; rw [if_pos h]
theorem tkc_passive {my : St → Ev → Bool} {r : Rg} {k : Int} {x : ByteArray} (h : okC k x = true) (h1 : r.ver % 10 ≠ r.id) : tkc my r k x = 2 := by unfold tkc; rw [if_neg (by rw [h]; simp), if_pos h1]
theorem tkc_again {my : St → Ev → Bool} {r : Rg} {k : Int} {x : ByteArray} (h : okC k x = true) (h1 : r.ver % 10 = r.id) (h2 : k = 2 ∧ has (stB r.bs).sg x = true) : tkc my r k x = 5 := by unfold tkc; rw [if_neg (by rw [h]; simp), if_neg (by simp [h1]), if_pos h2]
theorem tkc_refused {my : St → Ev → Bool} {r : Rg} {k : Int} {x : ByteArray} (h : okC k x = true) (h1 : r.ver % 10 = r.id) (h2 : ¬ (k = 2 ∧ has (stB r.bs).sg x = true)) (h3 : my (stB r.bs) (evR r k x) = false) : tkc my r k x = 3 := by
  unfold tkc; rw [if_neg (by rw [h]; simp), if_neg (by simp [h1]), if_neg h2]; unfold evR at h3; rw [if_pos h3]
theorem tkc_full {my : St → Ev → Bool} {r : Rg} {k : Int} {x : ByteArray} (h : okC k x = true) (h1 : r.ver % 10 = r.id) (h2 : ¬ (k = 2 ∧ has (stB r.bs).sg x = true)) (h3 : my (stB r.bs) (evR r k x) = true) (h4 : (cB r.bs).length = 60) : tkc my r k x = 4 := by
  unfold tkc; rw [if_neg (by rw [h]; simp), if_neg (by simp [h1]), if_neg h2]; unfold evR at h3; rw [if_neg (by rw [h3]; simp), if_pos h4]
theorem tkc_ok {my : St → Ev → Bool} {r : Rg} {k : Int} {x : ByteArray} (h : okC k x = true) (h1 : r.ver % 10 = r.id) (h2 : ¬ (k = 2 ∧ has (stB r.bs).sg x = true)) (h3 : my (stB r.bs) (evR r k x) = true) (h4 : (cB r.bs).length ≠ 60) : tkc my r k x = 0 := by
  unfold tkc; rw [if_neg (by rw [h]; simp), if_neg (by simp [h1]), if_neg h2]; unfold evR at h3; rw [if_neg (by rw [h3]; simp), if_neg h4]
theorem tkc_zero {my : St → Ev → Bool} {r : Rg} {k : Int} {x : ByteArray} (h : tkc my r k x = 0) : okC k x = true ∧ r.ver % 10 = r.id ∧ ¬ (k = 2 ∧ has (stB r.bs).sg x = true) ∧ my (stB r.bs) (evR r k x) = true ∧ (cB r.bs).length ≠ 60 := by
  unfold tkc at h
  split at h
  · omega
  · rename_i c0
    split at h
    · omega
    · rename_i c1
      split at h
      · omega
      · rename_i c2
        split at h
        · omega
        · rename_i c3
          split at h
          · omega
          · rename_i c4
            exact ⟨by simpa using c0, by simpa using c1, c2, by unfold evR; simpa using c3, c4⟩
/-- The Version of an event doesn't count for whether it may come. -/
theorem may_ver {s : St} {k v : Int} {x : ByteArray} (h0 : 0 ≤ v) (h1 : v ≤ 1000000) : May s ⟨s.nx, v, k, x⟩ ↔ May s ⟨s.nx, 0, k, x⟩ := by
  have hr : raw s ⟨s.nx, v, k, x⟩ = raw s ⟨s.nx, 0, k, x⟩ := rfl
  have hg : Ev.gd ⟨s.nx, v, k, x⟩ = Ev.gd ⟨s.nx, 0, k, x⟩ := by
    unfold Ev.gd goodB
    have : inB v 0 1000000 = inB 0 0 1000000 := by unfold inB; rw [decide_eq_true h0, decide_eq_true h1]; rfl
    simp only [this]
  unfold May
  rw [hr, hg]
theorem sk_left {a b : Evs} {i : Nat} (h : i ≤ a.length) : sk (a ++ b) i = sk a i := by unfold sk; rw [List.take_append_of_le_length h]
theorem hist_snoc {a : Evs} {e : Ev} (h : Hist a) (hl : a.length < 60) (hm : May (sk a a.length) e) (hv : ∀ x ∈ a, x.ver ≤ e.ver) : Hist (a ++ [e]) := by
  have hlen : (a ++ [e]).length = a.length + 1 := by simp
  refine ⟨by omega, ⟨Nat.le_refl _, fun i x hi hx => ?_, fun x hx => ?_⟩, fun i d x hi hd hx => ?_⟩
  · by_cases c : i < a.length
    · rw [List.getElem?_append_left c] at hx
      rw [sk_left (by omega)]
      exact h.2.1.2.1 i x c hx
    · have hi2 : i = a.length := by omega
      subst hi2
      rw [sk_left (Nat.le_refl _)]
      simp at hx
      subst hx; exact hm
  · rw [List.getElem?_eq_none (Nat.le_refl _)] at hx; cases hx
  · rw [hlen] at hi
    by_cases c : i + 1 < a.length
    · rw [List.getElem?_append_left (by omega)] at hd
      rw [List.getElem?_append_left c] at hx
      exact h.2.2 i d x c hd hx
    · have hi2 : i + 1 = a.length := by omega
      rw [List.getElem?_append_left (by omega)] at hd
      rw [hi2] at hx
      simp at hx
      subst hx
      exact hv d (List.mem_of_getElem? hd)
theorem com_app : ∀ a b : Evs, com a (a ++ b) = a.length
  | [], b => by rw [com_nil_l]; rfl
  | x :: a, b => by
    rw [List.cons_append, com, if_pos (cE_self x), com_app a b]; rfl
theorem add_cur_len {bs : Brs} (e : Ev) (h : bs.length ≤ 12) : (add bs (cB bs ++ [e])).length ≤ 12 := by
  by_cases h0 : bs = []
  · subst h0
    have := add_len [] (cB [] ++ [e])
    simp at this; omega
  · unfold add
    split
    · exact h
    · have hm := cB_mem h0
      have hlt : (lft bs (cB bs ++ [e])).length < bs.length := by
        unfold lft
        rw [List.length_filter_lt_length_iff_exists]
        exact ⟨cB bs, hm, by simp [com_app]⟩
      have hp := plc_le (lft bs (cB bs ++ [e])) (cB bs ++ [e])
      simp
      omega
theorem tkh_tl {my : St → Ev → Bool} {r : Rg} {k : Int} {x : ByteArray} (hmy : ∀ s e, BP (my s e) (May s e)) (hg : GdR r) (h : tkc my r k x = 0) : Tl (tkh r k x) := by
  obtain ⟨-, -, -, h3, h4⟩ := tkc_zero h
  have hh := cB_hist hg.2.2.1
  refine ⟨by unfold tkh; simp, hist_snoc hh (by have := hh.1; omega) ((hmy _ _).1 h3) (fun y hy => ?_)⟩
  show y.ver ≤ r.ver
  by_cases h0 : r.bs = []
  · unfold cB at hy; rw [if_pos h0] at hy; cases hy
  · exact hg.2.2.2 _ (cB_mem h0) y hy
theorem add_mem {bs : Brs} {h b : Evs} (hb : b ∈ add bs h) : b ∈ bs ∨ b = h := by
  unfold add at hb
  split at hb
  · exact .inl hb
  · rw [List.mem_append, List.mem_cons] at hb
    rcases hb with hb | hb | hb
    · exact .inl (mem_lft.1 (List.mem_of_mem_take hb)).1
    · exact .inr hb
    · exact .inl (mem_lft.1 (List.mem_of_mem_drop hb)).1
theorem add_ver {bs : Brs} {h : Evs} {v : Int} (hb : verB bs v) (hh : ∀ e ∈ h, e.ver ≤ v) : verB (add bs h) v := fun b hm e he => by
  rcases add_mem hm with h1 | h1
  · exact hb b h1 e he
  · subst h1; exact hh e he
theorem tkb_good {my : St → Ev → Bool} {r : Rg} {k : Int} {x : ByteArray} (hmy : ∀ s e, BP (my s e) (May s e)) (hg : GdR r) : GdR ⟨r.id, r.ver, tkb my r k x⟩ := by
  unfold tkb
  split
  · rename_i h
    have ht := tkh_tl hmy hg h
    refine ⟨hg.1, hg.2.1, ⟨add_cur_len _ hg.2.2.1.1, add_good hg.2.2.1.2 ht⟩, add_ver hg.2.2.2 (fun e he => ?_)⟩
    unfold tkh at he
    rw [List.mem_append, List.mem_singleton] at he
    rcases he with he | he
    · show e.ver ≤ r.ver
      by_cases h0 : r.bs = []
      · unfold cB at he; rw [if_pos h0] at he; cases he
      · exact hg.2.2.2 _ (cB_mem h0) e he
    · subst he; exact Int.le_refl _
  · exact hg
/-- Signals called for again, one by one. -/
def rps (my : St → Ev → Bool) (id ver : Int) (s : Brs × Nat) (x : ByteArray) : Brs × Nat := (tkb my ⟨id, ver, s.1⟩ 2 x, s.2 + (if tkc my ⟨id, ver, s.1⟩ 2 x = 0 then 1 else 0))
def rpl (my : St → Ev → Bool) (id ver : Int) (ns : Txs) (s : Brs × Nat) : Brs × Nat := ns.foldl (rps my id ver) s
theorem rpl_snoc {my : St → Ev → Bool} {id ver : Int} {ns : Txs} {s : Brs × Nat} {k : Nat} {x : ByteArray} (h : ns[k]? = some x) : rpl my id ver (ns.take (k + 1)) s = rps my id ver (rpl my id ver (ns.take k) s) x := by
  obtain ⟨hk, rfl⟩ := List.getElem?_eq_some_iff.1 h
  unfold rpl
  rw [List.take_succ_eq_append_getElem hk, List.foldl_append]; rfl
theorem rpl_good {my : St → Ev → Bool} {id ver : Int} (hmy : ∀ s e, BP (my s e) (May s e)) : ∀ (ns : Txs) (s : Brs × Nat), GdR ⟨id, ver, s.1⟩ → GdR ⟨id, ver, (rpl my id ver ns s).1⟩
  | [], _, h => h
  | x :: ns, s, h => rpl_good hmy ns (rps my id ver s x) (tkb_good hmy h)
theorem rpl_len {my : St → Ev → Bool} {id ver : Int} : ∀ (ns : Txs) (s : Brs × Nat), (rpl my id ver ns s).2 ≤ s.2 + ns.length
  | [], s => Nat.le_refl _
  | x :: ns, s => by
    have := rpl_len (my := my) (id := id) (ver := ver) ns (rps my id ver s x)
    have h2 : (rps my id ver s x).2 ≤ s.2 + 1 := by unfold rps; simp only; split <;> omega
    show (rpl my id ver ns (rps my id ver s x)).2 ≤ _
    simp only [List.length_cons]; omega
def rpA (my : St → Ev → Bool) (r : Rg) : Brs × Nat := rpl my r.id r.ver (lsl r.bs) (r.bs, 0)
/-- The names that are lost are names of events. -/
theorem allS_mem : ∀ {bs : Brs} {x : ByteArray}, x ∈ allS bs → ∃ b ∈ bs, x ∈ sgB b
  | [], x => fun h => by cases h
  | b :: r, x => fun h => by
    rw [allS, List.mem_append] at h
    rcases h with h | h
    · exact ⟨b, by simp, h⟩
    · obtain ⟨c, hc, hx⟩ := allS_mem h
      exact ⟨c, by simp [hc], hx⟩
theorem lsl_mem {bs : Brs} {x : ByteArray} (h : x ∈ lsl bs) : ∃ b ∈ bs, x ∈ sgB b := by
  have := ((lst_rise (keptOf bs) (allS bs) [] rise_nil).2 x).1 h
  rcases this with h1 | ⟨h1, -⟩
  · cases h1
  · exact allS_mem h1
theorem sgB_len {b : Evs} (h : Tl b) : (sgB b).length ≤ 30 := (h.2.2.1.2.1.good (Nat.le_refl _)).2.2.1.1
theorem allS_len : ∀ {bs : Brs}, (∀ b ∈ bs, Tl b) → (allS bs).length ≤ 30 * bs.length
  | [], _ => by simp [allS]
  | b :: r, h => by
    have h1 := sgB_len (h b (by simp))
    have h2 := allS_len (bs := r) (fun c hc => h c (by simp [hc]))
    rw [allS, List.length_append, List.length_cons]; omega
theorem lsl_len {bs : Brs} (hg : GdT bs) : (lsl bs).length ≤ 360 := by
  have h1 := lst_len (keptOf bs) (allS bs) []
  have h2 := allS_len hg.2.1
  have h3 := hg.1
  unfold lsl
  simp at h1
  omega
end M
end Go.Proofs.YtfkeokglifpkoaaGreatDoor

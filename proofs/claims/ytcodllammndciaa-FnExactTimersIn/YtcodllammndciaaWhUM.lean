/-
  Timers by At, then Id: one list in order, told in one way; a row of timers that the library's sort has laid.
-/
import Derived.Test.YtcodllammndciaaWhAd
import Derived.Test.YtcodllammndciaaShelf2
namespace Go.Proofs.Ytcodllammndciaa
open Go.RowKit M
open Clk (upd upd_same upd_other)
open Go.Sort (grow SWO flatK HoldsK Holds putRow putCells mapBlock onCells heap_grow_old)
namespace M
abbrev Tp := Int × Int
def ltP (x y : Tp) : Bool := decide (x.1 < y.1 ∨ x.1 = y.1 ∧ x.2 < y.2)
def cfT (x y : Tp) : Int := if Lib.compareInt x.1 y.1 = 0 then Lib.compareInt x.2 y.2 else Lib.compareInt x.1 y.1
theorem cfT_lt : ltOf cfT = ltP := by
  funext x y
  unfold ltOf cfT ltP Lib.compareInt
  apply decide_eq_decide.2
  by_cases h1 : x.1 < y.1
  · simp [h1]
  · by_cases h2 : y.1 < x.1
    · have h3 : ¬ x.1 = y.1 := by omega
      simp [h1, h2, h3]
    · have h3 : x.1 = y.1 := by omega
      by_cases h4 : x.2 < y.2
      · simp [h3, h4]
      · by_cases h5 : y.2 < x.2 <;> simp [h3, h4, h5]
theorem ltP_swo : SWO ltP := {
  irrefl := fun x => by unfold ltP; simp
  trans := fun x y z h1 h2 => by unfold ltP at *; simp at *; omega
  ntrans := fun x y z h1 h2 => by unfold ltP at *; simp at *; omega }
theorem ltP_eq {x y : Tp} (h1 : ltP x y = false) (h2 : ltP y x = false) : x = y := by
  unfold ltP at *
  simp at h1 h2
  exact Prod.ext (by omega) (by omega)
/-- Timers in order. -/
def srtT (l : List Tp) : List Tp := l.mergeSort fun x y => !ltP y x
theorem srtT_perm (l : List Tp) : (srtT l).Perm l := List.mergeSort_perm l _
theorem srtT_len (l : List Tp) : (srtT l).length = l.length := (srtT_perm l).length_eq
theorem srtT_pw (l : List Tp) : (srtT l).Pairwise (fun x y => ltP y x = false) := by
  have h := List.pairwise_mergeSort (le := fun x y : Tp => !ltP y x) (fun _ _ _ h1 h2 => by unfold ltP at *; simp at *; omega) (fun _ _ => by unfold ltP; simp; omega) l
  exact h.imp (fun h => by simpa using h)
theorem srtT_eq {l l' : List Tp} (hp : l'.Perm l) (hs : l'.Pairwise (fun x y => ltP y x = false)) : l' = srtT l :=
  List.Perm.eq_of_pairwise (fun _ _ _ _ h1 h2 => ltP_eq h2 h1) hs (srtT_pw l) (hp.trans (srtT_perm l).symm)
theorem ins_sortedT : ∀ {l : List Tp} {n : Tp}, l.Pairwise (fun x y => ltP y x = false) → ((l.takeWhile fun x => ltP x n) ++ n :: (l.dropWhile fun x => ltP x n)).Pairwise (fun x y => ltP y x = false)
  | [], n, _ => by simp
  | a :: r, n, h => by
    rw [List.pairwise_cons] at h
    by_cases ha : ltP a n = true
    · rw [List.takeWhile_cons_of_pos (p := fun x => ltP x n) ha, List.dropWhile_cons_of_pos (p := fun x => ltP x n) ha, List.cons_append, List.pairwise_cons]
      refine ⟨fun b hb => ?_, ins_sortedT h.2⟩
      rw [List.mem_append, List.mem_cons] at hb
      rcases hb with hb | hb | hb
      · exact h.1 b ((List.takeWhile_sublist _).subset hb)
      · subst hb; unfold ltP at ha ⊢; simp at ha ⊢; omega
      · exact h.1 b ((List.dropWhile_sublist _).subset hb)
    · rw [List.takeWhile_cons_of_neg (p := fun x => ltP x n) ha, List.dropWhile_cons_of_neg (p := fun x => ltP x n) ha, List.nil_append, List.pairwise_cons, List.pairwise_cons]
      refine ⟨fun b hb => ?_, h⟩
      rw [Bool.not_eq_true] at ha
      rw [List.mem_cons] at hb
      rcases hb with hb | hb
      · subst hb; exact ha
      · exact ltP_swo.ntrans _ _ _ (h.1 b hb) ha
def insT (L : List Tp) (n : Tp) : List Tp := (L.takeWhile fun x => ltP x n) ++ n :: (L.dropWhile fun x => ltP x n)
theorem insT_srt (l : List Tp) (n : Tp) : insT (srtT l) n = srtT (l ++ [n]) := by
  refine srtT_eq ?_ (ins_sortedT (srtT_pw l))
  have h1 : (((srtT l).takeWhile fun x => ltP x n) ++ n :: ((srtT l).dropWhile fun x => ltP x n)).Perm (n :: (((srtT l).takeWhile fun x => ltP x n) ++ ((srtT l).dropWhile fun x => ltP x n))) := List.perm_middle
  rw [List.takeWhile_append_dropWhile] at h1
  exact h1.trans (((srtT_perm l).cons n).trans (List.perm_append_singleton n l).symm)
theorem twT_take (p : Tp → Bool) : ∀ l : List Tp, l.takeWhile p = l.take (l.takeWhile p).length ∧ l.dropWhile p = l.drop (l.takeWhile p).length
  | [] => by simp
  | a :: r => by
    obtain ⟨h1, h2⟩ := twT_take p r
    by_cases ha : p a = true
    · rw [List.takeWhile_cons_of_pos ha, List.dropWhile_cons_of_pos ha]
      simp only [List.length_cons, List.take_succ_cons, List.drop_succ_cons]
      exact ⟨by rw [← h1], h2⟩
    · rw [List.takeWhile_cons_of_neg ha, List.dropWhile_cons_of_neg ha]
      simp
theorem twT_char (p : Tp → Bool) : ∀ (l : List Tp) (k : Nat), (∀ j, j < k → ∃ x, l[j]? = some x ∧ p x = true) → (∀ x, l[k]? = some x → p x = false) → k ≤ l.length → (l.takeWhile p).length = k
  | [], k, _, _, hk => by simp at hk ⊢; omega
  | a :: r, 0, _, h2, _ => by
    rw [List.takeWhile_cons_of_neg (by rw [h2 a rfl]; decide)]; rfl
  | a :: r, k + 1, h1, h2, hk => by
    obtain ⟨x, hx, hp⟩ := h1 0 (by omega)
    simp at hx
    subst hx
    rw [List.takeWhile_cons_of_pos hp, List.length_cons, twT_char p r k (fun j hj => by have := h1 (j + 1) (by omega); simpa using this) (fun x hx => h2 x (by simpa using hx)) (by simpa using hk)]
theorem insT_at {L : List Tp} {n : Tp} {k : Nat} (hk : (L.takeWhile fun x => ltP x n).length = k) : insT L n = L.take k ++ n :: L.drop k := by
  obtain ⟨h1, h2⟩ := twT_take (fun x => ltP x n) L
  rw [hk] at h1 h2
  unfold insT
  rw [h1, h2]
/-- The numbers of timers. -/
def flat : List Tp → List Int
  | [] => []
  | x :: r => x.1 :: x.2 :: flat r
theorem flat_len : ∀ l : List Tp, (flat l).length = l.length * 2
  | [] => rfl
  | x :: r => by simp only [flat, List.length_cons]; rw [flat_len r]; omega
theorem flat_app : ∀ l l' : List Tp, flat (l ++ l') = flat l ++ flat l'
  | [], _ => rfl
  | x :: r, l' => by simp only [flat, List.cons_append]; rw [flat_app r l']
theorem flat_get : ∀ (l : List Tp) (t : Nat), t < l.length * 2 → (flat l)[t]? = some (if t % 2 = 0 then (l[t / 2]!).1 else (l[t / 2]!).2)
  | [], t, h => by simp at h
  | x :: r, 0, _ => rfl
  | x :: r, 1, _ => rfl
  | x :: r, t + 2, h => by
    have h1 := flat_get r t (by simp only [List.length_cons] at h; omega)
    have e1 : (t + 2) % 2 = t % 2 := by omega
    have e2 : (t + 2) / 2 = t / 2 + 1 := by omega
    rw [e1, e2]
    simp only [flat, List.getElem?_cons_succ]
    rw [h1]
    simp
def encT (x : Tp) : List Value := [.int .i64 x.1, .int .i64 x.2]
theorem flatK_flat (l : List Tp) : (flatK encT 2 l.toArray).toList = pvi (flat l) := by
  apply List.ext_getElem?
  intro t
  by_cases ht : t < l.length * 2
  · unfold pvi
    rw [List.getElem?_map, flat_get l t ht]
    simp only [flatK, Array.toList_map, Array.toList_range, List.size_toArray]
    rw [List.getElem?_map, List.getElem?_range ht]
    have h2 : t / 2 < l.length := by omega
    rcases (show t % 2 = 0 ∨ t % 2 = 1 by omega) with h | h <;> simp [h, encT, h2]
  · rw [List.getElem?_eq_none (by simp; omega), List.getElem?_eq_none (by unfold pvi; rw [List.length_map, flat_len]; omega)]
theorem flatK_arr (l : List Tp) : flatK encT 2 l.toArray = (pvi (flat l)).toArray := by rw [← flatK_flat]
theorem holds_T {w : World} {g : Nat} {cur : Array Value} {e : TypeId} {l : List Tp} (hb : w.heap[g]? = some (.cells cur e (0, 0))) (ht : cur.toList.take (l.length * 2) = pvi (flat l)) : HoldsK encT 2 w g 0 l.toArray := by
  unfold HoldsK
  rw [flatK_arr]
  intro j hj
  have hj' : j < (pvi (flat l)).length := by simpa using hj
  have hj2 : j < l.length * 2 := by have := hj'; unfold pvi at this; rw [List.length_map, flat_len] at this; exact this
  refine ⟨?_, by simp [World.frozen?, hb]⟩
  have h1 : (cur.toList.take (l.length * 2))[j]? = (pvi (flat l))[j]? := by rw [ht]
  rw [List.getElem?_take_of_lt hj2] at h1
  simp only [World.cell?, hb, Nat.zero_add]
  simp only [Option.isSome_none, Bool.false_eq_true, if_false]
  rw [← Array.getElem?_toList, h1]
  simp [hj']
theorem heap_sortedV {w : World} {g n : Nat} {os : Array Obj} {cur : Array Value} {e : TypeId} {fr : Nat × Nat} (d : Array Value) (hb : w.heap[g]? = some (.cells cur e fr)) :
    (grow (putRow id (Sort.ahead w n) g 0 d) os).heap[g]? = some (.cells (putCells id 0 d cur) e fr) := by
  have hg : g < w.heap.size := (Array.getElem?_eq_some_iff.1 hb).1
  rw [heap_grow_old _ _ (by simpa using hg)]
  simp [putRow, mapBlock, Sort.ahead, Array.getElem?_modify, hb, onCells]
theorem grownBy_sortedV {w : World} {g n : Nat} {os : Array Obj} (d : Array Value) : w.grownBy (grow (putRow id (Sort.ahead w n) g 0 d) os) (some g) := by
  refine ⟨rfl, rfl, rfl, by simp, fun k hk hne => ?_⟩
  rw [heap_grow_old _ _ (by simpa using hk)]
  have : g ≠ k := fun e => hne (by rw [e])
  simp [putRow, mapBlock, Sort.ahead, Array.getElem?_modify, this]
theorem take_putCellsV (cur : Array Value) (ts : List Value) (h : ts.length ≤ cur.size) : (putCells id 0 ts.toArray cur).toList.take ts.length = ts := by
  apply List.ext_getElem?
  intro j
  by_cases hj : j < ts.length
  · rw [List.getElem?_take_of_lt hj, Array.getElem?_toList]
    simp [putCells, hj, show j < cur.size by omega]
  · rw [List.getElem?_take_eq_none (by omega), List.getElem?_eq_none (by omega)]
theorem owns_sortedT {w : World} {base g cap n : Nat} {e : TypeId} {os : Array Obj} {cur : Array Value} {ss ts : List Tp} (hl : ts.length = ss.length) (hbase : base ≤ g) (hb : w.heap[g]? = some (.cells cur e (0, 0)))
    (h1 : ss.length ≤ cap) (h2 : cap ≤ maxLen) (h3 : cur.size = cap * 2) :
    (sortWorldK encT 2 w g 0 n ts.toArray os).ownsRow base e 2 (.slice (some ⟨g, 0, none⟩) ss.length cap) ss.length (pvi (flat ts)) ∧ w.grownBy (sortWorldK encT 2 w g 0 n ts.toArray os) (some g) := by
  have hlen : (pvi (flat ts)).length = ss.length * 2 := by unfold pvi; rw [List.length_map, flat_len, hl]
  show (grow (putRow id (Sort.ahead w n) g 0 (flatK encT 2 ts.toArray)) os).ownsRow base e 2 (.slice (some ⟨g, 0, none⟩) ss.length cap) ss.length (pvi (flat ts)) ∧ w.grownBy (grow (putRow id (Sort.ahead w n) g 0 (flatK encT 2 ts.toArray)) os) (some g)
  rw [flatK_arr]
  refine ⟨⟨hlen, .inr ⟨g, cap, _, rfl, hbase, heap_sortedV _ hb, h1, h2, by simp [putCells, h3], ?_⟩⟩, grownBy_sortedV _⟩
  rw [← hlen]
  exact take_putCellsV cur _ (by omega)
/-- The timers of the first i rows. -/
def prs (rs : Nat → Rw) : Nat → List Tp
  | 0 => []
  | i + 1 => prs rs i ++ (List.range (rs i).n).map fun j => ((rs i).f (j * 2), (rs i).f (j * 2 + 1))
theorem prs_len (rs : Nat → Rw) : ∀ i, (prs rs i).length = tot rs i
  | 0 => rfl
  | i + 1 => by simp only [prs, tot, List.length_append, List.length_map, List.length_range]; rw [prs_len rs i]
theorem flat_row (f : Nat → Int) : ∀ n, flat ((List.range n).map fun j => (f (j * 2), f (j * 2 + 1))) = (List.range (n * 2)).map f
  | 0 => rfl
  | n + 1 => by
    rw [List.range_succ, List.map_append, flat_app, flat_row f n, show (n + 1) * 2 = n * 2 + 1 + 1 by omega, List.range_succ, List.range_succ]
    simp [flat]
theorem flat_prs (rs : Nat → Rw) : ∀ i, flat (prs rs i) = fl rs i
  | 0 => rfl
  | i + 1 => by simp only [prs, fl]; rw [flat_app, flat_prs rs i, flat_row]
end M
end Go.Proofs.Ytcodllammndciaa

/-
  The mathematics of a tick: slots whose time comes are emptied, what is due is told, what is not comes to a lower slot; a wheel whose timers lie well stays so.
-/
import Derived.Test.YtcodllammndciaaWhM
namespace Go.Proofs.Ytcodllammndciaa
open Go.RowKit M
open Clk (upd upd_same upd_other)
namespace M
/-- The first j timers of a row are taken at time t. -/
def proc (t : Int) (r : Rw) : Nat → (Nat → Rw) × List Int → (Nat → Rw) × List Int
  | 0, s => s
  | j + 1, s => if r.f (j * 2) = t then ((proc t r j s).1, (proc t r j s).2 ++ [r.f (j * 2 + 1)]) else (putR (proc t r j s).1 t (r.f (j * 2)) (r.f (j * 2 + 1)), (proc t r j s).2)
/-- The slot of a level whose time is t. -/
def kOf (l : Nat) (t : Int) : Nat := (sN l t).toNat
def lev (t : Int) (l : Nat) (s : (Nat → Rw) × List Int) : (Nat → Rw) × List Int := if t % pw l = 0 then proc t (s.1 (kOf l t)) (s.1 (kOf l t)).n (upd s.1 (kOf l t) noRow, s.2) else s
def wk (t : Int) (l : Nat) (s : (Nat → Rw) × List Int) : Nat := if t % pw l = 0 then (s.1 (kOf l t)).n else 0
def tickR (t : Int) (rs : Nat → Rw) : (Nat → Rw) × List Int := lev t 0 (lev t 1 (lev t 2 (rs, [])))
def tickW (t : Int) (rs : Nat → Rw) : Nat := wk t 2 (rs, []) + wk t 1 (lev t 2 (rs, [])) + wk t 0 (lev t 1 (lev t 2 (rs, [])))
theorem kOf_lt (l : Nat) (t : Int) (hl : l ≤ 2) : kOf l t < 24 := by have := sN_range l t hl; unfold kOf; omega
theorem kOf_lev (l : Nat) (t : Int) : kOf l t / 8 = l ∧ ((kOf l t % 8 : Nat) : Int) = t / pw l % 8 := by
  unfold kOf sN
  omega
/-- All timers lie well. -/
def LiesAll (now : Int) (rs : Nat → Rw) : Prop := ∀ i, i < 24 → ∀ j, j < (rs i).n → Lies now i ((rs i).f (j * 2))
theorem GoodW.lies {now : Int} {rs : Nat → Rw} (h : GoodW now 24 rs) : LiesAll now rs := fun i hi j hj => (h.2.2.1 i hi j hj).2.1
theorem pw_cases {l : Nat} (hl : l ≤ 2) : (l = 0 ∧ pw l = 1) ∨ (l = 1 ∧ pw l = 8) ∨ (l = 2 ∧ pw l = 64) := by
  match l, hl with
  | 0, _ => exact .inl ⟨rfl, rfl⟩
  | 1, _ => exact .inr (.inl ⟨rfl, rfl⟩)
  | 2, _ => exact .inr (.inr ⟨rfl, rfl⟩)
/-- A timer that is not in the slot of its level whose time comes lies well a unit later. -/
theorem lies_next {t : Int} {i : Nat} {tm : Int} (hi : i < 24) (h : Lies (t - 1) i tm) (hne : t % pw (i / 8) = 0 → i ≠ kOf (i / 8) t) : Lies t i tm := by
  obtain ⟨⟨h1, h2⟩, ⟨h3, h4⟩, h5⟩ := h
  have hk := kOf_lev (i / 8) t
  have hne' : t % pw (i / 8) = 0 → ((i % 8 : Nat) : Int) ≠ t / pw (i / 8) % 8 := fun hz he => hne hz (by
    have e := hk.2
    rw [← he] at e
    omega)
  unfold ahead at h3 h4
  rcases pw_cases (l := i / 8) (by omega) with ⟨_, e⟩ | ⟨_, e⟩ | ⟨_, e⟩
  · rw [e] at h3 h4 h5 hne'
    refine ⟨⟨by omega, by omega⟩, ⟨?_, ?_⟩, by rw [e]; exact h5⟩ <;> (unfold ahead; rw [e]; omega)
  · rw [e] at h3 h4 h5 hne'
    refine ⟨⟨by omega, by omega⟩, ⟨?_, ?_⟩, by rw [e]; exact h5⟩ <;> (unfold ahead; rw [e]; omega)
  · rw [e] at h3 h4 h5 hne'
    refine ⟨⟨by omega, by omega⟩, ⟨?_, ?_⟩, by rw [e]; exact h5⟩ <;> (unfold ahead; rw [e]; omega)
/-- No timer that lies well at t is in a slot whose time is t. -/
theorem lies_not {t : Int} {l : Nat} {tm : Int} (_ : l ≤ 2) (h : Lies t (kOf l t) tm) : False := by
  obtain ⟨_, ⟨h3, h4⟩, h5⟩ := h
  obtain ⟨e1, e2⟩ := kOf_lev l t
  rw [e1] at h3 h4 h5
  rw [e2] at h5
  unfold ahead at h3 h4
  omega
/-- A timer of that slot is due, or comes to a lower one. -/
theorem lies_due {t : Int} {l : Nat} {tm : Int} (hl : l ≤ 2) (ht : GoodN t) (hz : t % pw l = 0) (h : Lies (t - 1) (kOf l t) tm) : tm = t ∨ ((slotA t tm).2 = true ∧ (slotA t tm).1.toNat / 8 < l) := by
  obtain ⟨⟨h1, h2⟩, ⟨h3, h4⟩, h5⟩ := h
  obtain ⟨e1, e2⟩ := kOf_lev l t
  rw [e1] at h3 h4 h5
  rw [e2] at h5
  unfold ahead at h3 h4
  by_cases he : tm = t
  · exact .inl he
  · right
    have hg : GoodN t ∧ GoodT t tm := ⟨ht, by unfold GoodT; omega⟩
    rcases pw_cases hl with ⟨e0, e⟩ | ⟨e0, e⟩ | ⟨e0, e⟩
    · rw [e] at h3 h4 h5 hz; omega
    · rw [e] at h3 h4 h5 hz
      have hf : Fit 0 t tm := by unfold Fit ahead; rw [show pw 0 = 1 from rfl]; omega
      have hs := slotF_fit (l := 0) (by omega) hf (fun j hj => by omega)
      unfold slotA
      rw [if_pos hg, hs]
      refine ⟨rfl, ?_⟩
      show (sN 0 tm).toNat / 8 < l
      unfold sN; omega
    · rw [e] at h3 h4 h5 hz
      by_cases hf : Fit 0 t tm
      · have hs := slotF_fit (l := 0) (by omega) hf (fun j hj => by omega)
        unfold slotA
        rw [if_pos hg, hs]
        refine ⟨rfl, ?_⟩
        show (sN 0 tm).toNat / 8 < l
        unfold sN; omega
      · have hf1 : Fit 1 t tm := by
          unfold Fit ahead at hf ⊢
          rw [show pw 0 = 1 from rfl] at hf
          rw [show pw 1 = 8 from rfl]
          omega
        have hs := slotF_fit (l := 1) (by omega) hf1 (fun j hj => by
          have e : j = 0 := by omega
          rw [e]; exact hf)
        unfold slotA
        rw [if_pos hg, hs]
        refine ⟨rfl, ?_⟩
        show (sN 1 tm).toNat / 8 < l
        unfold sN; omega
/-- While level l and those below are still to come. -/
def Mid (t : Int) (l : Nat) (rs : Nat → Rw) : Prop := ∀ i, i < 24 → ∀ j, j < (rs i).n → Lies t i ((rs i).f (j * 2)) ∨ (i / 8 < l ∧ Lies (t - 1) i ((rs i).f (j * 2)))
theorem tot_upd (rs : Nat → Rw) (k : Nat) (r : Rw) : ∀ m, tot (upd rs k r) m + (if k < m then (rs k).n else 0) = tot rs m + if k < m then r.n else 0
  | 0 => by simp [tot]
  | m + 1 => by
    simp only [tot]
    have ih := tot_upd rs k r m
    by_cases h : m = k
    · subst h
      rw [upd_same, if_pos (by omega), if_pos (by omega)]
      rw [if_neg (by omega), if_neg (by omega)] at ih
      omega
    · rw [upd_other _ _ _ _ h]
      by_cases h2 : k < m
      · rw [if_pos (by omega), if_pos (by omega)]
        rw [if_pos h2, if_pos h2] at ih
        omega
      · rw [if_neg (by omega), if_neg (by omega)]
        rw [if_neg h2, if_neg h2] at ih
        omega
theorem putR_pos {rs : Nat → Rw} {t tm id : Int} (h : (slotA t tm).2 = true) : putR rs t tm id = upd rs (slotA t tm).1.toNat ((rs (slotA t tm).1.toNat).snoc tm id) := if_pos h
theorem tot_putR {rs : Nat → Rw} {t tm id : Int} (h : (slotA t tm).2 = true) : tot (putR rs t tm id) 24 = tot rs 24 + 1 := by
  rw [putR_pos h, tot_put, if_pos]
  have := slotA_range h
  omega
theorem mid_put {t : Int} {l : Nat} {rs : Nat → Rw} {tm id : Int} (h : Mid t l rs) (hs : (slotA t tm).2 = true) : Mid t l (putR rs t tm id) := by
  rw [putR_pos hs]
  intro i hi j hj
  by_cases e : i = (slotA t tm).1.toNat
  · rw [← e] at hj ⊢
    rw [upd_same] at hj ⊢
    have hj' : j < (rs i).n + 1 := hj
    by_cases hjn : j < (rs i).n
    · rw [snoc_old (by omega)]; exact h i hi j hjn
    · obtain rfl : j = (rs i).n := by omega
      rw [snoc_at]
      left
      rw [e]
      exact (slotA_lies hs).2.2
  · rw [upd_other _ _ _ _ e] at hj ⊢
    exact h i hi j hj
/-- A row of which each timer is due at t, or has a slot. -/
def RowOk (t : Int) (r : Rw) (m : Nat) : Prop := ∀ j, j < m → r.f (j * 2) = t ∨ (slotA t (r.f (j * 2))).2 = true
theorem proc_ok {t : Int} {l : Nat} {r : Rw} : ∀ {j : Nat} {s : (Nat → Rw) × List Int}, RowOk t r j → Mid t l s.1 → Mid t l (proc t r j s).1 ∧ tot (proc t r j s).1 24 + (proc t r j s).2.length = tot s.1 24 + s.2.length + j
  | 0, s, _, h => ⟨h, by simp [proc]⟩
  | j + 1, s, hr, h => by
    obtain ⟨h1, h2⟩ := proc_ok (j := j) (s := s) (fun j' hj => hr j' (by omega)) h
    unfold proc
    by_cases e : r.f (j * 2) = t
    · rw [if_pos e]
      refine ⟨h1, ?_⟩
      simp only [List.length_append, List.length_cons, List.length_nil]
      omega
    · rw [if_neg e]
      have hs := (hr j (by omega)).resolve_left e
      refine ⟨mid_put h1 hs, ?_⟩
      show tot (putR _ _ _ _) 24 + (proc t r j s).2.length = _
      rw [tot_putR hs]
      omega
theorem row_taken {t : Int} {l : Nat} {rs : Nat → Rw} (hl : l ≤ 2) (ht : GoodN t) (hz : t % pw l = 0) (h : Mid t (l + 1) rs) : RowOk t (rs (kOf l t)) (rs (kOf l t)).n := fun j hj => by
  rcases h (kOf l t) (kOf_lt l t hl) j hj with h1 | ⟨_, h1⟩
  · exact (lies_not hl h1).elim
  · rcases lies_due hl ht hz h1 with h2 | h2
    · exact .inl h2
    · exact .inr h2.1
theorem mid_empty {t : Int} {l : Nat} {rs : Nat → Rw} (_ : t % pw l = 0) (h : Mid t (l + 1) rs) : Mid t l (upd rs (kOf l t) noRow) := by
  intro i hi j hj
  by_cases e : i = kOf l t
  · subst e
    rw [upd_same] at hj
    exact absurd hj (Nat.not_lt_zero _)
  · rw [upd_other _ _ _ _ e] at hj ⊢
    rcases h i hi j hj with h1 | ⟨h1, h2⟩
    · exact .inl h1
    · by_cases hil : i / 8 < l
      · exact .inr ⟨hil, h2⟩
      · left
        have el : i / 8 = l := by omega
        refine lies_next hi h2 (fun _ he => ?_)
        rw [el] at he
        exact e he
theorem lev_ok {t : Int} {l : Nat} {s : (Nat → Rw) × List Int} (hl : l ≤ 2) (ht : GoodN t) (h : Mid t (l + 1) s.1) : Mid t l (lev t l s).1 ∧ tot (lev t l s).1 24 + (lev t l s).2.length = tot s.1 24 + s.2.length := by
  unfold lev
  by_cases hz : t % pw l = 0
  · rw [if_pos hz]
    obtain ⟨h1, h2⟩ := proc_ok (r := s.1 (kOf l t)) (s := (upd s.1 (kOf l t) noRow, s.2)) (row_taken hl ht hz h) (mid_empty hz h)
    refine ⟨h1, ?_⟩
    rw [h2]
    show tot (upd s.1 (kOf l t) noRow) 24 + s.2.length + (s.1 (kOf l t)).n = _
    have h3 := tot_upd s.1 (kOf l t) noRow 24
    rw [if_pos (kOf_lt l t hl), if_pos (kOf_lt l t hl)] at h3
    have h4 : noRow.n = 0 := rfl
    omega
  · rw [if_neg hz]
    refine ⟨fun i hi j hj => ?_, rfl⟩
    rcases h i hi j hj with h1 | ⟨h1, h2⟩
    · exact .inl h1
    · by_cases hil : i / 8 < l
      · exact .inr ⟨hil, h2⟩
      · left
        have el : i / 8 = l := by omega
        refine lies_next hi h2 (fun hz' => ?_)
        rw [el] at hz'
        exact absurd hz' hz
theorem mid_start {t : Int} {rs : Nat → Rw} (h : LiesAll (t - 1) rs) : Mid t 3 rs := fun i hi j hj => .inr ⟨by omega, h i hi j hj⟩
theorem mid_end {t : Int} {rs : Nat → Rw} (h : Mid t 0 rs) : LiesAll t rs := fun i hi j hj => by
  rcases h i hi j hj with h1 | ⟨h1, _⟩
  · exact h1
  · omega
theorem tick_ok {t : Int} {rs : Nat → Rw} (ht : GoodN t) (h : LiesAll (t - 1) rs) : LiesAll t (tickR t rs).1 ∧ tot (tickR t rs).1 24 + (tickR t rs).2.length = tot rs 24 := by
  obtain ⟨a1, a2⟩ := lev_ok (l := 2) (s := (rs, [])) (by omega) ht (mid_start h)
  obtain ⟨b1, b2⟩ := lev_ok (l := 1) (s := lev t 2 (rs, [])) (by omega) ht a1
  obtain ⟨c1, c2⟩ := lev_ok (l := 0) (s := lev t 1 (lev t 2 (rs, []))) (by omega) ht b1
  refine ⟨mid_end c1, ?_⟩
  unfold tickR
  rw [c2, b2, a2]
  rfl
/-- In level 0 all are due. -/
theorem proc_due {t : Int} {r : Rw} : ∀ {j : Nat} {s : (Nat → Rw) × List Int}, (∀ j', j' < j → r.f (j' * 2) = t) → proc t r j s = (s.1, s.2 ++ idsR r j)
  | 0, s, _ => by simp [proc, idsR]
  | j + 1, s, h => by
    unfold proc
    rw [if_pos (h j (by omega)), proc_due (fun j' hj => h j' (by omega))]
    unfold idsR
    rw [List.range_succ]
    simp [List.append_assoc]
theorem row0_due {t : Int} {rs : Nat → Rw} (ht : GoodN t) (h : Mid t 1 rs) : ∀ j, j < (rs (kOf 0 t)).n → (rs (kOf 0 t)).f (j * 2) = t := fun j hj => by
  rcases h (kOf 0 t) (kOf_lt 0 t (by omega)) j hj with h1 | ⟨_, h1⟩
  · exact (lies_not (l := 0) (by omega) h1).elim
  · rcases lies_due (l := 0) (by omega) ht (by rw [show pw 0 = 1 from rfl]; omega) h1 with h2 | h2
    · exact h2
    · omega
/-- Numbers in order. -/
def srt (l : List Int) : List Int := l.mergeSort fun x y => decide (x ≤ y)
theorem srt_perm (l : List Int) : (srt l).Perm l := List.mergeSort_perm l _
theorem srt_len (l : List Int) : (srt l).length = l.length := (srt_perm l).length_eq
theorem srt_pw (l : List Int) : (srt l).Pairwise (· ≤ ·) := by
  have h := List.pairwise_mergeSort (le := fun x y : Int => decide (x ≤ y)) (fun _ _ _ h1 h2 => by simp at h1 h2 ⊢; omega) (fun _ _ => by simp; omega) l
  exact h.imp (fun h => by simpa using h)
theorem srt_eq {l l' : List Int} (hp : l'.Perm l) (hs : l'.Pairwise (· ≤ ·)) : l' = srt l :=
  List.Perm.eq_of_pairwise (fun _ _ _ _ h1 h2 => Int.le_antisymm h1 h2) hs (srt_pw l) (hp.trans (srt_perm l).symm)
/-- How many of a list in order are below a number. -/
def cntB (l : List Int) (n : Int) : Nat := (l.takeWhile fun x => decide (x < n)).length
theorem ins_sorted : ∀ {l : List Int} {n : Int}, l.Pairwise (· ≤ ·) → ((l.takeWhile fun x => decide (x < n)) ++ n :: (l.dropWhile fun x => decide (x < n))).Pairwise (· ≤ ·)
  | [], n, _ => by simp
  | a :: r, n, h => by
    rw [List.pairwise_cons] at h
    by_cases ha : a < n
    · rw [List.takeWhile_cons_of_pos (by simpa using ha), List.dropWhile_cons_of_pos (by simpa using ha), List.cons_append, List.pairwise_cons]
      refine ⟨fun b hb => ?_, ins_sorted h.2⟩
      rw [List.mem_append, List.mem_cons] at hb
      rcases hb with hb | hb | hb
      · exact h.1 b ((List.takeWhile_sublist _).subset hb)
      · omega
      · exact h.1 b ((List.dropWhile_sublist _).subset hb)
    · rw [List.takeWhile_cons_of_neg (by simpa using ha), List.dropWhile_cons_of_neg (by simpa using ha), List.nil_append, List.pairwise_cons, List.pairwise_cons]
      refine ⟨fun b hb => ?_, h⟩
      rw [List.mem_cons] at hb
      rcases hb with hb | hb
      · omega
      · have := h.1 b hb; omega
theorem ins_srt (l : List Int) (n : Int) : ((srt l).takeWhile fun x => decide (x < n)) ++ n :: ((srt l).dropWhile fun x => decide (x < n)) = srt (l ++ [n]) := by
  refine srt_eq ?_ (ins_sorted (srt_pw l))
  have h1 : (((srt l).takeWhile fun x => decide (x < n)) ++ n :: ((srt l).dropWhile fun x => decide (x < n))).Perm (n :: (((srt l).takeWhile fun x => decide (x < n)) ++ ((srt l).dropWhile fun x => decide (x < n)))) := List.perm_middle
  rw [List.takeWhile_append_dropWhile] at h1
  exact h1.trans (((srt_perm l).cons n).trans (List.perm_append_singleton n l).symm)
theorem tw_take (p : Int → Bool) : ∀ l : List Int, l.takeWhile p = l.take (l.takeWhile p).length ∧ l.dropWhile p = l.drop (l.takeWhile p).length
  | [] => by simp
  | a :: r => by
    obtain ⟨h1, h2⟩ := tw_take p r
    by_cases ha : p a = true
    · rw [List.takeWhile_cons_of_pos ha, List.dropWhile_cons_of_pos ha]
      simp only [List.length_cons, List.take_succ_cons, List.drop_succ_cons]
      exact ⟨by rw [← h1], h2⟩
    · rw [List.takeWhile_cons_of_neg ha, List.dropWhile_cons_of_neg ha]
      simp
theorem tw_char (p : Int → Bool) : ∀ (l : List Int) (k : Nat), (∀ j, j < k → ∃ x, l[j]? = some x ∧ p x = true) → (∀ x, l[k]? = some x → p x = false) → k ≤ l.length → (l.takeWhile p).length = k
  | [], k, _, _, hk => by simp at hk ⊢; omega
  | a :: r, 0, _, h2, _ => by
    rw [List.takeWhile_cons_of_neg (by rw [h2 a rfl]; decide)]; rfl
  | a :: r, k + 1, h1, h2, hk => by
    obtain ⟨x, hx, hp⟩ := h1 0 (by omega)
    simp at hx
    subst hx
    rw [List.takeWhile_cons_of_pos hp, List.length_cons, tw_char p r k (fun j hj => by have := h1 (j + 1) (by omega); simpa using this) (fun x hx => h2 x (by simpa using hx)) (by simpa using hk)]
end M
end Go.Proofs.Ytcodllammndciaa

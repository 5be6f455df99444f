/-
  Workers on a plan: what is begun at each time, by whom; it comes to an end.
-/
import Derived.Test.YtlegbkafpfkjeaaPlanN
import Derived.Test.YtlegbkafpfkjeaaPlanL
namespace Go.Proofs.Ytlegbkafpfkjeaa
namespace M
open Clk (upd upd_same upd_other)
/-- How far it is: the slots' numbers, how many slots, where each task ends (-1: not begun), when each worker is free, when all that has begun is over. -/
structure Sc where
  out : List Int
  c : Nat
  e : Nat → Int
  fr : Nat → Int
  all : Int
def bg (s : Sc) : Nat → Bool := fun x => decide (0 ≤ s.e x)
def ov (s : Sc) (now : Int) : Nat → Bool := fun x => decide (0 ≤ s.e x ∧ s.e x ≤ now)
def begin' (ts : Nat → Tk) (s : Sc) (now : Int) (wk x : Nat) : Sc :=
  ⟨s.out ++ [(x : Int), (wk : Int), now], s.c + 1, upd s.e x (now + (ts x).long), upd s.fr wk (now + (ts x).long), max s.all (now + (ts x).long)⟩
def stepW (ts : Nat → Tk) (k : Nat) (s : Sc) (now : Int) (wk : Nat) : Sc :=
  if now < s.fr wk then s else match nx ts (bg s) (ov s now) k with
    | none => s
    | some x => begin' ts s now wk x
def stepsW (ts : Nat → Tk) (k : Nat) (s : Sc) (now : Int) : Nat → Sc
  | 0 => s
  | m + 1 => stepW ts k (stepsW ts k s now m) now m
def s0 : Sc := ⟨[], 0, fun _ => -1, fun _ => 0, 0⟩
def at' (ts : Nat → Tk) (k p : Nat) : Nat → Sc
  | 0 => s0
  | t + 1 => stepsW ts k (at' ts k p t) (t : Int) p
/-- How much of task x is done by now. -/
def dn (ts : Nat → Tk) (s : Sc) (now : Int) (x : Nat) : Int := if s.e x < 0 then 0 else min (ts x).long (now - (s.e x - (ts x).long))
def sumD (ts : Nat → Tk) (s : Sc) (now : Int) : Nat → Int
  | 0 => 0
  | m + 1 => sumD ts s now m + dn ts s now m
theorem sumD_congr {ts : Nat → Tk} {s s' : Sc} {now now' : Int} : ∀ {m : Nat}, (∀ x, x < m → dn ts s now x = dn ts s' now' x) → sumD ts s now m = sumD ts s' now' m
  | 0, _ => rfl
  | m + 1, h => by simp only [sumD]; rw [sumD_congr (m := m) (fun x hx => h x (by omega)), h m (by omega)]
theorem sumD_le {ts : Nat → Tk} {s s' : Sc} {now now' : Int} : ∀ {m : Nat}, (∀ x, x < m → dn ts s now x ≤ dn ts s' now' x) → sumD ts s now m ≤ sumD ts s' now' m
  | 0, _ => by simp [sumD]
  | m + 1, h => by
    have h1 := sumD_le (m := m) (fun x hx => h x (by omega))
    have h2 := h m (by omega)
    simp only [sumD]; omega
theorem sumD_lt {ts : Nat → Tk} {s s' : Sc} {now now' : Int} {y : Nat} : ∀ {m : Nat}, y < m → (∀ x, x < m → dn ts s now x ≤ dn ts s' now' x) → dn ts s now y + 1 ≤ dn ts s' now' y → sumD ts s now m + 1 ≤ sumD ts s' now' m
  | 0, h, _, _ => by omega
  | m + 1, hy, h, hl => by
    simp only [sumD]
    by_cases e : y = m
    · subst e
      have h1 := sumD_le (m := y) (fun x hx => h x (by omega))
      omega
    · have h1 := sumD_lt (m := m) (show y < m by omega) (fun x hx => h x (by omega)) hl
      have h2 := h m (by omega)
      omega
theorem dn_le {k : Nat} {ts : Nat → Tk} (hB : Bnd k ts) (s : Sc) (now : Int) {x : Nat} (hx : x < k) : dn ts s now x ≤ 100 := by
  have := (hB.2 x hx).1
  unfold dn; split <;> omega
theorem sumD_most {k : Nat} {ts : Nat → Tk} (hB : Bnd k ts) (s : Sc) (now : Int) : ∀ {m : Nat}, m ≤ k → sumD ts s now m ≤ 100 * (m : Int)
  | 0, _ => by simp [sumD]
  | m + 1, h => by
    have h1 := sumD_most hB s now (m := m) (by omega)
    have h2 := dn_le hB s now (x := m) (by omega)
    simp only [sumD]; omega
theorem sumD_less {k : Nat} {ts : Nat → Tk} (hB : Bnd k ts) {s : Sc} {now : Int} {x : Nat} (he : s.e x < 0) : ∀ {m : Nat}, m ≤ k → x < m → sumD ts s now m ≤ 100 * ((m : Int) - 1)
  | 0, _, h => by omega
  | m + 1, h, hx => by
    simp only [sumD]
    by_cases e : x = m
    · subst e
      have h1 := sumD_most hB s now (m := x) (by omega)
      have : dn ts s now x = 0 := by unfold dn; rw [if_pos he]
      omega
    · have h1 := sumD_less hB (now := now) he (m := m) (by omega) (by omega)
      have h2 := dn_le hB s now (x := m) (by omega)
      omega
/-- What is true of how far it is, at now. -/
structure Inv (ts : Nat → Tk) (k p : Nat) (s : Sc) (now : Int) : Prop where
  len : s.out.length = 3 * s.c
  cn : cnt (bg s) k = s.c
  lo : ∀ x, -1 ≤ s.e x ∧ s.e x ≤ 3000
  out : ∀ x, k ≤ x → s.e x = -1
  st : ∀ x, x < k → 0 ≤ s.e x → s.e x - (ts x).long ≤ now
  ovr : ∀ x, 0 ≤ s.e x → ∃ wk, wk < p ∧ s.e x ≤ s.fr wk
  fr : ∀ wk, 0 ≤ s.fr wk ∧ s.fr wk ≤ 3000
  bz : ∀ wk, s.fr wk = 0 ∨ ∃ x, x < k ∧ 0 ≤ s.e x ∧ s.e x = s.fr wk
  al : 0 ≤ s.all ∧ s.all ≤ 3000
  nw : 0 ≤ now ∧ now ≤ sumD ts s now k
theorem inv0 (ts : Nat → Tk) (k p : Nat) : Inv ts k p s0 0 := by
  refine ⟨rfl, ?_, fun x => by simp [s0], fun x _ => rfl, fun x _ h => by simp [s0] at h, fun x h => by simp [s0] at h, fun wk => by simp [s0], fun wk => .inl rfl, by simp [s0], by omega, ?_⟩
  · have : bg s0 = fun _ => false := by funext x; simp [bg, s0]
    rw [this]
    have cz : ∀ k, cnt (fun _ => false) k = 0 := fun k => by
      induction k with
      | zero => rfl
      | succ k ih => simp [cnt, ih]
    exact cz k
  · have : ∀ m, sumD ts s0 0 m = 0 := fun m => by
      induction m with
      | zero => rfl
      | succ m ih => simp only [sumD, ih]; simp [dn, s0]
    rw [this]; omega
theorem Inv.early {ts : Nat → Tk} {k p : Nat} {s : Sc} {now : Int} (h : Inv ts k p s now) (hB : Bnd k ts) {x : Nat} (hx : x < k) (he : s.e x < 0) : now ≤ 2900 := by
  have h1 := sumD_less hB (now := now) he (Nat.le_refl k) hx
  have h2 := h.nw.2
  have := hB.1
  omega
theorem rdy_parts {ts : Nat → Tk} {k : Nat} {s : Sc} {now : Int} {x : Nat} (h : nx ts (bg s) (ov s now) k = some x) : x < k ∧ s.e x < 0 := by
  obtain ⟨h1, h2⟩ := nx_some h
  unfold rdy at h2
  rw [Bool.and_eq_true, Bool.not_eq_true'] at h2
  have h3 := h2.1
  unfold bg at h3
  rw [decide_eq_false_iff_not] at h3
  exact ⟨h1, by omega⟩
theorem Inv.begin {ts : Nat → Tk} {k p : Nat} {s : Sc} {now : Int} (h : Inv ts k p s now) (hB : Bnd k ts) {wk x : Nat} (hwk : wk < p) (hf : s.fr wk ≤ now) (hx : nx ts (bg s) (ov s now) k = some x) : Inv ts k p (begin' ts s now wk x) now ∧ now + (ts x).long ≤ 3000 ∧ 0 ≤ now + (ts x).long := by
  obtain ⟨hxk, hxe⟩ := rdy_parts hx
  have hn := h.early hB hxk hxe
  have hl := (hB.2 x hxk).1
  have hn0 := h.nw.1
  refine ⟨⟨?_, ?_, fun y => ?_, fun y hy => ?_, fun y hy h0 => ?_, fun y h0 => ?_, fun q => ?_, fun q => ?_, ?_, hn0, ?_⟩, by omega, by omega⟩
  · simp only [begin', List.length_append, List.length_cons, List.length_nil]; rw [h.len]; omega
  · have e1 : ∀ y, bg (begin' ts s now wk x) y = (bg s y || decide (y = x)) := fun y => by
      unfold bg begin'
      by_cases e : y = x
      · subst e; simp [upd_same]; omega
      · simp [upd_other _ _ _ _ e, e]
    rw [cnt_add (d := bg s) (by unfold bg; rw [decide_eq_false_iff_not]; omega) e1 k hxk, h.cn]; rfl
  · by_cases e : y = x
    · subst e; simp only [begin', upd_same]; omega
    · simp only [begin', upd_other _ _ _ _ e]; exact h.lo y
  · have e : y ≠ x := by omega
    simp only [begin', upd_other _ _ _ _ e]; exact h.out y hy
  · by_cases e : y = x
    · subst e; simp only [begin', upd_same]; omega
    · simp only [begin', upd_other _ _ _ _ e] at h0 ⊢; exact h.st y hy h0
  · by_cases e : y = x
    · subst e; exact ⟨wk, hwk, by simp only [begin', upd_same]; omega⟩
    · simp only [begin', upd_other _ _ _ _ e] at h0 ⊢
      obtain ⟨q, hq, h1⟩ := h.ovr y h0
      refine ⟨q, hq, ?_⟩
      by_cases e2 : q = wk
      · subst e2; rw [upd_same]; omega
      · rw [upd_other _ _ _ _ e2]; exact h1
  · by_cases e2 : q = wk
    · subst e2; simp only [begin', upd_same]; omega
    · simp only [begin', upd_other _ _ _ _ e2]; exact h.fr q
  · by_cases e2 : q = wk
    · subst e2; exact .inr ⟨x, hxk, by simp only [begin', upd_same]; omega, by simp only [begin', upd_same]⟩
    · simp only [begin', upd_other _ _ _ _ e2]
      rcases h.bz q with h1 | ⟨y, hy, h0, h1⟩
      · exact .inl h1
      · have e : y ≠ x := fun e => by subst e; omega
        exact .inr ⟨y, hy, by rw [upd_other _ _ _ _ e]; exact h0, by rw [upd_other _ _ _ _ e]; exact h1⟩
  · have := h.al; simp only [begin']; omega
  · have : sumD ts (begin' ts s now wk x) now k = sumD ts s now k := sumD_congr fun y hy => by
      unfold dn
      by_cases e : y = x
      · subst e
        simp only [begin', upd_same]
        rw [if_neg (by omega), if_pos hxe]; omega
      · simp only [begin', upd_other _ _ _ _ e]
    rw [this]; exact h.nw.2
theorem Inv.step {ts : Nat → Tk} {k p : Nat} {s : Sc} {now : Int} (h : Inv ts k p s now) (hB : Bnd k ts) {wk : Nat} (hwk : wk < p) : Inv ts k p (stepW ts k s now wk) now := by
  unfold stepW
  split
  · exact h
  · cases hx : nx ts (bg s) (ov s now) k with
    | none => exact h
    | some x => exact (h.begin hB hwk (by omega) hx).1
theorem Inv.steps {ts : Nat → Tk} {k p : Nat} {s : Sc} {now : Int} (h : Inv ts k p s now) (hB : Bnd k ts) : ∀ m, m ≤ p → Inv ts k p (stepsW ts k s now m) now
  | 0, _ => h
  | m + 1, hm => (h.steps hB m (by omega)).step hB (by omega)
theorem stepW_fr {ts : Nat → Tk} {k : Nat} {s : Sc} {now : Int} {wk q : Nat} (hq : q ≠ wk) : (stepW ts k s now wk).fr q = s.fr q := by
  unfold stepW
  split
  · rfl
  · cases nx ts (bg s) (ov s now) k with
    | none => rfl
    | some x => simp only [begin', upd_other _ _ _ _ hq]
theorem stepsW_none {ts : Nat → Tk} {k : Nat} {s : Sc} {now : Int} {m : Nat} (h : nx ts (bg (stepsW ts k s now m)) (ov (stepsW ts k s now m) now) k = none) : ∀ j, stepsW ts k s now (m + j) = stepsW ts k s now m
  | 0 => rfl
  | j + 1 => by
    rw [← Nat.add_assoc]
    simp only [stepsW]
    rw [stepsW_none h j]
    unfold stepW
    rw [h]; split <;> rfl
/-- Where all workers are free behind a time's round, none is ready. -/
theorem all_free {ts : Nat → Tk} {k p : Nat} {s : Sc} {now : Int} (hB : Bnd k ts) (hp : 0 < p) (h : ∀ wk, wk < p → (stepsW ts k s now p).fr wk ≤ now) : nx ts (bg (stepsW ts k s now p)) (ov (stepsW ts k s now p) now) k = none := by
  obtain ⟨m, rfl⟩ : ∃ m, p = m + 1 := ⟨p - 1, by omega⟩
  have h1 := h m (by omega)
  simp only [stepsW] at h1 ⊢
  generalize stepsW ts k s now m = S at *
  unfold stepW at h1 ⊢
  split at h1
  · omega
  · rename_i hf
    rw [if_neg hf]
    cases hx : nx ts (bg S) (ov S now) k with
    | none => exact hx
    | some x =>
      rw [hx] at h1
      have hl := (hB.2 x (nx_some hx).1).1
      simp only [begin', upd_same] at h1
      omega
theorem first_out {d : Nat → Bool} : ∀ (l : List Nat), (∃ x, x ∈ l ∧ d x = false) → ∃ A y B, l = A ++ y :: B ∧ d y = false ∧ ∀ z, z ∈ A → d z = true
  | [], h => by obtain ⟨x, hx, _⟩ := h; cases hx
  | a :: l, h => by
    cases ha : d a with
    | false => exact ⟨[], a, l, rfl, ha, fun z hz => by cases hz⟩
    | true =>
      obtain ⟨x, hx, hd⟩ := h
      have hx' : x ∈ l := by
        rcases List.mem_cons.1 hx with e | e
        · subst e; rw [ha] at hd; cases hd
        · exact e
      obtain ⟨A, y, B, e, hy, hz⟩ := first_out l ⟨x, hx', hd⟩
      refine ⟨a :: A, y, B, by rw [e]; rfl, hy, fun z hz' => ?_⟩
      rcases List.mem_cons.1 hz' with e2 | e2
      · rw [e2]; exact ha
      · exact hz z e2
/-- Of a good plan some task that has not begun needs only such as have. -/
theorem some_ready {ts : Nat → Tk} {k : Nat} {d e : Nat → Bool} (hG : GoodP k ts) (hde : ∀ x, d x = true → e x = true) {x : Nat} (hx : x < k) (hd : d x = false) : nx ts d e k ≠ none := by
  obtain ⟨A, y, B, hl, hy, hA⟩ := first_out (d := d) (ord ts k k) ⟨x, whole_mem hG.2 hx, hd⟩
  intro hn
  have hyk : y < k := by
    have : y ∈ ord ts k k := by rw [hl]; simp
    exact ord_lt ts k k y this
  have := nx_none.1 hn y hyk
  unfold rdy at this
  rw [hy] at this
  have h2 : allN (ts y) e (ts y).nn = true := (allN_iff _ _ _).2 fun j hj => hde _ (hA _ (ord_topo ts k k A y B hl j hj))
  rw [h2] at this
  simp at this
theorem cnt_lt_ex {d : Nat → Bool} : ∀ {k : Nat}, cnt d k < k → ∃ x, x < k ∧ d x = false
  | 0, h => by omega
  | k + 1, h => by
    cases hd : d k with
    | false => exact ⟨k, by omega, hd⟩
    | true =>
      simp only [cnt, hd] at h
      obtain ⟨x, hx, h2⟩ := cnt_lt_ex (d := d) (k := k) (by simp at h; omega)
      exact ⟨x, by omega, h2⟩
theorem Inv.next {ts : Nat → Tk} {k p : Nat} {s : Sc} {now : Int} (hG : GoodP k ts) (hp : 0 < p) (h : Inv ts k p s now) (hc : (stepsW ts k s now p).c < k) : Inv ts k p (stepsW ts k s now p) (now + 1) := by
  have hB := hG.1
  have hS := h.steps hB p (Nat.le_refl _)
  have hfree : ∃ wk, wk < p ∧ now < (stepsW ts k s now p).fr wk := by
    apply Classical.byContradiction
    intro hno
    have hall : ∀ wk, wk < p → (stepsW ts k s now p).fr wk ≤ now := fun wk hw => by
      apply Classical.byContradiction
      intro h1
      exact hno ⟨wk, hw, by omega⟩
    have hn := all_free hB hp hall
    obtain ⟨x, hx, hd⟩ := cnt_lt_ex (d := bg (stepsW ts k s now p)) (k := k) (by rw [hS.cn]; exact hc)
    refine some_ready hG (d := bg (stepsW ts k s now p)) (e := ov (stepsW ts k s now p) now) (fun y hy => ?_) hx hd hn
    unfold bg at hy
    rw [decide_eq_true_eq] at hy
    unfold ov
    rw [decide_eq_true_eq]
    obtain ⟨wk, hw, h1⟩ := hS.ovr y hy
    exact ⟨hy, by have := hall wk hw; omega⟩
  refine ⟨hS.len, hS.cn, hS.lo, hS.out, fun x hx h0 => by have := hS.st x hx h0; omega, hS.ovr, hS.fr, hS.bz, hS.al, by have := hS.nw; omega, ?_⟩
  obtain ⟨wk, hw, hf⟩ := hfree
  rcases hS.bz wk with h0 | ⟨x, hx, h0, h1⟩
  · have := hS.nw.1; omega
  · have h2 := hS.nw.2
    have h3 : sumD ts (stepsW ts k s now p) now k + 1 ≤ sumD ts (stepsW ts k s now p) (now + 1) k := by
      refine sumD_lt hx (fun y hy => ?_) ?_
      · unfold dn; split <;> omega
      · have hst := hS.st x hx h0
        unfold dn; rw [if_neg (by omega), if_neg (by omega)]; omega
    omega
/-- The time at which all have begun. -/
def EndAt (ts : Nat → Tk) (k p T : Nat) : Prop := (at' ts k p T).c = k ∧ ∀ t, t < T → (at' ts k p t).c < k ∧ Inv ts k p (at' ts k p t) t
theorem Inv.c_le {ts : Nat → Tk} {k p : Nat} {s : Sc} {now : Int} (h : Inv ts k p s now) : s.c ≤ k := by rw [← h.cn]; exact cnt_le _ _
theorem upto {ts : Nat → Tk} {k p : Nat} (hG : GoodP k ts) (hp : 0 < p) : ∀ n, (∃ T, EndAt ts k p T) ∨ ∀ t, t ≤ n → (at' ts k p t).c < k ∧ Inv ts k p (at' ts k p t) t
  | 0 => by
    have h0 := inv0 ts k p
    by_cases h : k = 0
    · exact .inl ⟨0, by simp [at', s0, h], fun t ht => by omega⟩
    · refine .inr fun t ht => ?_
      obtain rfl : t = 0 := by omega
      exact ⟨by simp [at', s0]; omega, h0⟩
  | n + 1 => by
    rcases upto hG hp n with h | h
    · exact .inl h
    · obtain ⟨hc, hi⟩ := h n (Nat.le_refl _)
      have hS := hi.steps hG.1 p (Nat.le_refl _)
      by_cases hlt : (at' ts k p (n + 1)).c < k
      · refine .inr fun t ht => ?_
        by_cases e : t = n + 1
        · subst e
          exact ⟨hlt, by rw [show ((n + 1 : Nat) : Int) = (n : Int) + 1 by omega]; exact hi.next hG hp hlt⟩
        · exact h t (by omega)
      · refine .inl ⟨n + 1, ?_, fun t ht => h t (by omega)⟩
        have h1 : (at' ts k p (n + 1)).c ≤ k := hS.c_le
        omega
theorem comes_to_end {ts : Nat → Tk} {k p : Nat} (hG : GoodP k ts) (hp : 0 < p) : ∃ T, EndAt ts k p T := by
  rcases upto hG hp 3000 with h | h
  · exact h
  · obtain ⟨hc, hi⟩ := h 3000 (Nat.le_refl _)
    obtain ⟨x, hx, hd⟩ := cnt_lt_ex (d := bg (at' ts k p 3000)) (k := k) (by rw [hi.cn]; exact hc)
    unfold bg at hd
    rw [decide_eq_false_iff_not] at hd
    have := hi.early hG.1 hx (by omega)
    omega
theorem EndAt.early {ts : Nat → Tk} {k p T : Nat} (h : EndAt ts k p T) (hB : Bnd k ts) {t : Nat} (ht : t < T) : t ≤ 2900 := by
  obtain ⟨hc, hi⟩ := h.2 t ht
  obtain ⟨x, hx, hd⟩ := cnt_lt_ex (d := bg (at' ts k p t)) (k := k) (by rw [hi.cn]; exact hc)
  unfold bg at hd
  rw [decide_eq_false_iff_not] at hd
  have := hi.early hB hx (by omega)
  omega
/-- What is true at the end. -/
theorem EndAt.last {ts : Nat → Tk} {k p T : Nat} (h : EndAt ts k p T) (hB : Bnd k ts) : (at' ts k p T).out.length = 3 * k := by
  cases T with
  | zero => have h0 := inv0 ts k p; have := h0.len; have h1 := h.1; simp only [at'] at h1 ⊢; rw [this, h1]
  | succ t => have h1 := ((h.2 t (by omega)).2.steps hB p (Nat.le_refl _)).len; have h2 := h.1; simp only [at'] at h2 ⊢; rw [h1, h2]
/-- The program's list of ends. -/
def oI (s : Sc) : Nat → Int := fun x => if s.e x < 0 then 3001 else s.e x
theorem bgn_oI {ts : Nat → Tk} {k p : Nat} {s : Sc} {now : Int} (h : Inv ts k p s now) : bgn (oI s) = bg s := by
  funext x
  have := h.lo x
  unfold bgn oI bg
  split
  · rw [Bool.eq_iff_iff]; simp only [decide_eq_true_eq]; omega
  · rw [Bool.eq_iff_iff]; simp only [decide_eq_true_eq]; omega
theorem over_oI {ts : Nat → Tk} {k p : Nat} {s : Sc} {now t : Int} (h : Inv ts k p s now) (ht : t ≤ 3000) : overBy (oI s) t = ov s t := by
  funext x
  have := h.lo x
  unfold overBy oI ov
  split
  · rw [Bool.eq_iff_iff]; simp only [decide_eq_true_eq]; omega
  · rw [Bool.eq_iff_iff]; simp only [decide_eq_true_eq]; omega
theorem oI_begin {ts : Nat → Tk} {s : Sc} {now : Int} {wk x : Nat} (h : 0 ≤ now + (ts x).long) : oI (begin' ts s now wk x) = upd (oI s) x (now + (ts x).long) := by
  funext y
  unfold oI begin' upd
  by_cases e : y = x
  · subst e; simp; omega
  · simp [e]
end M
end Go.Proofs.Ytlegbkafpfkjeaa

/-
  Good wheels: what they are, and small tests of both texts.
-/
import Derived.Test.YtcodllammndciaaWhC
namespace Go.Proofs.Ytcodllammndciaa
open Go.RowKit M
open Clk (upd upd_same upd_other)
open Go.Sort (grow)
namespace M
/-- The Ids of the first j timers of a row; of the rows ahead; both. -/
def idsR (r : Rw) (j : Nat) : List Int := (List.range j).map fun q => r.f (q * 2 + 1)
def idsTo (rs : Nat → Rw) : Nat → List Int
  | 0 => []
  | i + 1 => idsTo rs i ++ idsR (rs i) (rs i).n
def ids (rs : Nat → Rw) (i j : Nat) : List Int := idsTo rs i ++ idsR (rs i) j
theorem ids_succ (rs : Nat → Rw) (i j : Nat) : ids rs i (j + 1) = ids rs i j ++ [(rs i).f (j * 2 + 1)] := by
  unfold ids idsR; rw [List.range_succ]; simp
theorem ids_next (rs : Nat → Rw) (i : Nat) : ids rs i (rs i).n = ids rs (i + 1) 0 := by
  unfold ids; simp [idsTo, idsR]
theorem idsTo_len (rs : Nat → Rw) : ∀ i, (idsTo rs i).length = tot rs i
  | 0 => rfl
  | i + 1 => by simp only [idsTo, tot, List.length_append]; rw [idsTo_len rs i]; simp [idsR]
theorem ids_len (rs : Nat → Rw) (i j : Nat) : (ids rs i j).length = tot rs i + j := by
  unfold ids; rw [List.length_append, idsTo_len]; simp [idsR]
/-- A timer's At lies well in slot i. -/
def Lies (now : Int) (i : Nat) (tm : Int) : Prop := GoodT now tm ∧ Fit (i / 8) now tm ∧ tm / pw (i / 8) % 8 = ((i % 8 : Nat) : Int)
instance (now : Int) (i : Nat) (tm : Int) : Decidable (Lies now i tm) := by unfold Lies; infer_instance
/-- Timer j of row i is good, its Id being none of those ahead. -/
def okT (now : Int) (rs : Nat → Rw) (i j : Nat) : Prop := GoodI ((rs i).f (j * 2 + 1)) ∧ Lies now i ((rs i).f (j * 2)) ∧ (rs i).f (j * 2 + 1) ∉ ids rs i j
instance (now : Int) (rs : Nat → Rw) (i j : Nat) : Decidable (okT now rs i j) := by unfold okT; infer_instance
def UpTo (now : Int) (rs : Nat → Rw) (i j : Nat) : Prop := (∀ i', i' < i → ∀ j', j' < (rs i').n → okT now rs i' j') ∧ ∀ j', j' < j → okT now rs i j'
theorem UpTo.succ {now : Int} {rs : Nat → Rw} {i j : Nat} (h : UpTo now rs i j) (h2 : okT now rs i j) : UpTo now rs i (j + 1) :=
  ⟨h.1, fun j' hj => by
    rcases (show j' < j ∨ j' = j by omega) with h3 | h3
    · exact h.2 j' h3
    · subst h3; exact h2⟩
theorem UpTo.next {now : Int} {rs : Nat → Rw} {i : Nat} (h : UpTo now rs i (rs i).n) : UpTo now rs (i + 1) 0 :=
  ⟨fun i' hi => by
    rcases (show i' < i ∨ i' = i by omega) with h3 | h3
    · exact h.1 i' h3
    · subst h3; exact h.2, fun j' hj => by omega⟩
def GoodW (now : Int) (k : Nat) (rs : Nat → Rw) : Prop := GoodN now ∧ k = 24 ∧ (∀ i, i < 24 → ∀ j, j < (rs i).n → okT now rs i j) ∧ tot rs 24 ≤ 60
instance (now : Int) (k : Nat) (rs : Nat → Rw) : Decidable (GoodW now k rs) := by unfold GoodW; infer_instance
def mset (l : List Int) : Nat → Bool := fun x => decide ((x : Int) ∈ l)
theorem mset_snoc (l : List Int) (t : Nat) : upd (mset l) t true = mset (l ++ [(t : Int)]) := by
  funext x
  unfold upd mset
  by_cases h : x = t
  · subst h; simp
  · rw [if_neg h]
    have : ¬ ((x : Int) = (t : Int)) := by omega
    simp [this]
def bv (s : Nat → Bool) : Nat → Value := fun i => .bool (s i)
theorem bv_upd (s : Nat → Bool) (i : Nat) (b : Bool) : upd (bv s) i (.bool b) = bv (upd s i b) := by
  funext j; unfold bv upd; split <;> rfl
theorem Blk.set_bv {w : World} {g n : Nat} {s : Nat → Bool} {t : TypeId} (h : Blk w g n (bv s) t) (i : Nat) : Blk (w.setCell ⟨g, i, none⟩ (.bool true)) g n (bv (upd s i true)) t := by rw [← bv_upd]; exact h.set i _
theorem Blk.cell_bv {w : World} {g n : Nat} {s : Nat → Bool} {t : TypeId} (h : Blk w g n (bv s) t) {i : Nat} (hi : i < n) : w.cell? ⟨g, i, none⟩ = some (.bool (s i)) := h.cell hi
/-- Numbers of a list, as values. -/
def pvi (l : List Int) : List Value := l.map (.int .i64)
theorem pvi_snoc (l : List Int) (x : Int) : pvi (l ++ [x]) = pvi l ++ [.int .i64 x] := by simp [pvi]
theorem own_list {w : World} {B e : Nat} {v : Value} {l : List Int} (h : w.ownsRow B e 1 v l.length (pvi l)) : IntsOf w v l.length (fun q => l.getD q 0) := by
  obtain ⟨a, cap, hv, hr⟩ := own_cells h (by simp [pvi])
  refine ⟨a, cap, hv, fun hn => ?_⟩
  obtain ⟨g, ha, _, hlt, hc⟩ := hr hn
  refine ⟨g, 0, ha, hlt, fun i hi => ?_⟩
  rw [Nat.zero_add]
  exact hc i _ (by unfold pvi; rw [List.getElem?_map, List.getElem?_eq_getElem hi]; simp [hi])
theorem mem_getD {l : List Int} {z : Int} : z ∈ l ↔ ∃ j, j < l.length ∧ l.getD j 0 = z := by
  rw [List.mem_iff_getElem]
  constructor
  · rintro ⟨i, h, e⟩; exact ⟨i, h, by simp [h, e]⟩
  · rintro ⟨i, h, e⟩; exact ⟨i, h, by simpa [h] using e⟩
end M
theorem l1has (v : Value) (l : List Int) (z : Int) (b : Bool) (w : World) (hv : IntsOf w v l.length (fun q => l.getD q 0)) (hn : l.length ≤ 1048576) (hb : decide (z ∈ l) = b) :
    Calls Try.prog 45 #[v, .int .i64 z] w fun e w' => e = .returned (.bool b) ∧ w' = w := by
  obtain ⟨a, cap, rfl, hr⟩ := hv
  have HB := hide (show (∃ j, j < l.length ∧ l.getD j 0 = z) ↔ b = true by rw [← mem_getD, ← hb, decide_eq_true_eq])
  clear hb
  generalize hf : (fun q => l.getD q 0) = f at *
  have HF := hide (show ∀ q, l.getD q 0 = f q from fun q => by rw [← hf])
  generalize l.length = n at *
  have HR := hide hr
  clear hr hf
  go_enter Try.func45, Try.ntmps45
  go_wp2
  go_loop [9] (fun i => ∃ k : Nat, k ≤ n ∧ i = .int .i64 k ∧ Hid (∀ j, j < k → f j ≠ z)) (fun i => n - (intOf i).toNat)
  case atStart => exact ⟨0, Nat.zero_le _, rfl, hide (fun j h => absurd h (by omega))⟩
  case round =>
    obtain ⟨k, hk, rfl, HP⟩ := hrel
    by_cases hlt : k < n
    · obtain ⟨bb, off, rfl, hbb, hrow⟩ := HR.out (by omega)
      have c0 := hrow k hlt
      by_cases he : f k = z
      · have eb : b = true := HB.out.1 ⟨k, hlt, by rw [HF.out]; exact he⟩
        subst eb
        have hd : (f k == z) = true := by simp [he]
        clear HR hrow HP HB he
        go_wp2
        go_ret
        exact ⟨rfl, rfl⟩
      · have hd : (f k == z) = false := by simp [he]
        have HP2 := hide (show ∀ j, j < k + 1 → f j ≠ z from fun j hj => by
          rcases (show j < k ∨ j = k by omega) with h | h
          · exact HP.out j h
          · subst h; exact he)
        clear HR hrow HP he
        go_wp2
        go_round
        case rel => exact ⟨k + 1, by omega, by go_num, HP2⟩
        case measure => simp [intOf]; omega
    · obtain rfl : k = n := by omega
      have eb : b = false := by
        cases hbb : b with
        | false => rfl
        | true =>
          obtain ⟨j, h1, h2⟩ := HB.out.2 hbb
          rw [HF.out] at h2
          exact absurd h2 (HP.out j h1)
      subst eb
      clear HR HP HB
      go_wp2
      go_ret
      exact ⟨rfl, rfl⟩
theorem good_id (id : Int) (b : Bool) (w : World) (hb : decide (GoodI id) = b) :
    Calls Try.prog 50 #[.int .i64 id] w fun e w' => e = .returned (.bool b) ∧ w' = w := by
  have HB := hide (show decide (0 ≤ id ∧ id ≤ 1000) = b from hb)
  clear hb
  go_enter Try.func50, Try.ntmps50
  go_wp2_with fail
  refine (within_to _ _ _ _ _ HB.out).mono ?_
  rintro e w1 ⟨rfl, rfl⟩
  go_wp2
  go_ret
  exact ⟨rfl, rfl⟩
set_option maxHeartbeats 1000000 in
theorem lies_well (now : Int) (i : Nat) (tm : Int) (b : Bool) (w : World) (hi : i < 24) (hn : GoodN now) (hb : decide (Lies now i tm) = b) :
    Calls Try.prog 51 #[.int .i64 now, .int .i64 (i : Int), .int .i64 tm] w fun e w' => e = .returned (.bool b) ∧ ∃ m, w' = w.drewN m := by
  have hq : (i : Int).tdiv 8 = ((i / 8 : Nat) : Int) := by rw [Int.tdiv_eq_ediv_of_nonneg (by omega)]; omega
  have hl : i / 8 ≤ 2 := by omega
  have h0 : 0 ≤ now ∧ now ≤ 100000 := hn
  have HD := hide (show ((i / 8 : Nat) : Int) * 8 + ((i % 8 : Nat) : Int) = (i : Int) by omega)
  by_cases h1 : GoodT now tm
  · have HT := hide (good_times now tm true w (decide_eq_true ⟨hn, h1⟩))
    have h1' : now < tm ∧ tm < now + 512 := h1
    by_cases h2 : Fit (i / 8) now tm
    · have HF := hide (reaches_to (i / 8) now tm true w hl (by omega) (by omega) (decide_eq_true h2))
      have HS := hide (show ∀ w, Calls Try.prog 71 #[.int .i64 ((i / 8 : Nat) : Int), .int .i64 tm] w fun e w' => e = .returned (.int .i64 (sN (i / 8) tm)) ∧ w' = w from fun w => slot_in (i / 8) tm w hl (by omega))
      have HB := hide (show (sN (i / 8) tm == (i : Int)) = b by
        rw [← hb, Bool.eq_iff_iff, decide_eq_true_eq, beq_iff_eq]
        unfold Lies sN
        have := HD.out
        constructor
        · intro h; exact ⟨h1, h2, by omega⟩
        · intro h; have := h.2.2; omega)
      clear hb h1 h2 hn
      generalize sN (i / 8) tm = sv at *
      generalize i / 8 = lv at *
      go_enter Try.func51, Try.ntmps51
      go_wp2_with fail
      refine HT.out.mono ?_
      rintro e w1 ⟨rfl, rfl⟩
      go_wp2_with fail
      refine HF.out.mono ?_
      rintro e w2 ⟨rfl, m, rfl⟩
      go_wp2_with fail
      refine (HS.out _).mono ?_
      rintro e w3 ⟨rfl, rfl⟩
      go_wp2
      go_ret
      exact ⟨by rw [← HB.out]; rfl, m, rfl⟩
    · have HF := hide (reaches_to (i / 8) now tm false w hl (by omega) (by omega) (decide_eq_false h2))
      obtain rfl : b = false := by rw [← hb, decide_eq_false_iff_not]; exact fun h => h2 h.2.1
      clear hb h1 h2 hn
      generalize i / 8 = lv at *
      go_enter Try.func51, Try.ntmps51
      go_wp2_with fail
      refine HT.out.mono ?_
      rintro e w1 ⟨rfl, rfl⟩
      go_wp2_with fail
      refine HF.out.mono ?_
      rintro e w2 ⟨rfl, m, rfl⟩
      go_wp2
      go_ret
      exact ⟨rfl, m, rfl⟩
  · have HT := hide (good_times now tm false w (decide_eq_false (fun h => h1 h.2)))
    obtain rfl : b = false := by rw [← hb, decide_eq_false_iff_not]; exact fun h => h1 h.1
    clear hb h1 hn
    generalize i / 8 = lv at *
    go_enter Try.func51, Try.ntmps51
    go_wp2_with fail
    refine HT.out.mono ?_
    rintro e w1 ⟨rfl, rfl⟩
    go_wp2
    go_ret
    exact ⟨rfl, 0, rfl⟩
end Go.Proofs.Ytcodllammndciaa

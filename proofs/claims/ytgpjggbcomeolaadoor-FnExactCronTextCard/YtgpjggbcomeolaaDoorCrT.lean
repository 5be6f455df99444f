/-
  A cron's text: the numbers of a field with commas; the specification's text of it.
-/
import Derived.Test.YtgpjggbcomeolaaDoorCrNum
import Derived.Lib.QuietBelow
import Derived.BigQuiet
import Derived.Lib.Join
namespace Go.Proofs.YtgpjggbcomeolaaDoor
open Go.RowKit M
open Go.Sort (grow)
namespace M
/-- The first k numbers with commas. -/
def tx (f : Nat → Int) : Nat → ByteArray
  | 0 => ⟨#[]⟩
  | k + 1 => (if k = 0 then tx f k else tx f k ++ ⟨#[44]⟩) ++ numB (f k).toNat
theorem tx_one (f : Nat → Int) : tx f 1 = ⟨#[]⟩ ++ numB (f 0).toNat := rfl
theorem tx_more (f : Nat → Int) {k : Nat} (h : 0 < k) : tx f (k + 1) = tx f k ++ ⟨#[44]⟩ ++ numB (f k).toNat := by
  show (if k = 0 then tx f k else tx f k ++ ⟨#[44]⟩) ++ numB (f k).toNat = _
  rw [if_neg (by omega)]
theorem tx_size {f : Nat → Int} : ∀ {k : Nat}, (∀ i, i < k → 0 ≤ f i ∧ f i < 60) → (tx f k).size ≤ 8 * k
  | 0, _ => Nat.le_refl _
  | k + 1, h => by
    have ih := tx_size (k := k) fun i hi => h i (by omega)
    have hz := numB_size (f k).toNat (by have := h k (by omega); omega)
    by_cases h0 : k = 0
    · subst h0
      rw [tx_one, ByteArray.size_append]
      have : (⟨#[]⟩ : ByteArray).size = 0 := rfl
      omega
    · rw [tx_more f (by omega), ByteArray.size_append, ByteArray.size_append]
      have : (⟨#[44]⟩ : ByteArray).size = 1 := rfl
      omega
/-- A field's text. -/
def ft (n : Nat) (f : Nat → Int) (p : Nat) : ByteArray := if n = p then ⟨#[42]⟩ else tx f n
theorem ft_size {n : Nat} {f : Nat → Int} {p : Nat} (h : ∀ i, i < n → 0 ≤ f i ∧ f i < 60) (hn : n ≤ 60) : (ft n f p).size ≤ 480 := by
  unfold ft
  split
  · show 1 ≤ 480
    omega
  · have := tx_size h
    omega
/-- A cron's text. -/
def ct (c : Crn) : ByteArray := ft c.nm c.fm 60 ++ ⟨#[32]⟩ ++ ft c.nh c.fh 24 ++ ⟨#[32]⟩ ++ ft c.nd c.fd 7
theorem join_snoc {l : List (List UInt8)} (h : l ≠ []) (y sep : List UInt8) : Lib.join (l ++ [y]) sep = Lib.join l sep ++ sep ++ y := by
  obtain ⟨x, r, rfl⟩ := List.exists_cons_of_ne_nil h
  rw [List.cons_append, Lib.join_cons, Lib.join_cons]
  simp [Lib.joinTail, List.append_assoc]
theorem tx_join (f : Nat → Int) : ∀ k, 0 < k → (tx f k).data.toList = Lib.join (((List.range k).map fun i => numB (f i).toNat).map (·.data.toList)) [44]
  | 0, h => by omega
  | k + 1, _ => by
    by_cases h0 : k = 0
    · subst h0
      rw [tx_one, ByteArray.data_append, Array.toList_append]
      show [] ++ (numB (f 0).toNat).data.toList = Lib.join [(numB (f 0).toNat).data.toList] [44]
      rw [Lib.join_one]; rfl
    · rw [tx_more f (by omega), ByteArray.data_append, Array.toList_append, ByteArray.data_append, Array.toList_append, tx_join f k (by omega), List.range_succ, List.map_append, List.map_append, List.map_cons, List.map_nil, List.map_cons, List.map_nil, join_snoc]
      simp only [ne_eq, List.map_eq_nil_iff, List.range_eq_nil]
      omega
end M
set_option maxRecDepth 20000 in
set_option maxHeartbeats 1000000 in
theorem l6_text (v : Value) (n : Nat) (f : Nat → Int) (p : Nat) (w : World) (hv : IntsOf w v n f) (hn : n ≤ 60) (hp : 1 ≤ p) (hp2 : p ≤ 60) (hf : ∀ i, i < n → 0 ≤ f i ∧ f i < 60) :
    Calls Tryd.prog 23 #[v, .int .i64 ((p : Int) - 1)] w fun e w' => e = .returned (.string (ft n f p)) ∧ Below w.heap.size w w' := by
  obtain ⟨a, cap, rfl, hr⟩ := hv
  have HR := hide hr
  have HF := hide hf
  clear hr hf
  have e0 : IntKind.i64.wrap ((p : Int) - 1 + 1) = (p : Int) := by rw [IntKind.wrap_i64]; omega
  by_cases h : n = p
  · subst h
    have h1 : ((n : Int) == (n : Int)) = true := by simp
    have HE := hide (show ft n f n = ⟨#[42]⟩ from if_pos rfl)
    clear HR HF
    go_enter Tryd.func23, Tryd.ntmps23
    go_wp2
    go_ret
    exact ⟨by rw [HE.out]; rfl, Below.refl _ _⟩
  · have h1 : ((n : Int) == (p : Int)) = false := by simp; omega
    have HE := hide (show ft n f p = tx f n from if_neg h)
    go_enter Tryd.func23, Tryd.ntmps23
    go_wp2
    go_loopw [5, 15] (fun x y wr => ∃ k : Nat, k ≤ n ∧ y = .int .i64 (k : Int) ∧ x = .string (tx f k) ∧ Hid (Below w.heap.size w wr)) (fun _ y _ => n - (intOf y).toNat)
    case atStart => exact ⟨0, Nat.zero_le _, rfl, rfl, hide (Below.refl _ _)⟩
    case round =>
      obtain ⟨k, hk, rfl, rfl, HB⟩ := hrel
      by_cases hlt : k < n
      · obtain ⟨b, off, rfl, hb, hrow⟩ := HR.out (by omega)
        have c0 := (HB.out.cell (p := ⟨b, off + k, none⟩) hb).trans (hrow k hlt)
        obtain ⟨m, hm⟩ : ∃ m : Nat, f k = (m : Int) := ⟨(f k).toNat, by have := (HF.out k hlt).1; omega⟩
        have hm60 : m < 60 := by have := (HF.out k hlt).2; omega
        have hz := tx_size (k := k) fun i hi => HF.out i (by omega)
        have hz2 := numB_size m (by omega)
        have zd : (⟨#[44]⟩ : ByteArray).size = 1 := rfl
        have za := @ByteArray.size_append
        rw [hm] at c0
        have hmm : (f k).toNat = m := by omega
        by_cases hk0 : k = 0
        · subst hk0
          have HT := hide (show tx f (0 + 1) = tx f 0 ++ numB m from by rw [tx_one, hmm]; rfl)
          have n1 : ¬ 9223372036854775807 < (tx f 0).size + (numB m).size := by omega
          rw [Nat.add_zero] at c0
          generalize tx f 0 = T at *
          clear hm hrow hz hmm
          go_wp2_with fail
          refine (spec_num m (by omega) _).mono ?_
          rintro e w1 ⟨rfl, hb1⟩
          have HB2 := hide (HB.out.trans (hb1.mono HB.out.size))
          clear hb1 HB
          go_wp2
          exact ⟨⟨0 + 1, by omega, by go_num, by rw [HT.out], HB2⟩, by simp [intOf]; omega⟩
        · have HT := hide (show tx f (k + 1) = tx f k ++ ⟨#[44]⟩ ++ numB m from by rw [tx_more f (by omega), hmm])
          have hpos : (k : Int) > 0 := by omega
          have n1 : ¬ 9223372036854775807 < (tx f k).size + 1 := by omega
          have n2 : ¬ 9223372036854775807 < (tx f k).size + 1 + (numB m).size := by omega
          generalize tx f k = T at *
          clear hm hrow hz hmm
          go_wp2_with fail
          refine (spec_num m (by omega) _).mono ?_
          rintro e w1 ⟨rfl, hb1⟩
          have HB2 := hide (HB.out.trans (hb1.mono HB.out.size))
          clear hb1 HB
          go_wp2
          exact ⟨⟨k + 1, by omega, by go_num, by rw [HT.out], HB2⟩, by simp [intOf]; omega⟩
      · obtain rfl : k = n := by omega
        clear HR HF
        go_wp2
        go_ret
        exact ⟨by rw [HE.out]; rfl, HB.out⟩
end Go.Proofs.YtgpjggbcomeolaaDoor

/-
  The program's reading of forms: takeForm and takePair tell what stands at the front of a text.
-/
import Derived.Test.YtfiooclkefmijaaDoorBddU
import Derived.Lib.IndexBytes
namespace Go.Proofs.YtfiooclkefmijaaDoor
open Go.RowKit M
namespace M
open Bdd
theorem below_drewN {B : Nat} {w0 w : World} (h : Below B w0 w) (m : Nat) : Below B w0 (w.drewN m) := ⟨h.os, h.tape, h.output, h.size, h.block⟩
abbrev noText : ByteArray := ⟨#[]⟩
def suf (s : ByteArray) (p : Nat) : ByteArray := s.extract p s.size
theorem suf_size (s : ByteArray) (p : Nat) : (suf s p).size = s.size - p := by simp [suf]
theorem suf_zero (s : ByteArray) : suf s 0 = s := by
  unfold suf; apply ByteArray.ext; simp
theorem suf_end (s : ByteArray) {p : Nat} (h : s.size ≤ p) : suf s p = noText := by
  unfold suf
  apply ByteArray.ext
  simp only [ByteArray.data_extract]
  exact Array.extract_eq_empty_of_le (by simp only [ByteArray.size_data]; omega)
/-- A text with a first byte. -/
def Txt (t : ByteArray) (c : Nat) (r : ByteArray) : Prop := ∃ h : 0 < t.size, t[0].toNat = c ∧ t.extract 1 t.size = r
theorem suf_txt {s : ByteArray} {p : Nat} (h : p < s.size) : Txt (suf s p) (byte s p) (suf s (p + 1)) := by
  refine ⟨by rw [suf_size]; omega, ?_, ?_⟩
  · unfold byte; rw [dif_pos h]
    congr 1
    simp [suf, ByteArray.getElem_extract]
  · rw [suf_size]
    unfold suf
    rw [ByteArray.extract_extract]
    congr 1 <;> omega
theorem not_empty (s : ByteArray) (h : 0 < s.size) : s.toList.isEmpty = false := by
  rw [Lib.toList_data]
  cases hl : s.data.toList with
  | nil => have := Lib.size_eq s; rw [hl] at this; simp only [List.length_nil] at this; omega
  | cons a r => rfl
theorem head_is {t : ByteArray} {c : Nat} {r : ByteArray} (h : Txt t c r) : ((t.extract 0 1).toList == [41]) = (c == 41) := by
  obtain ⟨h0, hc, _⟩ := h
  have e : (t.extract 0 1).toList = [t[0]] := by
    rw [Lib.toList_data, Lib.extract_data, List.drop_zero, List.take_one]
    have : t.data.toList.head? = some t[0] := by
      rw [List.head?_eq_getElem?]
      simp [ByteArray.getElem_eq_getElem_data, h0]
    rw [this]; rfl
  rw [e, ← hc]
  rw [Bool.eq_iff_iff]
  simp only [beq_iff_eq, List.cons.injEq, and_true]
  constructor
  · intro h; rw [h]; rfl
  · intro h; exact UInt8.toNat_inj.1 h
end M
theorem has_prefix (t : ByteArray) (c : Nat) (r : ByteArray) (h : Txt t c r) (w : World) :
    Calls Tryd.prog 73 #[.string t, .string ⟨#[41]⟩] w fun e w' => e = .returned (.bool (c == 41)) ∧ w' = w := by
  have HH := hide (head_is h)
  obtain ⟨h0, hc, hr⟩ := h
  go_enter Tryd.func73, Tryd.ntmps73
  go_wp2
  go_ret
  exact ⟨by rw [← HH.out]; rfl, rfl⟩
theorem has_prefix_none (w : World) :
    Calls Tryd.prog 73 #[.string noText, .string ⟨#[41]⟩] w fun e w' => e = .returned (.bool false) ∧ w' = w := by
  go_enter Tryd.func73, Tryd.ntmps73
  go_wp2
  go_ret
  exact ⟨rfl, rfl⟩
theorem cut_yes (t r : ByteArray) (h : Txt t 41 r) (w : World) :
    Calls Tryd.prog 67 #[.string t, .string ⟨#[41]⟩] w fun e w' => e = .returned (.tuple #[.string r, .bool true]) ∧ w' = w := by
  have H0 : ∀ w, Calls Tryd.prog 70 #[.string t, .string ⟨#[41]⟩] w fun e w' => e = .returned (.tuple #[.string r, .bool true]) ∧ w' = w := fun w => by
    have HP := hide (has_prefix t 41 r h w)
    obtain ⟨h0, hc, hr⟩ := h
    go_enter Tryd.func70, Tryd.ntmps70
    go_wp2_with (refine HP.out.mono ?_; rintro e w1 ⟨rfl, rfl⟩)
    go_ret2
    exact ⟨rfl, rfl⟩
  go_enter Tryd.func67, Tryd.ntmps67
  go_wp2_with (refine (H0 _).mono ?_; rintro e w1 ⟨rfl, rfl⟩)
  go_ret2
  exact ⟨rfl, rfl⟩
theorem cut_no (t : ByteArray) (h : t = noText ∨ ∃ c r, Txt t c r ∧ c ≠ 41) (w : World) :
    Calls Tryd.prog 67 #[.string t, .string ⟨#[41]⟩] w fun e w' => e = .returned (.tuple #[.string t, .bool false]) ∧ w' = w := by
  have H0 : ∀ w, Calls Tryd.prog 70 #[.string t, .string ⟨#[41]⟩] w fun e w' => e = .returned (.tuple #[.string t, .bool false]) ∧ w' = w := fun w => by
    have HP : Calls Tryd.prog 73 #[.string t, .string ⟨#[41]⟩] w fun e w' => e = .returned (.bool false) ∧ w' = w := by
      rcases h with rfl | ⟨c, r, h, hc⟩
      · exact has_prefix_none w
      · have := has_prefix t c r h w
        rw [show (c == 41) = false by simp [hc]] at this
        exact this
    have HP := hide HP
    clear h
    go_enter Tryd.func70, Tryd.ntmps70
    go_wp2_with (refine HP.out.mono ?_; rintro e w1 ⟨rfl, rfl⟩)
    go_ret2
    exact ⟨rfl, rfl⟩
  clear h
  go_enter Tryd.func67, Tryd.ntmps67
  go_wp2_with (refine (H0 _).mono ?_; rintro e w1 ⟨rfl, rfl⟩)
  go_ret2
  exact ⟨rfl, rfl⟩
namespace M
open Bdd
/-- What is told beside a false. -/
def prx (s : ByteArray) : Nat → Nat → T
  | 0, _ => 0
  | f + 1, p => if p < s.size ∧ byte s p = 33 then ~~~prx s f (p + 1) else 0
def told (s : ByteArray) (z : T) : Option (T × Nat) → Value
  | some (x, q) => .tuple #[uv x, .string (suf s q), .bool true]
  | none => .tuple #[uv z, .string noText, .bool false]
/-- What takeForm promises, with so much fuel. -/
def TakesF (s : ByteArray) (f : Nat) : Prop := ∀ p, p ≤ s.size → s.size - p < f → ∀ w, OV w → Calls Tryd.prog 56 #[.string (suf s p)] w fun e w' => e = .returned (told s (prx s f p) (prs s f p)) ∧ Below w.heap.size w w'
end M
theorem form_empty (w : World) : Calls Tryd.prog 56 #[.string noText] w fun e w' => e = .returned (.tuple #[uv 0, .string noText, .bool false]) ∧ Below w.heap.size w w' := by
  go_enter Tryd.func56, Tryd.ntmps56
  go_wp2
  go_ret3
  exact ⟨rfl, Below.refl _ _⟩
theorem form_nought (t r : ByteArray) (w : World) (h : Txt t 48 r) : Calls Tryd.prog 56 #[.string t] w fun e w' => e = .returned (.tuple #[uv 0, .string r, .bool true]) ∧ Below w.heap.size w w' := by
  have hem := not_empty t h.1
  obtain ⟨h0, hc, hr⟩ := h
  go_enter Tryd.func56, Tryd.ntmps56
  go_wp2
  go_big_quiet (fail)
  go_wp2
  go_ret3
  exact ⟨rfl, below_drewN (Below.refl _ _) _⟩
theorem form_one (t r : ByteArray) (w : World) (h : Txt t 49 r) : Calls Tryd.prog 56 #[.string t] w fun e w' => e = .returned (.tuple #[uv Bdd.all1, .string r, .bool true]) ∧ Below w.heap.size w w' := by
  have hem := not_empty t h.1
  obtain ⟨h0, hc, hr⟩ := h
  go_enter Tryd.func56, Tryd.ntmps56
  go_wp2
  go_big_quiet (fail)
  go_wp2
  go_ret3
  exact ⟨rfl, below_drewN (Below.refl _ _) _⟩
theorem form_var (t r : ByteArray) (k : Nat) (hk : k < 6) (w : World) (ho : OV w) (h : Txt t (97 + k) r) : Calls Tryd.prog 56 #[.string t] w fun e w' => e = .returned (.tuple #[uv (Bdd.vt k), .string r, .bool true]) ∧ Below w.heap.size w w' := by
  have hem := not_empty t h.1
  obtain ⟨h0, hc, hr⟩ := h
  have c0 := ho k hk
  have e1 : ((97 + (k : Int)) == 48) = false := by simp; omega
  have e2 : ((97 + (k : Int)) == 49) = false := by simp; omega
  have e3 : decide ((97 : Int) ≤ 97 + (k : Int)) = true := by simp; omega
  have e4 : decide (97 + (k : Int) < 103) = true := by simp; omega
  go_enter Tryd.func56, Tryd.ntmps56
  go_wp2
  go_big_quiet (fail)
  go_wp2
  go_ret3
  exact ⟨rfl, below_drewN (Below.refl _ _) _⟩
theorem form_other (t r : ByteArray) (c : Nat) (w : World) (h : Txt t c r) (h1 : c ≠ 48) (h2 : c ≠ 49) (h3 : ¬ (97 ≤ c ∧ c < 103)) (h4 : c ≠ 33) (h5 : c ≠ 40) : Calls Tryd.prog 56 #[.string t] w fun e w' => e = .returned (.tuple #[uv 0, .string noText, .bool false]) ∧ Below w.heap.size w w' := by
  have hem := not_empty t h.1
  obtain ⟨h0, hc, hr⟩ := h
  have e1 : ((c : Int) == 48) = false := by simp; omega
  have e2 : ((c : Int) == 49) = false := by simp; omega
  have e5 : ((c : Int) == 33) = false := by simp; omega
  have e6 : ((c : Int) == 40) = false := by simp; omega
  rcases (show c < 97 ∨ (97 ≤ c ∧ 103 ≤ c) by omega) with h | ⟨h, h'⟩
  · have e3 : decide ((97 : Int) ≤ (c : Int)) = false := by simp; omega
    clear h1 h2 h3 h4 h5
    go_enter Tryd.func56, Tryd.ntmps56
    go_wp2
    go_big_quiet (fail)
    go_wp2
    go_ret3
    exact ⟨rfl, below_drewN (Below.refl _ _) _⟩
  · have e3 : decide ((97 : Int) ≤ (c : Int)) = true := by simp; omega
    have e4 : decide ((c : Int) < 103) = false := by simp; omega
    clear h1 h2 h3 h4 h5
    go_enter Tryd.func56, Tryd.ntmps56
    go_wp2
    go_big_quiet (fail)
    go_wp2
    go_ret3
    exact ⟨rfl, below_drewN (Below.refl _ _) _⟩
theorem form_not (t r r2 : ByteArray) (x : Bdd.T) (b : Bool) (w : World) (h : Txt t 33 r) (hF : ∀ w', Below w.heap.size w w' → Calls Tryd.prog 56 #[.string r] w' fun e w'' => e = .returned (.tuple #[uv x, .string r2, .bool b]) ∧ Below w'.heap.size w' w'') :
    Calls Tryd.prog 56 #[.string t] w fun e w' => e = .returned (.tuple #[uv (~~~x), .string r2, .bool b]) ∧ Below w.heap.size w w' := by
  have hem := not_empty t h.1
  obtain ⟨h0, hc, hr⟩ := h
  have hx := u_not x
  have HF := hide hF
  clear hF
  go_enter Tryd.func56, Tryd.ntmps56
  go_wp2
  go_big_quiet (fail)
  go_wp2_with (refine (HF.out _ (below_drewN (Below.refl _ _) _)).mono ?_; rintro e w1 ⟨rfl, hb1⟩)
  go_ret3
  exact ⟨rfl, (below_drewN (Below.refl _ _) _).trans hb1⟩
theorem form_par (t r r2 : ByteArray) (x : Bdd.T) (b : Bool) (w : World) (h : Txt t 40 r) (hF : ∀ w', Below w.heap.size w w' → Calls Tryd.prog 65 #[.string r] w' fun e w'' => e = .returned (.tuple #[uv x, .string r2, .bool b]) ∧ Below w'.heap.size w' w'') :
    Calls Tryd.prog 56 #[.string t] w fun e w' => e = .returned (.tuple #[uv x, .string r2, .bool b]) ∧ Below w.heap.size w w' := by
  have hem := not_empty t h.1
  obtain ⟨h0, hc, hr⟩ := h
  have HF := hide hF
  clear hF
  go_enter Tryd.func56, Tryd.ntmps56
  go_wp2
  go_big_quiet (fail)
  go_wp2_with (refine (HF.out _ (below_drewN (Below.refl _ _) _)).mono ?_; rintro e w1 ⟨rfl, hb1⟩)
  go_ret3
  exact ⟨rfl, (below_drewN (Below.refl _ _) _).trans hb1⟩
theorem pair_a (t t2 : ByteArray) (x : Bdd.T) (b : Bool) (w : World) (hb : b = false ∨ t2 = noText) (hF : ∀ w', Below w.heap.size w w' → Calls Tryd.prog 56 #[.string t] w' fun e w'' => e = .returned (.tuple #[uv x, .string t2, .bool b]) ∧ Below w'.heap.size w' w'') :
    Calls Tryd.prog 65 #[.string t] w fun e w' => e = .returned (.tuple #[uv 0, .string noText, .bool false]) ∧ Below w.heap.size w w' := by
  have HF := hide hF
  clear hF
  rcases hb with rfl | rfl
  · go_enter Tryd.func65, Tryd.ntmps65
    go_wp2_with (refine (HF.out _ (Below.refl _ _)).mono ?_; rintro e w1 ⟨rfl, hb1⟩)
    go_ret3
    exact ⟨rfl, hb1⟩
  · cases b
    · go_enter Tryd.func65, Tryd.ntmps65
      go_wp2_with (refine (HF.out _ (Below.refl _ _)).mono ?_; rintro e w1 ⟨rfl, hb1⟩)
      go_ret3
      exact ⟨rfl, hb1⟩
    · go_enter Tryd.func65, Tryd.ntmps65
      go_wp2_with (refine (HF.out _ (Below.refl _ _)).mono ?_; rintro e w1 ⟨rfl, hb1⟩)
      go_ret3
      exact ⟨rfl, hb1⟩
theorem pair_c (t t2 r2 t3 : ByteArray) (c : Nat) (x y : Bdd.T) (b : Bool) (w : World) (hF : ∀ w', Below w.heap.size w w' → Calls Tryd.prog 56 #[.string t] w' fun e w'' => e = .returned (.tuple #[uv x, .string t2, .bool true]) ∧ Below w'.heap.size w' w'') (h2 : Txt t2 c r2) (hG : ∀ w', Below w.heap.size w w' → Calls Tryd.prog 56 #[.string r2] w' fun e w'' => e = .returned (.tuple #[uv y, .string t3, .bool b]) ∧ Below w'.heap.size w' w'') (h3 : t3 = noText ∨ ∃ c r, Txt t3 c r ∧ c ≠ 41) :
    Calls Tryd.prog 65 #[.string t] w fun e w' => e = .returned (.tuple #[uv 0, .string noText, .bool false]) ∧ Below w.heap.size w w' := by
  have HF := hide hF
  have HG := hide hG
  have HC := hide (cut_no t3 h3)
  have hem := not_empty t2 h2.1
  obtain ⟨h0, hc, hr⟩ := h2
  clear hF hG h3
  cases b
  · go_enter Tryd.func65, Tryd.ntmps65
    go_wp2_with fail
    refine (HF.out _ (Below.refl _ _)).mono ?_
    rintro e w1 ⟨rfl, hb1⟩
    go_wp2_with fail
    refine (HG.out _ hb1).mono ?_
    rintro e w2 ⟨rfl, hb⟩
    have hb2 := hb1.trans (hb.mono hb1.size)
    clear hb
    go_wp2_with (refine (HC.out _).mono ?_; rintro e w3 ⟨rfl, rfl⟩)
    go_ret3
    exact ⟨rfl, hb2⟩
  · go_enter Tryd.func65, Tryd.ntmps65
    go_wp2_with fail
    refine (HF.out _ (Below.refl _ _)).mono ?_
    rintro e w1 ⟨rfl, hb1⟩
    go_wp2_with fail
    refine (HG.out _ hb1).mono ?_
    rintro e w2 ⟨rfl, hb⟩
    have hb2 := hb1.trans (hb.mono hb1.size)
    clear hb
    go_wp2_with (refine (HC.out _).mono ?_; rintro e w3 ⟨rfl, rfl⟩)
    go_ret3
    exact ⟨rfl, hb2⟩
theorem pair_and (t t2 r2 t3 r3 : ByteArray) (x y : Bdd.T) (w : World) (hF : ∀ w', Below w.heap.size w w' → Calls Tryd.prog 56 #[.string t] w' fun e w'' => e = .returned (.tuple #[uv x, .string t2, .bool true]) ∧ Below w'.heap.size w' w'') (h2 : Txt t2 38 r2) (hG : ∀ w', Below w.heap.size w w' → Calls Tryd.prog 56 #[.string r2] w' fun e w'' => e = .returned (.tuple #[uv y, .string t3, .bool true]) ∧ Below w'.heap.size w' w'') (h3 : Txt t3 41 r3) :
    Calls Tryd.prog 65 #[.string t] w fun e w' => e = .returned (.tuple #[uv (x &&& y), .string r3, .bool true]) ∧ Below w.heap.size w w' := by
  have HF := hide hF
  have HG := hide hG
  have HC := hide (cut_yes t3 r3 h3)
  have hem := not_empty t2 h2.1
  obtain ⟨h0, hc, hr⟩ := h2
  have u1 := u_and
  have u2 := u_or
  have u3 := u_xor
  clear hF hG h3
  go_enter Tryd.func65, Tryd.ntmps65
  go_wp2_with fail
  refine (HF.out _ (Below.refl _ _)).mono ?_
  rintro e w1 ⟨rfl, hb1⟩
  go_wp2_with fail
  refine (HG.out _ hb1).mono ?_
  rintro e w2 ⟨rfl, hb⟩
  have hb2 := hb1.trans (hb.mono hb1.size)
  clear hb
  go_wp2_with (refine (HC.out _).mono ?_; rintro e w3 ⟨rfl, rfl⟩)
  go_ret3
  exact ⟨rfl, hb2⟩
theorem pair_or (t t2 r2 t3 r3 : ByteArray) (x y : Bdd.T) (w : World) (hF : ∀ w', Below w.heap.size w w' → Calls Tryd.prog 56 #[.string t] w' fun e w'' => e = .returned (.tuple #[uv x, .string t2, .bool true]) ∧ Below w'.heap.size w' w'') (h2 : Txt t2 124 r2) (hG : ∀ w', Below w.heap.size w w' → Calls Tryd.prog 56 #[.string r2] w' fun e w'' => e = .returned (.tuple #[uv y, .string t3, .bool true]) ∧ Below w'.heap.size w' w'') (h3 : Txt t3 41 r3) :
    Calls Tryd.prog 65 #[.string t] w fun e w' => e = .returned (.tuple #[uv (x ||| y), .string r3, .bool true]) ∧ Below w.heap.size w w' := by
  have HF := hide hF
  have HG := hide hG
  have HC := hide (cut_yes t3 r3 h3)
  have hem := not_empty t2 h2.1
  obtain ⟨h0, hc, hr⟩ := h2
  have u1 := u_and
  have u2 := u_or
  have u3 := u_xor
  clear hF hG h3
  go_enter Tryd.func65, Tryd.ntmps65
  go_wp2_with fail
  refine (HF.out _ (Below.refl _ _)).mono ?_
  rintro e w1 ⟨rfl, hb1⟩
  go_wp2_with fail
  refine (HG.out _ hb1).mono ?_
  rintro e w2 ⟨rfl, hb⟩
  have hb2 := hb1.trans (hb.mono hb1.size)
  clear hb
  go_wp2_with (refine (HC.out _).mono ?_; rintro e w3 ⟨rfl, rfl⟩)
  go_ret3
  exact ⟨rfl, hb2⟩
theorem pair_xor (t t2 r2 t3 r3 : ByteArray) (x y : Bdd.T) (w : World) (hF : ∀ w', Below w.heap.size w w' → Calls Tryd.prog 56 #[.string t] w' fun e w'' => e = .returned (.tuple #[uv x, .string t2, .bool true]) ∧ Below w'.heap.size w' w'') (h2 : Txt t2 94 r2) (hG : ∀ w', Below w.heap.size w w' → Calls Tryd.prog 56 #[.string r2] w' fun e w'' => e = .returned (.tuple #[uv y, .string t3, .bool true]) ∧ Below w'.heap.size w' w'') (h3 : Txt t3 41 r3) :
    Calls Tryd.prog 65 #[.string t] w fun e w' => e = .returned (.tuple #[uv (x ^^^ y), .string r3, .bool true]) ∧ Below w.heap.size w w' := by
  have HF := hide hF
  have HG := hide hG
  have HC := hide (cut_yes t3 r3 h3)
  have hem := not_empty t2 h2.1
  obtain ⟨h0, hc, hr⟩ := h2
  have u1 := u_and
  have u2 := u_or
  have u3 := u_xor
  clear hF hG h3
  go_enter Tryd.func65, Tryd.ntmps65
  go_wp2_with fail
  refine (HF.out _ (Below.refl _ _)).mono ?_
  rintro e w1 ⟨rfl, hb1⟩
  go_wp2_with fail
  refine (HG.out _ hb1).mono ?_
  rintro e w2 ⟨rfl, hb⟩
  have hb2 := hb1.trans (hb.mono hb1.size)
  clear hb
  go_wp2_with (refine (HC.out _).mono ?_; rintro e w3 ⟨rfl, rfl⟩)
  go_ret3
  exact ⟨rfl, hb2⟩
theorem pair_sign (t t2 r2 t3 r3 : ByteArray) (c : Nat) (k1 : c ≠ 38) (k2 : c ≠ 124) (k3 : c ≠ 94) (x y : Bdd.T) (w : World) (hF : ∀ w', Below w.heap.size w w' → Calls Tryd.prog 56 #[.string t] w' fun e w'' => e = .returned (.tuple #[uv x, .string t2, .bool true]) ∧ Below w'.heap.size w' w'') (h2 : Txt t2 c r2) (hG : ∀ w', Below w.heap.size w w' → Calls Tryd.prog 56 #[.string r2] w' fun e w'' => e = .returned (.tuple #[uv y, .string t3, .bool true]) ∧ Below w'.heap.size w' w'') (h3 : Txt t3 41 r3) :
    Calls Tryd.prog 65 #[.string t] w fun e w' => e = .returned (.tuple #[uv 0, .string noText, .bool false]) ∧ Below w.heap.size w w' := by
  have HF := hide hF
  have HG := hide hG
  have HC := hide (cut_yes t3 r3 h3)
  have hem := not_empty t2 h2.1
  obtain ⟨h0, hc, hr⟩ := h2
  have u1 := u_and
  have u2 := u_or
  have u3 := u_xor
  have e1 : ((c : Int) == 38) = false := by simp; omega
  have e2 : ((c : Int) == 124) = false := by simp; omega
  have e3 : ((c : Int) == 94) = false := by simp; omega
  clear k1 k2 k3
  clear hF hG h3
  go_enter Tryd.func65, Tryd.ntmps65
  go_wp2_with fail
  refine (HF.out _ (Below.refl _ _)).mono ?_
  rintro e w1 ⟨rfl, hb1⟩
  go_wp2_with fail
  refine (HG.out _ hb1).mono ?_
  rintro e w2 ⟨rfl, hb⟩
  have hb2 := hb1.trans (hb.mono hb1.size)
  clear hb
  go_wp2_with (refine (HC.out _).mono ?_; rintro e w3 ⟨rfl, rfl⟩)
  go_ret3
  exact ⟨rfl, hb2⟩
end Go.Proofs.YtfiooclkefmijaaDoor

/-
  The specification's reading of forms: a place that goes on, and a mark for what is bad.
-/
import Derived.Test.YtfiooclkefmijaaDoorBddV
import Derived.Test.YtfiooclkefmijaaDoorBddF
namespace Go.Proofs.YtfiooclkefmijaaDoor
open Go.RowKit M
open Clk (upd upd_same upd_other)
namespace M
open Bdd
/-- The reader's cells. -/
def rv (s : ByteArray) (a : Nat) (b : Bool) : Nat → Value := fun i => if i = 0 then .string s else if i = 1 then .int .i64 (a : Int) else .bool b
theorem rv_at (s : ByteArray) (a a' : Nat) (b : Bool) : upd (rv s a b) 1 (.int .i64 (a' : Int)) = rv s a' b := by
  funext i; unfold upd rv
  by_cases h : i = 1
  · subst h; rfl
  · simp [h]
def RB (w : World) (g : Nat) (s : ByteArray) (a : Nat) (b : Bool) : Prop := Blk w g 3 (rv s a b) 74
theorem RB.cells {w : World} {g a : Nat} {s : ByteArray} {b : Bool} (h : RB w g s a b) : w.cell? ⟨g, 0, none⟩ = some (.string s) ∧ w.cell? ⟨g, 1, none⟩ = some (.int .i64 (a : Int)) ∧ w.cell? ⟨g, 2, none⟩ = some (.bool b) ∧ w.frozen? ⟨g, 1, none⟩ = false ∧ w.frozen? ⟨g, 2, none⟩ = false :=
  ⟨h.cell (by omega), h.cell (by omega), h.cell (by omega), h.thaw 1, h.thaw 2⟩
theorem RB.at {w : World} {g a : Nat} {s : ByteArray} {b : Bool} (h : RB w g s a b) (a' : Nat) : RB (w.setCell ⟨g, 1, none⟩ (.int .i64 (a' : Int))) g s a' b := by
  have := Blk.set h 1 (.int .i64 (a' : Int))
  rw [rv_at] at this
  exact this
theorem RB.bad {w : World} {g a : Nat} {s : ByteArray} {b : Bool} (h : RB w g s a b) (b' : Bool) : RB (w.setCell ⟨g, 2, none⟩ (.bool b')) g s a b' := by
  have := Blk.set h 2 (.bool b')
  refine Blk.ext this fun i hi => ?_
  rcases (show i = 0 ∨ i = 1 ∨ i = 2 by omega) with rfl | rfl | rfl <;> simp [upd, rv]
theorem RB.down {w w' : World} {g a : Nat} {s : ByteArray} {b : Bool} (h : RB w g s a b) (hb : Below w.heap.size w w') : RB w' g s a b := Blk.down h hb
theorem RB.lt {w : World} {g a : Nat} {s : ByteArray} {b : Bool} (h : RB w g s a b) : g < w.heap.size := Blk.lt h
theorem byte_in {s : ByteArray} {p : Nat} (h : p < s.size) : s[p].toNat = byte s p := by unfold byte; rw [dif_pos h]
theorem byte_out {s : ByteArray} {p : Nat} (h : ¬ p < s.size) : byte s p = 0 := by unfold byte; rw [dif_neg h]
end M
theorem l7_next (g a : Nat) (s : ByteArray) (b : Bool) (w : World) (h : RB w g s a b) :
    Calls Tryd.prog 63 #[.pointer (some ⟨g, 0, none⟩)] w fun e w' => e = .returned (.int .u8 (Bdd.byte s a : Int)) ∧ Below w.heap.size w w' := by
  obtain ⟨c0, c1, -, -, -⟩ := h.cells
  by_cases hlt : a < s.size
  · have hb := byte_in hlt
    have hl : (a : Int) < (s.size : Int) := by omega
    have h0 : (0 : Int) ≤ (a : Int) := by omega
    go_enter Tryd.func63, Tryd.ntmps63
    go_wp2
    go_big_quiet (fail)
    go_wp2
    go_big_quiet (fail)
    go_wp2
    go_ret
    exact ⟨rfl, below_drewN (below_drewN (Below.refl _ _) _) _⟩
  · have hb := byte_out hlt
    have hl : ¬ (a : Int) < (s.size : Int) := by omega
    go_enter Tryd.func63, Tryd.ntmps63
    go_wp2
    go_big_quiet (fail)
    go_wp2
    go_ret
    exact ⟨by rw [hb]; rfl, below_drewN (Below.refl _ _) _⟩
theorem l7_want (g a : Nat) (s : ByteArray) (b : Bool) (w : World) (h : RB w g s a b) (ha : a ≤ 1000) :
    Calls Tryd.prog 64 #[.pointer (some ⟨g, 0, none⟩), .int .u8 41] w fun e w' => e = .returned (.tuple #[]) ∧ RB w' g s (a + 1) (b || Bdd.byte s a != 41) ∧ Below g w w' := by
  by_cases hc : Bdd.byte s a = 41
  · have hn : (((Bdd.byte s a : Nat) : Int) != 41) = false := by rw [hc]; rfl
    go_enter Tryd.func64, Tryd.ntmps64
    go_wp2_with fail
    refine (l7_next g a s b _ h).mono ?_
    rintro e w1 ⟨rfl, hb1⟩
    have h1 := h.down hb1
    obtain ⟨c0, c1, c2, f1, f2⟩ := h1.cells
    have HE := hide (show RB (w1.setCell ⟨g, 1, none⟩ (.int .i64 ((a + 1 : Nat) : Int))) g s (a + 1) (b || Bdd.byte s a != 41) ∧ Below g w (w1.setCell ⟨g, 1, none⟩ (.int .i64 ((a + 1 : Nat) : Int))) from ⟨by rw [hc]; simpa using h1.at (a + 1), (hb1.mono (Nat.le_of_lt h.lt)).setCell (p := ⟨g, 1, none⟩) (Nat.le_refl _) _⟩)
    clear h1 hb1 h c0 c2 f2 hc
    go_wp2
    go_end0
    exact ⟨rfl, HE.out⟩
  · have hn : (((Bdd.byte s a : Nat) : Int) != 41) = true := by simp; omega
    go_enter Tryd.func64, Tryd.ntmps64
    go_wp2_with fail
    refine (l7_next g a s b _ h).mono ?_
    rintro e w1 ⟨rfl, hb1⟩
    have h1 := h.down hb1
    obtain ⟨c0, c1, c2, f1, f2⟩ := h1.cells
    have h2 := h1.bad true
    obtain ⟨d0, d1, d2, g1, g2⟩ := h2.cells
    have HE := hide (show RB ((w1.setCell ⟨g, 2, none⟩ (.bool true)).setCell ⟨g, 1, none⟩ (.int .i64 ((a + 1 : Nat) : Int))) g s (a + 1) (b || Bdd.byte s a != 41) ∧ Below g w ((w1.setCell ⟨g, 2, none⟩ (.bool true)).setCell ⟨g, 1, none⟩ (.int .i64 ((a + 1 : Nat) : Int))) from ⟨by rw [show (b || Bdd.byte s a != 41) = true by simp [hc]]; exact h2.at (a + 1), ((hb1.mono (Nat.le_of_lt h.lt)).setCell (p := ⟨g, 2, none⟩) (Nat.le_refl _) _).setCell (p := ⟨g, 1, none⟩) (Nat.le_refl _) _⟩)
    clear h1 hb1 h c0 hc h2
    go_wp2
    go_end0
    exact ⟨rfl, HE.out⟩
namespace M
open Bdd
/-- What the specification's form tells, with so much fuel: the place behind, or bad. -/
def Rel (s : ByteArray) (f p : Nat) (b : Bool) (x : T) (a' : Nat) (b' : Bool) : Prop :=
  (b = true ∧ a' = p + 1 ∧ b' = true) ∨ (b = false ∧ ((prs s f p = some (x, a') ∧ b' = false) ∨ (prs s f p = none ∧ a' ≤ s.size + 3 * f ∧ b' = true)))
def Forms (s : ByteArray) (f : Nat) : Prop := ∀ (g a : Nat) (b : Bool) (w : World), RB w g s a b → a ≤ 900 → (b = false → a ≤ s.size + 1 ∧ s.size - a < f) →
  Calls Tryd.prog 55 #[.pointer (some ⟨g, 0, none⟩)] w fun e w' => ∃ x a' b', e = .returned (uv x) ∧ RB w' g s a' b' ∧ Below g w w' ∧ Rel s f a b x a' b'
end M
namespace M
/-- The reader, behind a world. -/
def RP (w0 w : World) (g : Nat) (s : ByteArray) (a : Nat) (b : Bool) : Prop := RB w g s a b ∧ Below g w0 w
theorem RP.inc {w0 w : World} {g a : Nat} {s : ByteArray} {b : Bool} (h : RP w0 w g s a b) : RP w0 (w.setCell ⟨g, 1, none⟩ (.int .i64 ((a : Int) + 1))) g s (a + 1) b := ⟨h.1.at (a + 1), h.2.setCell (p := ⟨g, 1, none⟩) (Nat.le_refl _) _⟩
theorem RP.bad {w0 w : World} {g a : Nat} {s : ByteArray} {b : Bool} (h : RP w0 w g s a b) : RP w0 (w.setCell ⟨g, 2, none⟩ (.bool true)) g s a true := ⟨h.1.bad true, h.2.setCell (p := ⟨g, 2, none⟩) (Nat.le_refl _) _⟩
theorem RP.down {w0 w w' : World} {g a : Nat} {s : ByteArray} {b : Bool} (h : RP w0 w g s a b) (hb : Below w.heap.size w w') : RP w0 w' g s a b := ⟨h.1.down hb, h.2.trans (hb.mono (Nat.le_of_lt h.1.lt))⟩
theorem RP.next {w0 w w' : World} {g a a' : Nat} {s : ByteArray} {b b' : Bool} (h : RP w0 w g s a b) (hr : RB w' g s a' b') (hb : Below g w w') : RP w0 w' g s a' b' := ⟨hr, h.2.trans hb⟩
def NotA (w w' : World) (g : Nat) (s : ByteArray) (f p : Nat) (e : Ending) : Prop := ∃ x a' b', e = .returned (uv (~~~x)) ∧ RP w w' g s a' b' ∧ Rel s f p false x a' b'
def ParA (w w' : World) (g : Nat) (s : ByteArray) (f p : Nat) (e : Ending) : Prop := ∃ x y z a1 b1 a2 b2, Rel s f p false x a1 b1 ∧ Rel s f (a1 + 1) b1 y a2 b2 ∧ e = .returned (uv z) ∧ RP w w' g s (a2 + 1) (b2 || Bdd.byte s a2 != 41 || (Bdd.opT (Bdd.byte s a1) x y).isNone) ∧ ∀ t, Bdd.opT (Bdd.byte s a1) x y = some t → z = t
theorem Rel.le {s : ByteArray} {f p : Nat} {b : Bool} {x : Bdd.T} {a' : Nat} {b' : Bool} (h : Rel s f p b x a' b') (hs : s.size ≤ 60) (hf : f ≤ 61) {P : Nat} (hp : p ≤ P) (hP : 300 ≤ P) : a' ≤ P + 1 := by
  rcases h with ⟨_, h, _⟩ | ⟨_, ⟨h, _⟩ | ⟨_, h, _⟩⟩
  · omega
  · have := Bdd.prs_pos s f p x a' h; omega
  · omega
theorem Rel.fuel {s : ByteArray} {f p : Nat} {x : Bdd.T} {a' : Nat} {b' : Bool} (h : Rel s f p false x a' b') (hb : b' = false) : p < a' ∧ a' ≤ s.size := by
  subst hb
  rcases h with ⟨h, _⟩ | ⟨_, ⟨h, _⟩ | ⟨_, _, h⟩⟩
  · cases h
  · exact Bdd.prs_pos s f p x a' h
  · cases h
theorem RB.p {w : World} {g a : Nat} {s : ByteArray} {b : Bool} (h : RB w g s a b) : RP w w g s a b := ⟨h, Below.refl _ _⟩
end M
theorem form_bad (g a : Nat) (s : ByteArray) (w : World) (h : RB w g s a true) (ha : a ≤ 1000) :
    Calls Tryd.prog 55 #[.pointer (some ⟨g, 0, none⟩)] w fun e w' => e = .returned (uv 0) ∧ RP w w' g s (a + 1) true := by
  go_enter Tryd.func55, Tryd.ntmps55
  go_wp2_with fail
  refine (l7_next g a s true _ h).mono ?_
  rintro e w1 ⟨rfl, hb1⟩
  have h1 := h.p.down hb1
  obtain ⟨c0, c1, c2, f1, f2⟩ := h1.1.cells
  have h2 := h1.inc
  have HE := hide h2
  clear h1 hb1 h h2
  go_wp2
  go_ret
  exact ⟨rfl, HE.out⟩
theorem form_0 (g a : Nat) (s : ByteArray) (w : World) (h : RB w g s a false) (ha : a ≤ 1000) (hc : Bdd.byte s a = 48) :
    Calls Tryd.prog 55 #[.pointer (some ⟨g, 0, none⟩)] w fun e w' => e = .returned (uv 0) ∧ RP w w' g s (a + 1) false := by
  go_enter Tryd.func55, Tryd.ntmps55
  go_wp2_with fail
  refine (l7_next g a s false _ h).mono ?_
  rintro e w1 ⟨rfl, hb1⟩
  have h1 := h.p.down hb1
  obtain ⟨c0, c1, c2, f1, f2⟩ := h1.1.cells
  have h2 := h1.inc
  have HE := hide h2
  rw [hc]
  clear h1 hb1 h h2 hc
  go_wp2
  go_ret
  exact ⟨rfl, HE.out⟩
theorem form_1 (g a : Nat) (s : ByteArray) (w : World) (h : RB w g s a false) (ha : a ≤ 1000) (hc : Bdd.byte s a = 49) :
    Calls Tryd.prog 55 #[.pointer (some ⟨g, 0, none⟩)] w fun e w' => e = .returned (uv Bdd.all1) ∧ RP w w' g s (a + 1) false := by
  go_enter Tryd.func55, Tryd.ntmps55
  go_wp2_with fail
  refine (l7_next g a s false _ h).mono ?_
  rintro e w1 ⟨rfl, hb1⟩
  have h1 := h.p.down hb1
  obtain ⟨c0, c1, c2, f1, f2⟩ := h1.1.cells
  have h2 := h1.inc
  have HE := hide h2
  rw [hc]
  clear h1 hb1 h h2 hc
  go_wp2
  go_ret
  exact ⟨rfl, HE.out⟩
theorem form_v (g a : Nat) (s : ByteArray) (k : Nat) (hk : k < 6) (w : World) (h : RB w g s a false) (ha : a ≤ 1000) (hc : Bdd.byte s a = 97 + k) :
    Calls Tryd.prog 55 #[.pointer (some ⟨g, 0, none⟩)] w fun e w' => e = .returned (uv (Bdd.vt k)) ∧ RP w w' g s (a + 1) false := by
  have e1 : ((97 + (k : Int)) == 48) = false := by simp; omega
  have e2 : ((97 + (k : Int)) == 49) = false := by simp; omega
  have e3 : decide ((97 : Int) ≤ 97 + (k : Int)) = true := by simp; omega
  have e4 : decide (97 + (k : Int) ≤ 102) = true := by simp; omega
  go_enter Tryd.func55, Tryd.ntmps55
  go_wp2_with fail
  refine (l7_next g a s false _ h).mono ?_
  rintro e w1 ⟨rfl, hb1⟩
  have h1 := h.p.down hb1
  obtain ⟨c0, c1, c2, f1, f2⟩ := h1.1.cells
  have h2 := h1.inc
  have HE := hide h2
  rw [hc]
  clear h1 hb1 h h2 hc
  go_wp2_with fail
  rw [show (97 : Int) + (k : Int) - 97 = (k : Int) by omega]
  refine (l7_var k hk _).mono ?_
  rintro e w3 ⟨rfl, rfl⟩
  go_wp2
  go_ret
  exact ⟨rfl, HE.out⟩
theorem form_x (g a : Nat) (s : ByteArray) (c : Nat) (w : World) (h : RB w g s a false) (ha : a ≤ 1000) (hc : Bdd.byte s a = c) (k1 : c ≠ 48) (k2 : c ≠ 49) (k3 : ¬ (97 ≤ c ∧ c < 103)) (k4 : c ≠ 33) (k5 : c ≠ 40) :
    Calls Tryd.prog 55 #[.pointer (some ⟨g, 0, none⟩)] w fun e w' => e = .returned (uv 0) ∧ RP w w' g s (a + 1) true := by
  have e1 : ((c : Int) == 48) = false := by simp; omega
  have e2 : ((c : Int) == 49) = false := by simp; omega
  have e5 : ((c : Int) == 33) = false := by simp; omega
  have e6 : ((c : Int) == 40) = false := by simp; omega
  rcases (show c < 97 ∨ (97 ≤ c ∧ 103 ≤ c) by omega) with hk | ⟨hk, hk'⟩
  · have e3 : decide ((97 : Int) ≤ (c : Int)) = false := by simp; omega
    clear k1 k2 k3 k4 k5 hk
    go_enter Tryd.func55, Tryd.ntmps55
    go_wp2_with fail
    refine (l7_next g a s false _ h).mono ?_
    rintro e w1 ⟨rfl, hb1⟩
    have h1 := h.p.down hb1
    obtain ⟨c0, c1, c2, f1, f2⟩ := h1.1.cells
    have h2 := h1.inc
    have h3 := h2.bad
    have HE := hide h3
    rw [hc]
    clear h1 hb1 h h2 hc h3
    go_wp2
    go_ret
    exact ⟨rfl, HE.out⟩
  · have e3 : decide ((97 : Int) ≤ (c : Int)) = true := by simp; omega
    have e4 : decide ((c : Int) ≤ 102) = false := by simp; omega
    clear k1 k2 k3 k4 k5 hk hk'
    go_enter Tryd.func55, Tryd.ntmps55
    go_wp2_with fail
    refine (l7_next g a s false _ h).mono ?_
    rintro e w1 ⟨rfl, hb1⟩
    have h1 := h.p.down hb1
    obtain ⟨c0, c1, c2, f1, f2⟩ := h1.1.cells
    have h2 := h1.inc
    have h3 := h2.bad
    have HE := hide h3
    rw [hc]
    clear h1 hb1 h h2 hc h3
    go_wp2
    go_ret
    exact ⟨rfl, HE.out⟩
theorem form_n (g a : Nat) (s : ByteArray) (f : Nat) (w : World) (h : RB w g s a false) (ha : a ≤ 1000) (hc : Bdd.byte s a = 33) (hF : Forms s f) (ha2 : a + 1 ≤ 900) (hp : a + 1 ≤ s.size + 1 ∧ s.size - (a + 1) < f) :
    Calls Tryd.prog 55 #[.pointer (some ⟨g, 0, none⟩)] w fun e w' => NotA w w' g s f (a + 1) e := by
  go_enter Tryd.func55, Tryd.ntmps55
  go_wp2_with fail
  refine (l7_next g a s false _ h).mono ?_
  rintro e w1 ⟨rfl, hb1⟩
  have h1 := h.p.down hb1
  obtain ⟨c0, c1, c2, f1, f2⟩ := h1.1.cells
  have h2 := h1.inc
  have HF := hide (hF g (a + 1) false _ h2.1 ha2 (fun _ => hp))
  rw [hc]
  have H2 := hide h2
  clear h1 hb1 h h2 hc hF ha2 hp
  go_wp2_with fail
  refine HF.out.mono ?_
  rintro e w3 ⟨x, a3, b3, rfl, hr3, hb3, hl⟩
  have hx := u_not x
  go_wp2
  go_ret
  exact ⟨x, a3, b3, rfl, H2.out.next hr3 hb3, hl⟩
theorem form_p (g a : Nat) (s : ByteArray) (f : Nat) (w : World) (h : RB w g s a false) (ha : a < s.size) (hc : Bdd.byte s a = 40) (hF : Forms s f) (hs : s.size ≤ 60) (hf : f ≤ 61) (hfu : s.size - (a + 1) < f) :
    Calls Tryd.prog 55 #[.pointer (some ⟨g, 0, none⟩)] w fun e w' => ParA w w' g s f (a + 1) e := by
  go_enter Tryd.func55, Tryd.ntmps55
  go_wp2_with fail
  refine (l7_next g a s false _ h).mono ?_
  rintro e w1 ⟨rfl, hb1⟩
  have h1 := h.p.down hb1
  obtain ⟨c0, c1, c2, f1, f2⟩ := h1.1.cells
  have h2 := h1.inc
  have HF := hide hF
  have HF1 := hide (hF g (a + 1) false _ h2.1 (by omega) (fun _ => ⟨by omega, by omega⟩))
  have H2 := hide h2
  have HA := hide (show a ≤ 60 by omega)
  have HFu := hide (show s.size ≤ 60 ∧ f ≤ 61 ∧ s.size - (a + 1) < f from ⟨hs, hf, hfu⟩)
  rw [hc]
  clear h1 hb1 h h2 hc hF hs hf hfu ha
  have ha : a ≤ 1000 := by have := HA.out; omega
  go_wp2_with fail
  refine HF1.out.mono ?_
  rintro e w3 ⟨x, a3, b3, rfl, hr3, hb3, hl3⟩
  have h3 := H2.out.next hr3 hb3
  have hl := hl3.le HFu.out.1 HFu.out.2.1 (P := 300) (by have := HA.out; omega) (by omega)
  have ha3 : a3 ≤ 1000 := by omega
  have hg3 : b3 = false → a3 + 1 ≤ s.size + 1 ∧ s.size - (a3 + 1) < f := fun hb => by have := hl3.fuel hb; have := HFu.out.2.2; omega
  have HF2 := hide (show ∀ w, RB w g s (a3 + 1) b3 → _ from fun w hw => HF.out g (a3 + 1) b3 w hw (by omega) hg3)
  have HL := hide hl
  have HR := hide hl3
  have H3 := hide h3
  clear HF HF1 H2 hr3 hb3 hl hl3 h3 hg3 c0 c1 c2 f1 f2 ha
  go_wp2_with fail
  refine (l7_next g a3 s b3 _ H3.out.1).mono ?_
  rintro e w4 ⟨rfl, hb4⟩
  have h4 := H3.out.down hb4
  obtain ⟨c0, c1, c2, f1, f2⟩ := h4.1.cells
  have h5 := h4.inc
  have H5 := hide h5
  clear H3 hb4 h4 h5
  go_wp2_with fail
  refine (HF2.out _ H5.out.1).mono ?_
  rintro e w6 ⟨y, a6, b6, rfl, hr6, hb6, hl6⟩
  have h6 := H5.out.next hr6 hb6
  have ha6 : a6 ≤ 1000 := by have := hl6.le HFu.out.1 HFu.out.2.1 (P := 302) (by have := HL.out; omega) (by omega); omega
  have HR6 := hide hl6
  have H6 := hide h6
  clear HF2 H5 hr6 hb6 h6 hl6 c0 c1 c2 f1 f2 ha3
  go_wp2_with fail
  refine (l7_want g a6 s b6 _ H6.out.1 ha6).mono ?_
  rintro e w7 ⟨rfl, hr7, hb7⟩
  have H7 := hide (H6.out.next hr7 hb7)
  obtain ⟨c0, c1, c2, f1, f2⟩ := hr7.cells
  clear H6 hr7 hb7 ha6
  have u1 := u_and x y
  have u2 := u_or x y
  have u3 := u_xor x y
  obtain ⟨c, hc⟩ : ∃ c, Bdd.byte s a3 = c := ⟨_, rfl⟩
  by_cases k1 : c = 38
  · subst k1
    have HC := hide hc
    rw [hc]
    clear hc
    go_wp2
    go_ret
    exact ⟨x, y, _, a3, b3, a6, b6, HR.out, HR6.out, rfl, by rw [HC.out]; simpa [Bdd.opT] using H7.out, fun t ht => by rw [HC.out] at ht; simpa [Bdd.opT] using ht⟩
  by_cases k2 : c = 124
  · subst k2
    have HC := hide hc
    rw [hc]
    clear hc k1
    go_wp2
    go_ret
    exact ⟨x, y, _, a3, b3, a6, b6, HR.out, HR6.out, rfl, by rw [HC.out]; simpa [Bdd.opT] using H7.out, fun t ht => by rw [HC.out] at ht; simpa [Bdd.opT] using ht⟩
  by_cases k3 : c = 94
  · subst k3
    have HC := hide hc
    rw [hc]
    clear hc k1 k2
    go_wp2
    go_ret
    exact ⟨x, y, _, a3, b3, a6, b6, HR.out, HR6.out, rfl, by rw [HC.out]; simpa [Bdd.opT] using H7.out, fun t ht => by rw [HC.out] at ht; simpa [Bdd.opT] using ht⟩
  have HC := hide hc
  have e1 : ((c : Int) == 38) = false := by simp; omega
  have e2 : ((c : Int) == 124) = false := by simp; omega
  have e3 : ((c : Int) == 94) = false := by simp; omega
  have HN := hide (show Bdd.opT c x y = none by unfold Bdd.opT; rw [if_neg k1, if_neg k2, if_neg k3])
  have H8 := hide H7.out.bad
  rw [hc]
  clear hc k1 k2 k3 H7
  go_wp2
  go_ret
  exact ⟨x, y, 0, a3, b3, a6, b6, HR.out, HR6.out, rfl, by rw [HC.out, HN.out]; simpa using H8.out, fun t ht => by rw [HC.out, HN.out] at ht; cases ht⟩
open Bdd (prs par one opT byte formT all1 vt prs_pos byte_lt) in
theorem forms_ok (s : ByteArray) (hs : s.size ≤ 60) : ∀ f, f ≤ 62 → Forms s f := by
  intro f
  induction f with
  | zero =>
    intro _ g a b w h ha hb
    cases b
    · have := hb rfl; omega
    · refine (form_bad g a s w h (by omega)).mono ?_
      rintro e w' ⟨rfl, hr⟩
      exact ⟨0, a + 1, true, rfl, hr.1, hr.2, .inl ⟨rfl, rfl, rfl⟩⟩
  | succ f ih =>
    intro hf g a b w h ha hb
    cases b
    · obtain ⟨hp, hfu⟩ := hb rfl
      have plain : ∀ (x : Bdd.T) (b' : Bool), prs s (f + 1) a = (if b' then none else some (x, a + 1)) → (Calls Tryd.prog 55 #[.pointer (some ⟨g, 0, none⟩)] w fun e w' => e = .returned (uv x) ∧ RP w w' g s (a + 1) b') → Calls Tryd.prog 55 #[.pointer (some ⟨g, 0, none⟩)] w fun e w' => ∃ x a' b', e = .returned (uv x) ∧ RB w' g s a' b' ∧ Below g w w' ∧ Rel s (f + 1) a false x a' b' := fun x b' hx hk => by
        refine hk.mono ?_
        rintro e w' ⟨rfl, hr⟩
        refine ⟨x, a + 1, b', rfl, hr.1, hr.2, .inr ⟨rfl, ?_⟩⟩
        cases b'
        · exact .inl ⟨hx, rfl⟩
        · exact .inr ⟨hx, by omega, rfl⟩
      by_cases hlt : a < s.size
      · have e0 : prs s (f + 1) a = one (prs s f) s (byte s a) a := by rw [prs, if_pos hlt]
        unfold one at e0
        by_cases e1 : byte s a = 48
        · rw [if_pos e1] at e0; exact plain 0 false e0 (form_0 g a s w h (by omega) e1)
        by_cases e2 : byte s a = 49
        · rw [if_neg e1, if_pos e2] at e0; exact plain _ false e0 (form_1 g a s w h (by omega) e2)
        by_cases e3 : 97 ≤ byte s a ∧ byte s a < 103
        · rw [if_neg e1, if_neg e2, if_pos e3] at e0; exact plain _ false e0 (form_v g a s (byte s a - 97) (by omega) w h (by omega) (by omega))
        by_cases e4 : byte s a = 33
        · rw [if_neg e1, if_neg e2, if_neg e3, if_pos e4] at e0
          refine (form_n g a s f w h (by omega) e4 (ih (by omega)) (by omega) ⟨by omega, by omega⟩).mono ?_
          rintro e w' ⟨x, a', b', rfl, hr, hl⟩
          refine ⟨_, a', b', rfl, hr.1, hr.2, .inr ⟨rfl, ?_⟩⟩
          rcases hl with ⟨hc, _⟩ | ⟨_, ⟨hl, rfl⟩ | ⟨hl, hle, rfl⟩⟩
          · cases hc
          · rw [hl] at e0; exact .inl ⟨e0, rfl⟩
          · rw [hl] at e0; exact .inr ⟨e0, by omega, rfl⟩
        by_cases e5 : byte s a = 40
        · rw [if_neg e1, if_neg e2, if_neg e3, if_neg e4, if_pos e5] at e0
          refine (form_p g a s f w h hlt e5 (ih (by omega)) hs (by omega) (by omega)).mono ?_
          rintro e w' ⟨x, y, z, a1, b1, a2, b2, hl1, hl2, rfl, hr, hz⟩
          refine ⟨_, _, _, rfl, hr.1, hr.2, .inr ⟨rfl, ?_⟩⟩
          unfold par at e0
          rcases hl1 with ⟨hc, _⟩ | ⟨_, ⟨hl1, rfl⟩ | ⟨hl1, hle1, rfl⟩⟩
          · cases hc
          · rw [hl1] at e0
            simp only at e0
            have hq := prs_pos _ _ _ _ _ hl1
            rcases hl2 with ⟨hc, _⟩ | ⟨_, ⟨hl2, rfl⟩ | ⟨hl2, hle2, rfl⟩⟩
            · cases hc
            · have hq2 := prs_pos _ _ _ _ _ hl2
              rw [if_pos (by omega), hl2] at e0
              simp only at e0
              by_cases hcl : a2 < s.size ∧ byte s a2 = 41
              · rw [if_pos hcl] at e0
                cases ho : opT (byte s a1) x y with
                | none => rw [ho] at e0; exact .inr ⟨e0, by omega, by simp⟩
                | some t =>
                  rw [ho] at e0
                  rw [hz t ho]
                  exact .inl ⟨e0, by simp [hcl.2]⟩
              · rw [if_neg hcl] at e0
                refine .inr ⟨e0, by omega, ?_⟩
                have : byte s a2 ≠ 41 := fun hb => by
                  by_cases h2 : a2 < s.size
                  · exact hcl ⟨h2, hb⟩
                  · rw [byte_out h2] at hb; omega
                simp [this]
            · refine .inr ⟨?_, by omega, by simp⟩
              by_cases hq3 : a1 < s.size
              · rw [if_pos hq3, hl2] at e0; exact e0
              · rw [if_neg hq3] at e0; exact e0
          · rw [hl1] at e0
            rcases hl2 with ⟨_, h2, rfl⟩ | ⟨hc, _⟩
            · exact .inr ⟨e0, by omega, by simp⟩
            · cases hc
        · rw [if_neg e1, if_neg e2, if_neg e3, if_neg e4, if_neg e5] at e0
          exact plain 0 true e0 (form_x g a s (byte s a) w h (by omega) rfl e1 e2 e3 e4 e5)
      · have e0 : prs s (f + 1) a = none := by rw [prs, if_neg hlt]
        have hz := byte_out hlt
        exact plain 0 true e0 (form_x g a s 0 w h (by omega) hz (by omega) (by omega) (by omega) (by omega) (by omega))
    · refine (form_bad g a s w h (by omega)).mono ?_
      rintro e w' ⟨rfl, hr⟩
      exact ⟨0, a + 1, true, rfl, hr.1, hr.2, .inl ⟨rfl, rfl, rfl⟩⟩
end Go.Proofs.YtfiooclkefmijaaDoor

/-
  The program's diagram of a table: nodeFor goes through the variables; diagramFor.
-/
import Derived.Test.YtfiooclkefmijaaDoorBddR
namespace Go.Proofs.YtfiooclkefmijaaDoor
open Go.RowKit M
open Clk (upd upd_same upd_other)
namespace M
open Bdd
theorem put_len (c : Ch) (l : List Ch) : (put c l).2.length ≤ l.length + 1 := by
  unfold put; split
  · simp only; omega
  · simp
theorem nod_len : ∀ (k : Nat) (t : T) (v : Nat) (l : List Ch), (nod k t v l).2.length + 1 ≤ l.length + 2 ^ k
  | 0, t, v, l => by simp [nod]
  | k + 1, t, v, l => by
    have h1 := nod_len k (hf t v false) (v + 1) l
    have h2 := nod_len k (hf t v true) (v + 1) (nod k (hf t v false) (v + 1) l).2
    have h3 := put_len ⟨v, (nod k (hf t v false) (v + 1) l).1, (nod k (hf t v true) (v + 1) (nod k (hf t v false) (v + 1) l).2).1⟩ (nod k (hf t v true) (v + 1) (nod k (hf t v false) (v + 1) l).2).2
    have h4 : 0 < 2 ^ k := Nat.two_pow_pos k
    rw [nod, Nat.pow_succ]
    split
    · simp only; omega
    split
    · simp only; omega
    split
    · simp only; omega
    · omega
theorem OV.under {B : Nat} {w w' : World} (h : OV w) (hb : Below B w w') (hB : 0 < B) : OV w' := fun k hk => by
  rw [hb.cell (p := ⟨0, k, none⟩) hB]; exact h k hk
theorem tn_zero {t : T} (h : t ≠ 0) : (tn t == 0) = false := by
  have : t.toNat ≠ 0 := fun e => h (BitVec.eq_of_toNat_eq (by simpa using e))
  simp only [tn_def, beq_eq_false_iff_ne, ne_eq]; omega
theorem tn_all {t : T} (h : t ≠ all1) : (tn t == 18446744073709551615) = false := by
  have : t.toNat ≠ 18446744073709551615 := fun e => h (BitVec.eq_of_toNat_eq e)
  simp only [tn_def, beq_eq_false_iff_ne, ne_eq]; omega
theorem tn_0 : tn 0 = 0 := rfl
theorem tn_1 : tn all1 = 18446744073709551615 := rfl
def Nodes (k : Nat) : Prop := ∀ (t : T) (v : Nat) (l : List Ch) (B S : Nat) (w : World), k + v = 6 → (∀ u, u < v → Ind t u) → l.length + 2 ^ k ≤ 900 → OV w → 0 < B → (∃ x m P, Sh w B S l x m P) →
  Calls Tryd.prog 58 #[.pointer (some ⟨S, 0, none⟩), uv t, .int .i64 (v : Int)] w fun e w' => KeepA w B S (nod k t v l).2 (nod k t v l).1 e w'
end M
theorem node_no (v : Int) (l : List Bdd.Ch) (B S : Nat) (w : World) (h : ∃ x m P, Sh w B S l x m P) :
    Calls Tryd.prog 58 #[.pointer (some ⟨S, 0, none⟩), uv 0, .int .i64 v] w fun e w' => KeepA w B S l (-2) e w' := by
  have HH := hide h
  rw [show uv 0 = .int .u64 0 from rfl]
  clear h
  go_enter Tryd.func58, Tryd.ntmps58
  go_wp2
  go_ret
  exact ⟨rfl, HH.out, Below.refl _ _⟩
theorem node_yes (v : Int) (l : List Bdd.Ch) (B S : Nat) (w : World) (h : ∃ x m P, Sh w B S l x m P) :
    Calls Tryd.prog 58 #[.pointer (some ⟨S, 0, none⟩), uv Bdd.all1, .int .i64 v] w fun e w' => KeepA w B S l (-1) e w' := by
  have HH := hide h
  rw [show uv Bdd.all1 = .int .u64 18446744073709551615 from rfl]
  clear h
  go_enter Tryd.func58, Tryd.ntmps58
  go_wp2
  go_ret
  exact ⟨rfl, HH.out, Below.refl _ _⟩
theorem keep_ok (B S : Nat) (l : List Bdd.Ch) (c : Bdd.Ch) (w : World) (h : ∃ x m P, Sh w B S l x m P) (hl : l.length ≤ 900) :
    Calls Tryd.prog 66 #[.pointer (some ⟨S, 0, none⟩), chV c] w fun e w' => KeepA w B S (Bdd.put c l).2 (Bdd.put c l).1 e w' := by
  obtain ⟨x, m, P, h⟩ := h
  unfold Bdd.put
  by_cases hc : c ∈ l
  · rw [if_pos hc]; exact keep_old B S m l x P c w h hc
  · rw [if_neg hc]; exact keep_new B S m l x P c w h hc hl
theorem node_step (k : Nat) (ih : Nodes k) (t : Bdd.T) (v : Nat) (l : List Bdd.Ch) (B S : Nat) (w : World) (hk : k + 1 + v = 6) (hI : ∀ u, u < v → Bdd.Ind t u) (hl : l.length + 2 ^ (k + 1) ≤ 900) (ho : OV w) (hB : 0 < B) (h : ∃ x m P, Sh w B S l x m P) (t0 : t ≠ 0) (t1 : t ≠ Bdd.all1) :
    Calls Tryd.prog 58 #[.pointer (some ⟨S, 0, none⟩), uv t, .int .i64 (v : Int)] w fun e w' => KeepA w B S (Bdd.nod (k + 1) t v l).2 (Bdd.nod (k + 1) t v l).1 e w' := by
  have hv : v < 6 := by omega
  have hn : ∀ b, ∀ u, u < v + 1 → Bdd.Ind (Bdd.hf t v b) u := fun b u hu => by
    by_cases e : u = v
    · subst e; exact Bdd.ind_hf t hv _
    · exact (hI u (by omega)).keep (by omega) hv _
  rw [Nat.pow_succ] at hl
  have hp : 0 < 2 ^ k := Nat.two_pow_pos k
  have n1 := nod_len k (Bdd.hf t v false) (v + 1) l
  have n2 := nod_len k (Bdd.hf t v true) (v + 1) (Bdd.nod k (Bdd.hf t v false) (v + 1) l).2
  have HW := hide (fun b w (ho : OV w) => with_v t v hv b w ho)
  have H1 := hide (ih (Bdd.hf t v false) (v + 1) l B S w (by omega) (hn false) (by omega) ho hB h)
  have H2 := hide (fun w1 (ho : OV w1) (h1 : ∃ x m P, Sh w1 B S (Bdd.nod k (Bdd.hf t v false) (v + 1) l).2 x m P) => ih (Bdd.hf t v true) (v + 1) (Bdd.nod k (Bdd.hf t v false) (v + 1) l).2 B S w1 (by omega) (hn true) (by omega) ho hB h1)
  have HL := hide (show (Bdd.nod k (Bdd.hf t v true) (v + 1) (Bdd.nod k (Bdd.hf t v false) (v + 1) l).2).2.length ≤ 900 by omega)
  have HE := hide (show Bdd.nod (k + 1) t v l = if (Bdd.nod k (Bdd.hf t v false) (v + 1) l).1 = (Bdd.nod k (Bdd.hf t v true) (v + 1) (Bdd.nod k (Bdd.hf t v false) (v + 1) l).2).1 then ((Bdd.nod k (Bdd.hf t v false) (v + 1) l).1, (Bdd.nod k (Bdd.hf t v true) (v + 1) (Bdd.nod k (Bdd.hf t v false) (v + 1) l).2).2) else
    Bdd.put ⟨v, (Bdd.nod k (Bdd.hf t v false) (v + 1) l).1, (Bdd.nod k (Bdd.hf t v true) (v + 1) (Bdd.nod k (Bdd.hf t v false) (v + 1) l).2).1⟩ (Bdd.nod k (Bdd.hf t v true) (v + 1) (Bdd.nod k (Bdd.hf t v false) (v + 1) l).2).2 from by rw [Bdd.nod, if_neg t0, if_neg t1])
  generalize Bdd.nod (k + 1) t v l = N at *
  generalize Bdd.nod k (Bdd.hf t v false) (v + 1) l = A at *
  generalize Bdd.nod k (Bdd.hf t v true) (v + 1) A.2 = C at *
  obtain ⟨a, la⟩ := A
  obtain ⟨b, lb⟩ := C
  simp only at *
  have z0 := tn_zero t0
  have z1 := tn_all t1
  have HO := hide ho
  have hvw : (v : Int) ≤ 5 := by omega
  clear ih hI hl ho h t0 t1 hn n1 n2 hp hk hv
  have HB := hide hB
  clear hB
  by_cases hab : a = b
  · subst hab
    have hd : (a == a) = true := by simp
    rw [if_pos rfl] at HE
    go_enter Tryd.func58, Tryd.ntmps58
    go_wp2_with fail
    refine (HW.out false w HO.out).mono ?_
    rintro e w1 ⟨rfl, rfl⟩
    go_wp2_with fail
    refine H1.out.mono ?_
    rintro e w2 ⟨rfl, hs2, hb2⟩
    have ho2 := HO.out.under hb2 HB.out
    go_wp2_with fail
    refine (HW.out true _ ho2).mono ?_
    rintro e w3 ⟨rfl, rfl⟩
    go_wp2_with fail
    refine (H2.out _ ho2 hs2).mono ?_
    rintro e w4 ⟨rfl, hs4, hb4⟩
    have hb := hb2.trans hb4
    clear H1 H2 hs2 hb2 hb4 ho2
    go_wp2
    go_ret
    rw [HE.out]
    exact ⟨rfl, hs4, hb⟩
  · have hd : (a == b) = false := by simp [hab]
    rw [if_neg hab] at HE
    go_enter Tryd.func58, Tryd.ntmps58
    go_wp2_with fail
    refine (HW.out false w HO.out).mono ?_
    rintro e w1 ⟨rfl, rfl⟩
    go_wp2_with fail
    refine H1.out.mono ?_
    rintro e w2 ⟨rfl, hs2, hb2⟩
    have ho2 := HO.out.under hb2 HB.out
    go_wp2_with fail
    refine (HW.out true _ ho2).mono ?_
    rintro e w3 ⟨rfl, rfl⟩
    go_wp2_with fail
    refine (H2.out _ ho2 hs2).mono ?_
    rintro e w4 ⟨rfl, hs4, hb4⟩
    have hb := hb2.trans hb4
    clear H1 H2 hs2 hb2 hb4 ho2
    go_wp2_with fail
    refine (keep_ok B S lb ⟨v, a, b⟩ w4 hs4 HL.out).mono ?_
    rintro e w5 ⟨rfl, hs5, hb5⟩
    clear hs4
    go_wp2
    go_ret
    rw [HE.out]
    exact ⟨rfl, hs5, hb.trans hb5⟩
theorem nodes_ok : ∀ k, Nodes k := by
  intro k
  induction k with
  | zero =>
    intro t v l B S w hk hI hl ho hB h
    rcases Bdd.none_left (t := t) (fun u hu => hI u (by omega)) with rfl | rfl
    · exact node_no _ l B S w h
    · exact node_yes _ l B S w h
  | succ k ih =>
    intro t v l B S w hk hI hl ho hB h
    by_cases t0 : t = 0
    · subst t0
      rw [show Bdd.nod (k + 1) 0 v l = (-2, l) by rw [Bdd.nod, if_pos rfl]]
      exact node_no _ l B S w h
    by_cases t1 : t = Bdd.all1
    · subst t1
      rw [show Bdd.nod (k + 1) Bdd.all1 v l = (-1, l) by rw [Bdd.nod, if_neg t0, if_pos rfl]]
      exact node_yes _ l B S w h
    exact node_step k ih t v l B S w hk hI hl ho hB h t0 t1
end Go.Proofs.YtfiooclkefmijaaDoor

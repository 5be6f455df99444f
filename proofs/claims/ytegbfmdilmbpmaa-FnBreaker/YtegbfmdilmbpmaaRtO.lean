/-
  Policies, breakers, calls and slices of calls that came in: read as data.
-/
import Derived.Test.YtegbfmdilmbpmaaRtB
import Derived.Deep.Slices
import Derived.Deep.SlicePairs
import Derived.Lib.SmallJoins
import Derived.ProofKit
import Derived.OpenShut
namespace Go.Proofs.Ytegbfmdilmbpmaa
open Go.ChangeShapes Go.WideShapes Go.ChangeAt Go.RowKit Go.Joins Go.Deep
open M
set_option maxRecDepth 100000 in
theorem open_policy {H : Type} {enc : TypeId × Value → H} {W : World} {b0 : Nat} {v : Value} {d : DataW H} {p : List MemPlace}
    (hv : Value.okWide Try.prog W .any b0 23 v) (h : DataW.Trod enc Try.prog W 0 (fun _ => true) true 23 v d p) :
    ∃ (m : Po), v = pov m := by
  obtain ⟨v0, v1, v2, v3, y0, y1, y2, y3, n, rfl, -, -, t0, t1, t2, t3⟩ := open_agg4 Try.underlying23 (by kernel_rfl) (by kernel_rfl) hv h
  obtain ⟨x0, e0, -, -⟩ := DataW.trod_int Try.underlying3 t0
  obtain ⟨x1, e1, -, -⟩ := DataW.trod_int Try.underlying3 t1
  obtain ⟨x2, e2, -, -⟩ := DataW.trod_int Try.underlying3 t2
  obtain ⟨x3, e3, -, -⟩ := DataW.trod_int Try.underlying3 t3
  simp at e0 e1 e2 e3
  subst e0; subst e1; subst e2; subst e3
  exact ⟨⟨x0, x1, x2, x3⟩, rfl⟩
set_option maxRecDepth 100000 in
theorem open_call {H : Type} {enc : TypeId × Value → H} {W : World} {b0 : Nat} {v : Value} {d : DataW H} {p : List MemPlace}
    (hv : Value.okWide Try.prog W .any b0 47 v) (h : DataW.Trod enc Try.prog W 0 (fun _ => true) true 47 v d p) :
    ∃ (m : Cl), v = clv m := by
  obtain ⟨v0, v1, y0, y1, n, rfl, -, -, t0, t1⟩ := open_agg2 Try.underlying47 (by kernel_rfl) (by kernel_rfl) hv h
  obtain ⟨x0, e0, -, -⟩ := DataW.trod_int Try.underlying3 t0
  obtain ⟨x1, e1, -⟩ := DataW.trod_bool Try.underlying4 t1
  simp at e0 e1
  subst e0; subst e1
  exact ⟨⟨x0, x1⟩, rfl⟩
theorem array5 {α : Type} {cs : Array α} (h : cs.size = 5) : ∃ c0 c1 c2 c3 c4, cs = #[c0, c1, c2, c3, c4] := by
  obtain ⟨l⟩ := cs
  match l, h with
  | [c0, c1, c2, c3, c4], _ => exact ⟨c0, c1, c2, c3, c4, rfl⟩
theorem cellsInt1 : Try.prog.cellsOf 3 = 1 := by kernel_rfl
theorem cellsBool1 : Try.prog.cellsOf 4 = 1 := by kernel_rfl
theorem cellsLawBreaker : Try.prog.cellsOf 42 = 5 := by kernel_rfl
theorem cellsLawCall : Try.prog.cellsOf 47 = 2 := by kernel_rfl
set_option maxRecDepth 100000 in
theorem open_breaker {H : Type} {enc : TypeId × Value → H} {W : World} {b0 : Nat} {v : Value} {d : DataW H} {p : List MemPlace}
    (hv : Value.okWide Try.prog W .any b0 42 v) (h : DataW.Trod enc Try.prog W 0 (fun _ => true) true 42 v d p) :
    ∃ (m : Br), v = brv m := by
  obtain ⟨cs, rfl, hsz⟩ := okWide_struct Try.underlying42 hv
  obtain ⟨c0, c1, c2, c3, c4, rfl⟩ := array5 (hsz.trans cellsLawBreaker)
  obtain ⟨fuel, hf⟩ := h
  obtain ⟨xs, k, hk, hxy, _, hxl, hf⟩ := DataW.trod_struct Try.underlying42 hf
  match xs, hxl with
  | [y0, y1, y2, y3, y4], _ =>
    have g0 := hf 0 _ rfl
    have g1 := hf 1 _ rfl
    have g2 := hf 2 _ rfl
    have g3 := hf 3 _ rfl
    have g4 := hf 4 _ rfl
    simp [Value.cells, cellsInt1] at g0 g1 g2 g3 g4
    obtain ⟨x0, e0, -, -⟩ := DataW.trod_int Try.underlying3 g0
    obtain ⟨x1, e1, -, -⟩ := DataW.trod_int Try.underlying3 g1
    obtain ⟨x2, e2, -, -⟩ := DataW.trod_int Try.underlying3 g2
    obtain ⟨x3, e3, -, -⟩ := DataW.trod_int Try.underlying3 g3
    obtain ⟨x4, e4, -, -⟩ := DataW.trod_int Try.underlying3 g4
    simp at e0 e1 e2 e3 e4
    subst e0; subst e1; subst e2; subst e3; subst e4
    exact ⟨⟨x0, x1, x2, x3, x4⟩, rfl⟩
namespace M
/-- A slice of calls that is read. -/
def CallsOf (w : World) (v : Value) (n : Nat) (l : Nat → Cl) : Prop :=
  ∃ a cap, v = .slice a n cap ∧ (0 < n → ∃ b off, a = some ⟨b, off, none⟩ ∧ b < w.heap.size ∧ ∀ i, i < n → w.cell? ⟨b, off + i * 2, none⟩ = some (.int .i64 (l i).w) ∧ w.cell? ⟨b, off + i * 2 + 1, none⟩ = some (.bool (l i).y))
theorem CallsOf.below {w w' : World} {v : Value} {n : Nat} {l : Nat → Cl} (h : CallsOf w v n l) (hb : Below w.heap.size w w') : CallsOf w' v n l := by
  obtain ⟨a, cap, hv, hr⟩ := h
  refine ⟨a, cap, hv, fun hn => ?_⟩
  obtain ⟨b, off, ha, hlt, hrow⟩ := hr hn
  exact ⟨b, off, ha, Nat.lt_of_lt_of_le hlt hb.size, fun i hi => ⟨(hb.cell (p := ⟨b, off + i * 2, none⟩) hlt).trans (hrow i hi).1, (hb.cell (p := ⟨b, off + i * 2 + 1, none⟩) hlt).trans (hrow i hi).2⟩⟩
theorem CallsOf.form {w : World} {v : Value} {n : Nat} {l : Nat → Cl} (h : CallsOf w v n l) : ∃ a cap, v = .slice a n cap := by
  obtain ⟨a, cap, hv, _⟩ := h; exact ⟨a, cap, hv⟩
end M
theorem pick_q {α : Type} (z : α) {Pn : Nat → α → Prop} : ∀ n : Nat, (∀ i, i < n → ∃ e : α, Pn i e) → ∃ l : Nat → α, ∀ i, i < n → Pn i (l i)
  | 0, _ => ⟨fun _ => z, fun i h => absurd h (by omega)⟩
  | n + 1, h => by
    obtain ⟨l, hl⟩ := pick_q z n (fun i hi => h i (by omega))
    obtain ⟨e, he⟩ := h n (by omega)
    refine ⟨fun i => if i = n then e else l i, fun i hi => ?_⟩
    show Pn i (if i = n then e else l i)
    by_cases hin : i = n
    · subst hin; rw [if_pos rfl]; exact he
    · rw [if_neg hin]; exact hl i (by omega)
set_option maxRecDepth 100000 in
theorem trod_calls {H : Type} {enc : TypeId × Value → H} {W : World} {fuel : Nat} {v : Value} {x : DataW H × List MemPlace}
    (hf : DataW.trod enc Try.prog W 0 (fun _ => true) true fuel 53 [v] = some x) : ∃ n f, CallsOf W v n f ∧ n ≤ maxLen := by
  rcases open_slice Try.underlying53 hf with ⟨hcs, _⟩ | ⟨a, len, cap, m, n, D, Pl, hcs, _, hl, hm, hmm, _, hx⟩
  · simp at hcs
    subst hcs
    exact ⟨0, fun _ => ⟨0, false⟩, ⟨none, 0, rfl, fun h => absurd h (Nat.lt_irrefl _)⟩, Nat.zero_le _⟩
  · simp at hcs
    subst hcs
    simp only [if_true] at hmm
    subst hmm
    by_cases h0 : len = 0
    · subst h0
      exact ⟨0, fun _ => ⟨0, false⟩, ⟨some a, _, rfl, fun h => absurd h (Nat.lt_irrefl _)⟩, Nat.zero_le _⟩
    · have key : ∀ i, i < len → ∃ e : Cl, W.cell? (a.add (i * 2)) = some (.int .i64 e.w) ∧ W.cell? (a.add (i * 2 + 1)) = some (.bool e.y) := by
        intro i hi
        obtain ⟨cs', h1, h2⟩ := hx i (by omega)
        rw [cellsLawCall] at h1
        obtain ⟨_, hlen, hcell⟩ := World.cells?_some h1
        obtain ⟨xs, k, hk, hxy, _, hxl, hf⟩ := DataW.trod_struct Try.underlying47 h2
        match xs, hxl, cs', hlen with
        | [y0, y1], _, [v0, v1], _ =>
          have g0 := hf 0 _ rfl
          have g1 := hf 1 _ rfl
          simp [cellsInt1, cellsBool1] at g0 g1
          have e0 := hcell 0 (by omega)
          have e1 := hcell 1 (by omega)
          rw [add_add] at e0 e1
          obtain ⟨q0, r0, -, -⟩ := DataW.trod_int Try.underlying3 g0
          obtain ⟨q1, r1, -⟩ := DataW.trod_bool Try.underlying4 g1
          simp at r0 r1
          subst r0
          subst r1
          exact ⟨⟨q0, q1⟩, by simpa using e0, by simpa using e1⟩
      obtain ⟨b, off, spot⟩ := a
      have hspot : spot = none := by
        obtain ⟨e, h1, _⟩ := key 0 (by omega)
        have := World.cell?_spot h1
        simpa [Addr.add] using this
      subst hspot
      have ha : ∀ n, (⟨b, off, none⟩ : Addr).add n = ⟨b, off + n, none⟩ := fun n => by unfold Addr.add; split <;> simp_all
      simp only [ha] at key
      obtain ⟨ts, hts⟩ := pick_q ⟨0, false⟩ len key
      exact ⟨len, ts, ⟨_, _, rfl, fun _ => ⟨b, off, rfl, World.block_lt_of_cell? W _ (hts 0 (by omega)).1, fun i hi => hts i hi⟩⟩, by omega⟩
set_option maxRecDepth 100000 in
theorem open_calls {H : Type} {enc : TypeId × Value → H} {W : World} {b0 : Nat} {v : Value} {d : DataW H} {p : List MemPlace}
    (hv : Value.okWide Try.prog W .any b0 53 v) (h : DataW.Trod enc Try.prog W 0 (fun _ => true) true 53 v d p) :
    ∃ n f, CallsOf W v n f ∧ n ≤ maxLen := by
  obtain ⟨a0, len0, cap0, rfl⟩ := okWide_slice Try.underlying53 hv
  obtain ⟨fuel, hf⟩ := h
  exact trod_calls hf
end Go.Proofs.Ytegbfmdilmbpmaa

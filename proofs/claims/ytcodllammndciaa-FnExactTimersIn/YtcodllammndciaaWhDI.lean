/-
  DropTimer: the program's text.
-/
import Derived.Test.YtcodllammndciaaWhDF
import Derived.Test.YtcodllammndciaaWhLQ
namespace Go.Proofs.Ytcodllammndciaa
open Go.RowKit M
open Clk (upd upd_same upd_other)
namespace M
/-- Where in a row a timer has the Id. -/
def pos (r : Rw) (id : Int) : Option Nat := (List.range r.n).find? (fun p => r.f (p * 2 + 1) == id)
theorem pos_some {r : Rw} {id : Int} {p : Nat} (h : pos r id = some p) : p < r.n ∧ r.f (p * 2 + 1) = id := by
  have h1 := List.mem_of_find?_eq_some h
  have h2 := List.find?_some h
  exact ⟨List.mem_range.1 h1, by simpa using h2⟩
theorem pos_none {r : Rw} {id : Int} (h : pos r id = none) : ∀ p, p < r.n → r.f (p * 2 + 1) ≠ id := fun p hp => by
  have := List.find?_eq_none.1 h p (List.mem_range.2 hp)
  simpa using this
/-- A row without the timer of an Id. -/
def dropRow (r : Rw) (id : Int) : Rw := match pos r id with
  | some p => ⟨r.n - 1, dl r.f p⟩
  | none => r
theorem dropRow_no {r : Rw} {id : Int} (h : ∀ p, p < r.n → r.f (p * 2 + 1) ≠ id) : dropRow r id = r := by
  unfold dropRow
  cases hp : pos r id with
  | none => rfl
  | some p => exact absurd (pos_some hp).2 (h p (pos_some hp).1)
theorem dropRow_at {r : Rw} {id : Int} {p : Nat} (hp : p < r.n) (he : r.f (p * 2 + 1) = id) (hu : ∀ p q, p < r.n → q < r.n → r.f (p * 2 + 1) = id → r.f (q * 2 + 1) = id → p = q) : dropRow r id = ⟨r.n - 1, dl r.f p⟩ := by
  unfold dropRow
  cases hq : pos r id with
  | none => exact absurd he (pos_none hq p hp)
  | some q => rw [hu p q hp (pos_some hq).1 he (pos_some hq).2]
def dropR (rs : Nat → Rw) (id : Int) : Nat → Rw := fun i => dropRow (rs i) id
/-- A timer may be dropped. -/
def DropOk (now : Int) (k : Nat) (rs : Nat → Rw) (id : Int) : Prop := GoodW now k rs ∧ id ∈ idsTo rs 24
/-- The two blocks of the call: the wheel, the answer. -/
def By (w W : World) (now : Int) (v : Value) : Prop := Blk W w.heap.size 2 (p2 (.int .i64 now) v) 24 ∧ Blk W (w.heap.size + 1) 2 (p2 (.int .i64 0) (.slice none 0 0)) 24 ∧ Below w.heap.size w W ∧ w.heap.size + 2 ≤ W.heap.size
theorem By.down {w W W' : World} {now : Int} {v : Value} (h : By w W now v) {B : Nat} (hb : Below B W W') (hB : w.heap.size + 2 ≤ B) : By w W' now v :=
  ⟨h.1.below hb (by omega), h.2.1.below hb (by omega), h.2.2.1.trans (hb.mono (by omega)), Nat.le_trans h.2.2.2 hb.size⟩
theorem By.drew {w W : World} {now : Int} {v : Value} (h : By w W now v) : By w W.drew now v := h.down (Below.refl W.heap.size W).drew h.2.2.2
theorem By.alloc {w W : World} {now : Int} {v : Value} (h : By w W now v) (o : Obj) : By w (W.alloc o) now v := h.down ((Below.refl W.heap.size W).alloc (Nat.le_refl _) o) h.2.2.2
theorem By.set {w W : World} {now : Int} {v : Value} (h : By w W now v) {g : Nat} (hg : w.heap.size + 2 ≤ g) (i : Nat) (y : Value) : By w (W.setCell ⟨g, i, none⟩ y) now v :=
  ⟨h.1.set_other (by omega) _ _, h.2.1.set_other (by omega) _ _, h.2.2.1.setCell (show w.heap.size ≤ g by omega) _, by rw [World.size_setCell]; exact h.2.2.2⟩
theorem By.s {w W : World} {now : Int} {v : Value} (h : By w W now v) : W.cell? ⟨w.heap.size, 0, none⟩ = some (.int .i64 now) ∧ W.cell? ⟨w.heap.size, 1, none⟩ = some v := ⟨h.1.pair.1, h.1.pair.2.1⟩
/-- Behind wheelAt: the cell of the left wheel, its rows of the call's own. -/
def Lf (w W : World) (now : Int) (v : Value) (gL : Nat) (u : Value) (B : Nat) (rs : Nat → Rw) : Prop := By w W now v ∧ Blk W gL 2 (p2 (.int .i64 now) u) 24 ∧ AnsW W B u 24 rs ∧ w.heap.size + 2 ≤ gL ∧ w.heap.size + 2 ≤ B
theorem Lf.al {w W : World} {now : Int} {v u : Value} {B : Nat} {rs : Nat → Rw} (h : By w W now v) (ha : AnsW W B u 24 rs) (hB : w.heap.size + 2 ≤ B) : Lf w (W.alloc (.cells #[.int .i64 now, u] 24)) now v W.heap.size u B rs :=
  ⟨h.alloc _, Blk.fresh W #[.int .i64 now, u] 2 (p2 (.int .i64 now) u) 24 rfl, (ha.x.down ((Below.refl W.heap.size W).alloc (Nat.le_refl _) _)).w, h.2.2.2, hB⟩
theorem Lf.st {w W : World} {now : Int} {v u : Value} {B G : Nat} {rs : Nat → Rw} (h : By w W now v) (ha : AnsW W B u 24 rs) (hB : w.heap.size + 2 ≤ B) (hz : Blk W G 2 (p2 (.int .i64 0) (.slice none 0 0)) 24) (hG : w.heap.size + 2 ≤ G) : Lf w ((W.setCell ⟨G, 0, none⟩ (.int .i64 now)).setCell ⟨G, 1, none⟩ u) now v G u B rs :=
  ⟨(h.set hG _ _).set hG _ _, two_sets hz, ((ha.x.setW hz _ _).setW (hz.set 0 _) _ _).w, hG, hB⟩
/-- A row of an answer's is cut, and its header stored. -/
theorem AW.cutrow {w w' : World} {B g cap k : Nat} {rs : Nat → Rw} {β : Nat → Nat} {X : Nat → Value} (h : AW 52 w B g cap k rs β X) {i : Nat} (hi : i < k) {a : Option Addr} {c : Nat} (hx : X i = .slice a (rs i).n c) (r : Rw) (hr : 0 < r.n → 0 < (rs i).n) (hO : 0 < r.n → OwnT w' (β i) r.n c r.f)
    (hk : ∀ {g n : Nat} {f : Nat → Value} {t : TypeId}, Blk w g n f t → (0 < (rs i).n → g ≠ β i) → Blk w' g n f t) : AW 52 (w'.setCell ⟨g, i, none⟩ (.slice a r.n c)) B g cap k (upd rs i r) β (upd X i (.slice a r.n c)) := by
  have hne : ∀ {j}, j < k → 0 < (rs j).n → β j ≠ g := fun hj hn => h.ne (by decide) hj hn
  have hn' : ∀ j, 0 < (upd rs i r j).n → 0 < (rs j).n := fun j hj => by
    by_cases e : j = i
    · subst e; rw [upd_same] at hj; exact hr hj
    · rwa [upd_other _ _ _ _ e] at hj
  refine ⟨h.ge, h.le, (hk h.blk (fun hn e => hne hi hn e.symm)).set _ _, fun j hj => ?_, fun j j' hjj hj' h1 h2 => h.apart j j' hjj hj' (hn' j h1) (hn' j' h2)⟩
  by_cases e : j = i
  · subst e
    rw [upd_same, upd_same]
    obtain ⟨a', c', e1, e2⟩ := h.row j hj
    rw [hx] at e1
    cases e1
    refine ⟨a, c, rfl, fun hn => ⟨(e2 (hr hn)).1, (e2 (hr hn)).2.1, (hO hn).set_other (hne hj (hr hn)) _ _⟩⟩
  · rw [upd_other _ _ _ _ e, upd_other _ _ _ _ e]
    obtain ⟨a', c', e1, e2⟩ := h.row j hj
    refine ⟨a', c', e1, fun hn => ⟨(e2 hn).1, (e2 hn).2.1, ?_⟩⟩
    obtain ⟨z1, q, z2, z3⟩ := (e2 hn).2.2
    refine OwnT.set_other ⟨z1, q, hk z2 (fun hni => ?_), z3⟩ (hne hj hn) _ _
    rcases (show j < i ∨ i < j by omega) with h5 | h5
    · exact h.apart j i h5 hi hn hni
    · exact (h.apart i j h5 hj hni hn).symm
def dropTo (rs : Nat → Rw) (id : Int) (i : Nat) : Nat → Rw := fun j => if j < i then dropRow (rs j) id else rs j
theorem dropTo_next (rs : Nat → Rw) (id : Int) (i : Nat) : ∀ j, upd (dropTo rs id i) i (dropRow (rs i) id) j = dropTo rs id (i + 1) j := fun j => by
  unfold dropTo
  by_cases e : j = i
  · subst e; rw [upd_same, if_pos (by omega)]
  · rw [upd_other _ _ _ _ e]
    by_cases h : j < i
    · rw [if_pos h, if_pos (by omega)]
    · rw [if_neg h, if_neg (by omega)]
theorem row_once {now : Int} {rs : Nat → Rw} {id : Int} (hG : GoodW now 24 rs) {i : Nat} (hi : i < 24) : ∀ p q, p < (rs i).n → q < (rs i).n → (rs i).f (p * 2 + 1) = id → (rs i).f (q * 2 + 1) = id → p = q := by
  have key : ∀ p q, p < q → q < (rs i).n → (rs i).f (p * 2 + 1) = id → (rs i).f (q * 2 + 1) = id → False := fun p q hpq hq h1 h2 => by
    refine (hG.2.2.1 i hi q hq).2.2 ?_
    unfold ids idsR
    rw [List.mem_append]
    right
    exact List.mem_map.2 ⟨p, List.mem_range.2 hpq, h1.trans h2.symm⟩
  intro p q hp hq h1 h2
  rcases Nat.lt_trichotomy p q with h | h | h
  · exact absurd (key p q h hq h1 h2) (fun h => h)
  · exact h
  · exact absurd (key q p h hp h2 h1) (fun h => h)
theorem row_le {now : Int} {rs : Nat → Rw} (hG : GoodW now 24 rs) {i : Nat} (hi : i < 24) : (rs i).n ≤ 60 := by
  have h1 := tot_mono rs (i := i + 1) 24 hi
  have h2 := hG.2.2.2
  rw [show tot rs (i + 1) = tot rs i + (rs i).n from rfl] at h1
  omega
def Dr (w W : World) (now : Int) (v : Value) (gL gH cp B cap : Nat) (rs : Nat → Rw) (id : Int) (i : Nat) : Prop := By w W now v ∧ Blk W gL 2 (p2 (.int .i64 now) (.slice (some ⟨gH, 0, none⟩) 24 cp)) 24 ∧ (∃ β X, AW 52 W B gH cap 24 (dropTo rs id i) β X) ∧ w.heap.size + 2 ≤ B
abbrev ow : Obj := .cells #[.int .i64 0, .slice none 0 0] 24
end M
set_option maxHeartbeats 1000000 in
theorem has_id2 (id : Int) (w : World) :
    Calls Try.prog 57 #[.int .i64 id] w fun e w' => (e = .returned (hasF w.heap.size) ∧ Blk w' w.heap.size 1 (fun _ => .int .i64 id) 3) ∧ Below w.heap.size w w' := by
  have hbA := (Below.refl w.heap.size w).alloc (Nat.le_refl _) (.cells #[.int .i64 id] 3)
  have HC := hide (Blk.fresh w #[.int .i64 id] 1 (fun _ => .int .i64 id) 3 rfl)
  go_enter Try.func57, Try.ntmps57
  go_wp2
  go_ret
  exact ⟨⟨rfl, HC.out⟩, hbA⟩
/-- slices.DeleteFunc on a row of an answer's. -/
theorem drop_row {B g cap : Nat} {rs : Nat → Rw} {β : Nat → Nat} {X : Nat → Value} (id : Int) (bi : Nat) (w : World) (h : AW 52 w B g cap 24 rs β X) {i : Nat} (hi : i < 24) {a : Option Addr} {c : Nat} (hx : X i = .slice a (rs i).n c) (hn : (rs i).n ≤ 60) (hbi : Blk w bi 1 (fun _ => .int .i64 id) 3)
    (hu : ∀ p q, p < (rs i).n → q < (rs i).n → (rs i).f (p * 2 + 1) = id → (rs i).f (q * 2 + 1) = id → p = q) :
    Calls Try.prog 61 #[.slice a (rs i).n c, hasF bi] w fun e w' => e = .returned (.slice a (dropRow (rs i) id).n c) ∧ Below B w w' ∧ (∀ {g n : Nat} {f : Nat → Value} {t : TypeId}, Blk w g n f t → t ≠ 40 → Blk w' g n f t) ∧ AW 52 (w'.setCell ⟨g, i, none⟩ (.slice a (dropRow (rs i) id).n c)) B g cap 24 (upd rs i (dropRow (rs i) id)) β (upd X i (.slice a (dropRow (rs i) id).n c)) := by
  obtain ⟨a', c', e1, e2⟩ := h.row i hi
  rw [hx] at e1
  cases e1
  have hBw : B ≤ w.heap.size := Nat.le_trans h.ge (Nat.le_of_lt h.blk.lt)
  have hnc : 0 < (rs i).n → (rs i).n ≤ c := fun h0 => (e2 h0).2.2.1
  by_cases hn0 : 0 < (rs i).n
  · obtain ⟨z1, z2, z3⟩ := e2 hn0
    refine (delete_func a (β i) (rs i).n c (rs i).f id bi w (fun _ => ⟨z1, z3⟩) hn (hnc hn0) (hbi.cell (by omega)) hbi.lt (fun _ => ?_) hu).mono ?_
    · obtain ⟨_, q, z4, _⟩ := z3
      exact (z4.apart hbi (by decide)).symm
    · rintro e w' (⟨hno, rfl, hb⟩ | ⟨p, hp, he, rfl, hO, hk⟩)
      · rw [dropRow_no hno]
        refine ⟨rfl, hb.mono hBw, fun hb' _ => hb'.down hb, h.cutrow hi hx (rs i) (fun h => h) (fun h0 => ?_) (fun hb' _ => hb'.down hb)⟩
        obtain ⟨y1, q, y2, y3⟩ := z3
        exact ⟨y1, q, y2.down hb, y3⟩
      · rw [dropRow_at hp he hu]
        refine ⟨rfl, hk.below (by omega) hBw, fun hb' ht => hk.blk hb' ?_, h.cutrow hi hx ⟨(rs i).n - 1, dl (rs i).f p⟩ (fun _ => hn0) (fun _ => hO) (fun hb' hne => hk.blk hb' (by have := hne hn0; omega))⟩
        obtain ⟨_, q, z4, _⟩ := z3
        have := hb'.apart z4 ht
        omega
  · have h0 : (rs i).n = 0 := by omega
    have hno : ∀ p, p < (rs i).n → (rs i).f (p * 2 + 1) ≠ id := fun p hp => by omega
    refine (delete_func a (β i) (rs i).n c (rs i).f id bi w (fun h => absurd h hn0) hn (by omega) (hbi.cell (by omega)) hbi.lt (fun h => absurd h hn0) hu).mono ?_
    rintro e w' (⟨_, rfl, hb⟩ | ⟨p, hp, _⟩)
    · rw [dropRow_no hno]
      exact ⟨rfl, hb.mono hBw, fun hb' _ => hb'.down hb, h.cutrow hi hx (rs i) (fun h => h) (fun h => absurd h hn0) (fun hb' _ => hb'.down hb)⟩
    · omega
set_option maxRecDepth 20000 in
set_option maxHeartbeats 8000000 in
theorem impl_drop (now : Int) (v : Value) (k : Nat) (rs : Nat → Rw) (id : Int) (w : World) (hv : RowsOf w v k rs) (hs : Small k rs) :
    Calls Try.prog 24 #[.agg #[.int .i64 now, v], .int .i64 id] w fun e w' => ((DropOk now k rs id ∧ ∃ u, e = .returned (.tuple #[.agg #[.int .i64 now, u], .bool true]) ∧ AnsW w' w.heap.size u 24 (dropR rs id)) ∨ (¬ DropOk now k rs id ∧ e = .returned (.tuple #[.agg #[.int .i64 0, .slice none 0 0], .bool false]))) ∧ Below w.heap.size w w' := by
  have HV := hide hv
  have HS := hide hs
  obtain ⟨a, cap, rfl⟩ := hv.form
  clear hv hs
  obtain ⟨bg, hbg⟩ : ∃ b, decide (GoodW now k rs) = b := ⟨_, rfl⟩
  have HBg := hide hbg
  have hX0 : By w ((w.alloc (.cells #[.int .i64 now, .slice a k cap] 24)).alloc (.cells #[.int .i64 0, .slice none 0 0] 24)) now (.slice a k cap) := by
    have h2 := Blk.fresh (w.alloc (.cells #[.int .i64 now, .slice a k cap] 24)) #[.int .i64 0, .slice none 0 0] 2 (p2 (.int .i64 0) (.slice none 0 0)) 24 rfl
    rw [World.size_alloc] at h2
    exact ⟨(Blk.fresh w #[.int .i64 now, .slice a k cap] 2 (p2 (.int .i64 now) (.slice a k cap)) 24 rfl).alloc _, h2, ((Below.refl w.heap.size w).alloc (Nat.le_refl _) _).alloc (by simp) _, by simp⟩
  go_enter Try.func24, Try.ntmps24
  go_wp2_with fail
  refine (impl_good now _ k rs bg _ (HV.out.below hX0.2.2.1) HS.out HBg.out).mono ?_
  rintro e w1 ⟨rfl, hb⟩
  have hX1 := hX0.down hb hX0.2.2.2
  clear hb hX0
  cases bg with
  | false =>
    obtain ⟨y0, y1, y2, y3⟩ := hX1.2.1.pair
    have hbf := (hX1.2.2.1.setCell (p := ⟨w.heap.size + 1, 0, none⟩) (show w.heap.size ≤ w.heap.size + 1 by omega) (.int .i64 0)).setCell (p := ⟨w.heap.size + 1, 1, none⟩) (show w.heap.size ≤ w.heap.size + 1 by omega) (.slice none 0 0)
    have HNo := hide (show ¬ DropOk now k rs id from fun h => of_decide_eq_false hbg h.1)
    clear HV HS HBg hX1 hbg
    go_wp2
    exact bodyPost_ret (v := .tuple #[.agg #[.int .i64 0, .slice none 0 0], .bool false]) (by simp [results, Try.results24, go_sem, y0, y1]) rfl ⟨.inr ⟨HNo.out, rfl⟩, hbf⟩
  | true =>
    have hG := of_decide_eq_true hbg
    obtain rfl : k = 24 := hG.2.1
    have HG := hide hG
    have ht60 : tot rs 24 ≤ 60 := hG.2.2.2
    clear hbg HBg
    have HSh := hide HS.out.short
    obtain ⟨x0, x1, -, -⟩ := hX1.1.pair
    go_wp2_with fail
    refine (concat_rows _ rs _ (HV.out.below hX1.2.2.1) ht60).mono ?_
    rintro e w2 ⟨⟨R, rfl, hO⟩, hb⟩
    have hX2 := hX1.down hb hX1.2.2.2
    have hTm := own_timers (fl_len rs 24) hO
    obtain ⟨aR, cR, rfl⟩ := own_form hO
    have HTm := hide hTm
    obtain ⟨nT, hnT⟩ : ∃ n, tot rs 24 = n := ⟨_, rfl⟩
    have HnT := hide hnT
    rw [hnT] at HTm ht60 ⊢
    clear hb hX1 hO hTm x0 x1 hnT
    go_wp2_with fail
    refine (has_id id _).mono ?_
    rintro e w3 ⟨⟨rfl, hc3, hl3⟩, hb⟩
    have hX3 := hX2.down hb hX2.2.2.2
    have HTm3 := hide (HTm.out.below hb)
    have HC3 := hide hc3
    clear hb hc3
    obtain ⟨bc, hbc⟩ : ∃ b, decide (id ∈ idsTo rs 24) = b := ⟨_, rfl⟩
    have HMe := hide (show (∃ p, p < nT ∧ (fl rs 24).getD (p * 2 + 1) 0 = id) ↔ bc = true by rw [← hbc, decide_eq_true_eq, ← mem_fl, HnT.out])
    go_wp2_with fail
    refine (contains_func _ nT (fun q => (fl rs 24).getD q 0) id w2.heap.size bc _ HTm3.out (by omega) HC3.out hl3 HMe.out).mono ?_
    rintro e w4 ⟨rfl, hb⟩
    have hX4 := hX3.down hb hX3.2.2.2
    clear hb HTm3 HC3 HTm HMe hX2 hX3 hl3
    cases bc with
    | false =>
      obtain ⟨y0, y1, y2, y3⟩ := hX4.2.1.pair
      have hbf := (hX4.2.2.1.setCell (p := ⟨w.heap.size + 1, 0, none⟩) (show w.heap.size ≤ w.heap.size + 1 by omega) (.int .i64 0)).setCell (p := ⟨w.heap.size + 1, 1, none⟩) (show w.heap.size ≤ w.heap.size + 1 by omega) (.slice none 0 0)
      have HNo := hide (show ¬ DropOk now 24 rs id from fun h => of_decide_eq_false hbc h.2)
      clear HV HS hX4 hbc
      go_wp2
      exact bodyPost_ret (v := .tuple #[.agg #[.int .i64 0, .slice none 0 0], .bool false]) (by simp [results, Try.results24, go_sem, y0, y1]) rfl ⟨.inr ⟨HNo.out, rfl⟩, hbf⟩
    | true =>
      have HOk := hide (show DropOk now 24 rs id from ⟨HG.out, of_decide_eq_true hbc⟩)
      clear hbc
      go_upto_region 3 with fail
      have hX4d := hX4.drew
      have hX4a := hX4d.alloc ow
      have hX4b := (hX4.alloc ow).drew
      have HTO := hide (show ∀ W, By w W now (.slice a 24 cap) → Calls Try.prog 58 #[.agg #[.int .i64 now, .slice a 24 cap]] W fun e w' => (∃ g X, e = .returned (.pointer (some ⟨g, 0, none⟩)) ∧ TW w' W.heap.size g rs X) ∧ By w w' now (.slice a 24 cap) ∧ Below W.heap.size W w' ∧ w.heap.size + 2 ≤ W.heap.size from fun W hW => (turning_of now _ rs W (HV.out.below hW.2.2.1) HSh.out).mono fun e w' ⟨h1, h2⟩ => ⟨h1, hW.down h2 hW.2.2.2, h2, hW.2.2.2⟩)
      go_cut [6] from 22 (fun g wx => ∃ (gL : Nat) (aL : Option Addr) (cL B : Nat), g = .pointer (some ⟨gL, 0, none⟩) ∧ Hid (Lf w wx now (.slice a 24 cap) gL (.slice aL 24 cL) B rs))
      case first =>
        go_region_held (fun W => W.cell? ⟨w.heap.size, 0, none⟩ = some (.int .i64 now) ∧ W.cell? ⟨w.heap.size, 1, none⟩ = some (.slice a 24 cap)) (first | exact By.s hXs | exact By.s (hXs.alloc _) | exact By.s ((hXs.set hG _ _).set hG _ _) | exact By.s hXt | exact By.s (hXt.alloc _) | exact By.s hX4d | exact By.s hX4a | exact By.s hX4b) (first
          | (go_at_call 58; refine Calls.mono (HTO.out _ (by assumption)) ?_; rintro e wt ⟨⟨gt, Xt, rfl, hTt⟩, hXt, hbt, hBt⟩; have hst := hbt.size; (try (have hzt : Blk wt w4.heap.size 2 (p2 (.int .i64 0) (.slice none 0 0)) 24 := (Blk.fresh w4.drew #[.int .i64 0, .slice none 0 0] 2 (p2 (.int .i64 0) (.slice none 0 0)) 24 rfl).down hbt)) ; (try (have hzt : Blk wt w4.heap.size 2 (p2 (.int .i64 0) (.slice none 0 0)) 24 := ((Blk.fresh w4 #[.int .i64 0, .slice none 0 0] 2 (p2 (.int .i64 0) (.slice none 0 0)) 24 rfl).drew).down hbt)))
          | (go_at_call 60; refine Calls.mono (wheel_at _ gt rs Xt now _ (by first | exact hTt | exact hTt.down ((Below.refl _ _).alloc (Nat.le_refl _) _)) (by first | exact hst | exact Nat.le_trans hst (by simp))) ?_; rintro e ws ⟨⟨us, rfl, hAs⟩, hbs⟩; obtain ⟨aL, cL, rfl⟩ := hAs.rows.form; have hXs : By w ws now (.slice a 24 cap) := (by first | exact hXt.down hbs hXt.2.2.2 | exact (hXt.alloc _).down hbs (hXt.alloc _).2.2.2) ; (try (have hzs := (Blk.fresh wt #[.int .i64 0, .slice none 0 0] 2 (p2 (.int .i64 0) (.slice none 0 0)) 24 rfl).down hbs; have hG := hXt.2.2.2)) ; (try (have hzs := hzt.down hbs; have hG : w.heap.size + 2 ≤ w4.heap.size := hX4d.2.2.2)) ; (try (obtain ⟨zs0, zs1, zs2, zs3⟩ := hzs.pair))))
        all_goals
          go_wp2_with fail
          go_meet
          first
          | exact ⟨_, _, _, _, rfl, hide (Lf.al hXs hAs hBt)⟩
          | exact ⟨_, _, _, _, rfl, hide (Lf.st hXs hAs hBt hzs hG)⟩
      case rest =>
        obtain ⟨gL, aL, cL, B, rfl, HLf⟩ := hcut
        obtain ⟨hBy, hBL, hAL, hgL, hBB⟩ := HLf.out
        rcases hAL with ⟨_, h0⟩ | ⟨gH, cpH, cp, β0, X0, hu, hAW⟩
        · omega
        · obtain ⟨rfl, -, rfl⟩ : aL = some ⟨gH, 0, none⟩ ∧ 24 = 24 ∧ cL = cp := by simpa using hu
          have HD0 := hide (show Dr w wc now (.slice a 24 cap) gL gH cL B cpH rs id 0 from ⟨hBy, hBL, ⟨β0, X0, hAW.ext (fun i _ => by unfold dropTo; rw [if_neg (by omega)])⟩, hBB⟩)
          clear HLf hBy hBL hAW hu hX4 hX4d hX4a hX4b
          obtain ⟨d0, d1, d2, d3⟩ := HD0.out.2.1.pair
          go_wp2_with fail
          go_loopw [30] (fun y wr => ∃ i : Nat, i ≤ 24 ∧ y = .int .i64 (i : Int) ∧ Hid (Dr w wr now (.slice a 24 cap) gL gH cL B cpH rs id i)) (fun y _ => 24 - (intOf y).toNat)
          case atStart => exact ⟨0, by omega, rfl, HD0⟩
          case round =>
            rename World => wo
            clear d0 d1 d2 d3 HD0
            obtain ⟨i, hi24, rfl, HD⟩ := hrel
            by_cases hlt : i < 24
            · obtain ⟨hBy, hBL, ⟨β, X, hAW⟩, -⟩ := HD.out
              obtain ⟨ai, ci, hx, -⟩ := hAW.row i hlt
              have hri : dropTo rs id i i = rs i := by unfold dropTo; rw [if_neg (by omega)]
              rw [hri] at hx
              have c0 := hAW.blk.cell (show i < cpH from Nat.lt_of_lt_of_le hlt hAW.le)
              rw [hx] at c0
              have d1 := hBL.pair.2.1
              have HDel := hide (show ∀ (W : World) (bi : Nat), AW 52 W B gH cpH 24 (dropTo rs id i) β X → Blk W bi 1 (fun _ => .int .i64 id) 3 → Calls Try.prog 61 #[.slice ai (rs i).n ci, hasF bi] W fun e w' => e = .returned (.slice ai (dropRow (rs i) id).n ci) ∧ Below B W w' ∧ (∀ {g n : Nat} {f : Nat → Value} {t : TypeId}, Blk W g n f t → t ≠ 40 → Blk w' g n f t) ∧ ∃ X', AW 52 (w'.setCell ⟨gH, i, none⟩ (.slice ai (dropRow (rs i) id).n ci)) B gH cpH 24 (dropTo rs id (i + 1)) β X' from fun W bi h1 h2 => by
                have h3 := drop_row id bi W h1 hlt (a := ai) (c := ci) (by rw [hri]; exact hx) (by rw [hri]; exact row_le HG.out hlt) h2 (by rw [hri]; exact row_once HG.out hlt)
                rw [hri] at h3
                exact h3.mono fun e w' ⟨q1, q2, q3, q4⟩ => ⟨q1, q2, q3, _, q4.ext (fun j _ => dropTo_next rs id i j)⟩)
              have HAW := hide hAW
              have hgH : w.heap.size + 2 ≤ gH := Nat.le_trans HD.out.2.2.2 hAW.ge
              have hBB' := HD.out.2.2.2
              have hLH : gL ≠ gH := hBL.apart hAW.blk (by decide)
              have hi0 : (0 : Int) ≤ (i : Int) := by omega
              have hi1 : (i : Int) < 24 := by omega
              have hByd := hBy.drew
              have hBLd := hBL.drew
              have HAWd := hide (hAW.down (Below.refl wo.heap.size wo).drew)
              clear HD hAW hx hri
              generalize (rs i).n = ni at *
              obtain ⟨nd, hnd⟩ : ∃ n, (dropRow (rs i) id).n = n := ⟨_, rfl⟩
              rw [hnd] at HDel
              clear hnd
              go_upto_region 7 with fail
              go_region_held (fun W => W.cell? ⟨gL, 1, none⟩ = some (.slice (some ⟨gH, 0, none⟩) 24 cL)) (first | exact hBLd.pair.2.1 | exact hBLh.pair.2.1 | exact hBLx.pair.2.1 | exact (hBLx.set_other hLH _ _).pair.2.1) (first
                | (go_at_call 57; refine Calls.mono (has_id2 id _) ?_; rintro e wh ⟨⟨rfl, hBi⟩, hbh⟩; have hBLh := hBLd.down hbh; have hByh := hByd.down hbh hByd.2.2.2; have HAWh := hide (HAWd.out.down hbh); have HBi := hide hBi; clear hBi)
                | (go_at_call 61; refine Calls.mono (HDel.out _ _ HAWh.out HBi.out) ?_; rintro e wx ⟨rfl, hbx, hkx, Xx, hAx⟩; have hBLx := hkx hBLh (by decide); have hByx := hByh.down hbx hBB'; have hHx := hkx HAWh.out.blk (by decide); have hz0 := hHx.cell (show i < cpH from Nat.lt_of_lt_of_le hlt HAWh.out.le); have hz1 := hHx.thaw i; have HAx := hide hAx; clear hAx hHx hkx))
              all_goals
                have HE := hide (show Dr w _ now (.slice a 24 cap) gL gH cL B cpH rs id (i + 1) from ⟨hByx.set hgH _ _, hBLx.set_other hLH _ _, ⟨_, _, HAx.out⟩, hBB'⟩)
                clear HAx HAWh HAWd HBi HDel hbx hByx hBLx hz0 hz1
                go_wp2
                exact ⟨⟨i + 1, by omega, by go_num, HE⟩, by simp [intOf]; omega⟩
            · obtain rfl : i = 24 := by omega
              obtain ⟨hBy, hBL, ⟨β, X, hAW⟩, hBB'⟩ := HD.out
              obtain ⟨d0, d1, -, -⟩ := hBL.pair
              obtain ⟨y0, y1, y2, y3⟩ := hBy.2.1.pair
              have hA : AnsW wo B (.slice (some ⟨gH, 0, none⟩) 24 cL) 24 (dropR rs id) := .inr ⟨gH, cpH, cL, β, X, rfl, hAW.ext (fun j hj => by unfold dropTo dropR; rw [if_pos hj])⟩
              have hbf := (hBy.2.2.1.setCell (p := ⟨w.heap.size + 1, 0, none⟩) (show w.heap.size ≤ w.heap.size + 1 by omega) (.int .i64 now)).setCell (p := ⟨w.heap.size + 1, 1, none⟩) (show w.heap.size ≤ w.heap.size + 1 by omega) (.slice (some ⟨gH, 0, none⟩) 24 cL)
              have HA := hide (((hA.set_low (b := w.heap.size + 1) (by omega) 0 (.int .i64 now)).set_low (b := w.heap.size + 1) (by omega) 1 (.slice (some ⟨gH, 0, none⟩) 24 cL)).mono (B' := w.heap.size) (by omega))
              clear HD hBy hBL hAW hA HV HS
              go_wp2
              exact bodyPost_ret (v := .tuple #[.agg #[.int .i64 now, .slice (some ⟨gH, 0, none⟩) 24 cL], .bool true]) (by simp [results, Try.results24, go_sem, y0, y1]) rfl ⟨.inl ⟨HOk.out, _, rfl, HA.out⟩, hbf⟩
end Go.Proofs.Ytcodllammndciaa

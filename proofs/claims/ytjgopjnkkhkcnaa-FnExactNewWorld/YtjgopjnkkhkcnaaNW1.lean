/-
  NewWorld in both texts, and its law, walked: two regions of which nothing was told, and nothing said.
-/
import Derived.Test.YtjgopjnkkhkcnaaChecked
import Derived.WalkKit
import Derived.WalkLawsBesides
import Derived.OwnWalk
import Derived.Below
import Derived.Lib.QuietBelow
import Derived.BigQuiet
import Derived.Maps.AppendAt
import Derived.Lib.AppendZeros
import Derived.Lib.AppendZerosOnto
import Derived.Laws.AppendOwnNone
import Derived.Laws.NewBlocks
import Derived.Test.YtjgopjnkkhkcnaaOwnR
namespace Go.Proofs.Ytjgopjnkkhkcnaa
open Go.RowKit M
open Go.Sort (grow)
namespace M
abbrev rn (i j : Int) : Value := .agg #[.int .i64 i, .int .i64 j, .slice none 0 0]
abbrev wdv (x : Value) : Value := .agg #[x, .slice none 0 0]
theorem low1 (w : World) (o : Obj) : Below w.heap.size w (w.alloc o) := (Below.refl w.heap.size w).alloc (Nat.le_refl _) o
/-- Three cells of a region. -/
def f3 (i j : Int) : List Value := [.int .i64 i, .int .i64 j, .slice none 0 0]
/-- The first k of two new regions. -/
def cN : Nat → List Value
  | 0 => []
  | 1 => f3 0 0
  | _ => f3 0 0 ++ f3 1 0
/-- A row of two. -/
def W2 (w : World) (B : Nat) (v : Value) (a b c d : Int) : Prop := w.ownsRow B 34 3 v 2 (f3 a b ++ f3 c d)
theorem W2.down {w w' : World} {B : Nat} {v : Value} {a b c d : Int} (h : W2 w B v a b c d) (hb : Below w.heap.size w w') : W2 w' B v a b c d := owns_below h hb
theorem W2.mono {w : World} {B B' : Nat} {v : Value} {a b c d : Int} (h : W2 w B v a b c d) (hB : B' ≤ B) : W2 w B' v a b c d := owns_mono h hB
theorem W2.form {w : World} {B : Nat} {v : Value} {a b c d : Int} (h : W2 w B v a b c d) : ∃ g cap, v = .slice (some ⟨g, 0, none⟩) 2 cap ∧ B ≤ g ∧ g < w.heap.size := by
  rcases h.2 with ⟨_, h0⟩ | ⟨g, cap, cur, rfl, hB, hg, hn, hc, hs, ht⟩
  · cases h0
  · refine ⟨g, cap, rfl, hB, ?_⟩
    rcases Nat.lt_or_ge g w.heap.size with h' | h'
    · exact h'
    · rw [Array.getElem?_eq_none h'] at hg; cases hg
theorem W2.cell {w : World} {B g cap : Nat} {a b c d : Int} (h : W2 w B (.slice (some ⟨g, 0, none⟩) 2 cap) a b c d) {j : Nat} {u : Value} (hj : (f3 a b ++ f3 c d)[j]? = some u) : w.cell? ⟨g, j, none⟩ = some u := by
  rcases h.2 with ⟨h0, _⟩ | ⟨g', cap', cur, hv, hB, hg, hn, hc, hs, ht⟩
  · cases h0
  · simp only [Value.slice.injEq, Option.some.injEq, Addr.mk.injEq, and_true, true_and] at hv
    obtain ⟨rfl, rfl⟩ := hv
    rw [← ht] at hj
    have hl := (List.getElem?_eq_some_iff.1 hj).1
    rw [List.length_take] at hl
    rw [List.getElem?_take_of_lt (by omega)] at hj
    simp [World.cell?, hg]
    simpa using hj
theorem W2.thaw {w : World} {B g cap : Nat} {a b c d : Int} (h : W2 w B (.slice (some ⟨g, 0, none⟩) 2 cap) a b c d) (j : Nat) : w.frozen? ⟨g, j, none⟩ = false := World.ownsRow.frozenAt h j
theorem W2.cells {w : World} {B g cap : Nat} {a b c d : Int} (h : W2 w B (.slice (some ⟨g, 0, none⟩) 2 cap) a b c d) : (w.cell? ⟨g, 0, none⟩ = some (.int .i64 a) ∧ w.cell? ⟨g, 1, none⟩ = some (.int .i64 b) ∧ w.cell? ⟨g, 2, none⟩ = some (.slice none 0 0)) ∧ w.cell? ⟨g, 3, none⟩ = some (.int .i64 c) ∧ w.cell? ⟨g, 4, none⟩ = some (.int .i64 d) ∧ w.cell? ⟨g, 5, none⟩ = some (.slice none 0 0) :=
  ⟨⟨h.cell rfl, h.cell rfl, h.cell rfl⟩, h.cell rfl, h.cell rfl, h.cell rfl⟩
theorem W2.set {w : World} {B g cap : Nat} {a b c d a' b' c' d' : Int} (h : W2 w B (.slice (some ⟨g, 0, none⟩) 2 cap) a b c d) (j : Nat) (x : Value) (hx : (f3 a b ++ f3 c d).set j x = f3 a' b' ++ f3 c' d') : W2 (w.setCell ⟨g, j, none⟩ x) B (.slice (some ⟨g, 0, none⟩) 2 cap) a' b' c' d' := by
  have := (World.ownsRow.stored h j x).1
  rw [hx] at this
  exact this
theorem W2.grown {w w' : World} {B : Nat} {v : Value} {a b c d : Int} {row : Option Nat} (h : W2 w B v a b c d) (hg : w.grownBy w' row) (hne : ∀ g, v.ownBlock = some g → some g ≠ row) : W2 w' B v a b c d := owns_other h hg hne
theorem gb_refl (w : World) (row : Option Nat) : w.grownBy w row := ⟨rfl, rfl, rfl, Nat.le_refl _, fun _ _ _ => rfl⟩
theorem gb_set {w w1 : World} {g o : Nat} {v : Value} (h : w.grownBy w1 (some g)) : w.grownBy (w1.setCell ⟨g, o, none⟩ v) (some g) :=
  ⟨h.os, h.tape, h.output, by rw [World.size_setCell]; exact h.size, fun k hk hne => by rw [heap_setCell_other _ _ _ _ (fun e => hne (by rw [e]))]; exact h.block k hk hne⟩
theorem gb_below {w w1 w2 : World} {row : Option Nat} (h : w.grownBy w1 row) (hb : Below w1.heap.size w1 w2) : w.grownBy w2 row :=
  ⟨hb.os.trans h.os, hb.tape.trans h.tape, hb.output.trans h.output, Nat.le_trans h.size hb.size, fun k hk hne => by rw [hb.block k (Nat.lt_of_lt_of_le hk h.size)]; exact h.block k hk hne⟩
theorem gb_low {w w' : World} {g : Nat} (h : w.grownBy w' (some g)) {B : Nat} (hB : B ≤ g) (h2 : B ≤ w.heap.size) : Below B w w' :=
  ⟨h.os, h.tape, h.output, h.size, fun k hk => h.block k (by omega) (fun e => by simp only [Option.some.injEq] at e; omega)⟩
theorem add_litN (b o j : Nat) : (⟨b, o, none⟩ : Addr).add j = ⟨b, o + j, none⟩ := by unfold Addr.add; split <;> simp_all
/-- A world's box. -/
def WB (w : World) (g : Nat) (x y : Value) : Prop := w.heap[g]? = some (.cells #[x, y] 25 (0, 0))
theorem WB.lt {w : World} {g : Nat} {x y : Value} (h : WB w g x y) : g < w.heap.size := by
  unfold WB at h
  rcases Nat.lt_or_ge g w.heap.size with hl | hl
  · exact hl
  · rw [Array.getElem?_eq_none hl] at h; cases h
theorem WB.down {w w' : World} {g : Nat} {x y : Value} (h : WB w g x y) (hb : Below w.heap.size w w') : WB w' g x y := by
  unfold WB; rw [hb.block g h.lt]; exact h
theorem WB.new (w : World) (x y : Value) : WB (w.alloc (.cells #[x, y] 25)) w.heap.size x y := heap_alloc_new w _
theorem WB.duo {w : World} {g : Nat} {x y : Value} (h : WB w g x y) : (w.cell? ⟨g, 0, none⟩ = some x ∧ w.cell? ⟨g, 1, none⟩ = some y) ∧ w.frozen? ⟨g, 0, none⟩ = false ∧ w.frozen? ⟨g, 1, none⟩ = false :=
  ⟨⟨by simp [World.cell?, show w.heap[g]? = _ from h], by simp [World.cell?, show w.heap[g]? = _ from h]⟩, by simp [World.frozen?, show w.heap[g]? = _ from h], by simp [World.frozen?, show w.heap[g]? = _ from h]⟩
theorem WB.set0 {w : World} {g : Nat} {x y : Value} (h : WB w g x y) (u : Value) : WB (w.setCell ⟨g, 0, none⟩ u) g u y := by
  have := heap_setCell_same w g 0 #[x, y] 25 u h
  unfold WB; rw [this]; rfl
theorem WB.set1 {w : World} {g : Nat} {x y : Value} (h : WB w g x y) (u : Value) : WB (w.setCell ⟨g, 1, none⟩ u) g x u := by
  have := heap_setCell_same w g 1 #[x, y] 25 u h
  unfold WB; rw [this]; rfl
theorem WB.off {w : World} {g g' i : Nat} {x y : Value} (h : WB w g x y) (hne : g ≠ g') (u : Value) : WB (w.setCell ⟨g', i, none⟩ u) g x y := by
  unfold WB; rw [heap_setCell_other _ _ _ _ hne]; exact h
theorem WB.gb {w w' : World} {g : Nat} {x y : Value} {row : Option Nat} (h : WB w g x y) (hg : w.grownBy w' row) (hne : some g ≠ row) : WB w' g x y := by
  unfold WB; rw [hg.block g h.lt hne]; exact h
end M
theorem info_rgn : (Try.prog.info? 34).map (fun i => (i.zero, i.size, i.bytes)) = some (some (.agg #[.int .i64 0, .int .i64 0, .slice none 0 0]), 3, 40) := by kernel_rfl
/-- One more region behind a row of the call's own. -/
theorem app_rgn (w : World) {ops : Array Oper} {rest : List Oper} {o : Oper} {a : Act} {Q : Exit → Act → World → Prop} (hgd : o.guard = none) (s x : Operand)
    (ho : o.op = .call { callee := .builtin .append, args := #[s, x], argTypes := #[22, 22] }) (B n : Nat) (xs : List Value) (i : Int) (v : Value) (hs : a.eval s = v) (hown : w.ownsRow B 34 3 v n xs)
    (b cu : Nat) (hx : a.eval x = .slice (some ⟨b, 0, none⟩) 1 cu) (hu : w.heap[b]? = some (.cells #[.int .i64 i, .int .i64 0, .slice none 0 0] 34 (0, 0))) (hl : n ≤ 100) (hbase : B ≤ w.heap.size)
    (h : ∀ v' w', w'.ownsRow B 34 3 v' (n + 1) (xs ++ f3 i 0) → w.grownBy w' v.ownBlock → wpList Try.prog ops Q rest (a.put o.dst v') w') : wpList Try.prog ops Q (o :: rest) a w := by
  obtain ⟨i0, hi, hz0, hz1, hz2⟩ := info_parts info_rgn
  have hsrc : ∀ j u, (f3 i 0)[j]? = some u → w.cell? ((⟨b, 0, none⟩ : Addr).add j) = some u := fun j u hj => by
    rw [add_litN, Nat.zero_add]
    match j, hj with
    | 0, hj => simp [f3] at hj; subst hj; simp [World.cell?, hu]
    | 1, hj => simp [f3] at hj; subst hj; simp [World.cell?, hu]
    | 2, hj => simp [f3] at hj; subst hj; simp [World.cell?, hu]
  obtain ⟨v', w', hrn, hown', hgr, -, -⟩ := run_append_own_at (P := Try.prog) (w := w) B 22 o.type 34 i0 _ 3 40 Try.underlying22 hi hz0 hz1 hz2 rfl (by decide) v _ _ hown ⟨b, 0, none⟩ 1 cu (f3 i 0) rfl hsrc (fun v hv => by simp only [f3, List.mem_cons, List.not_mem_nil, or_false] at hv; rcases hv with rfl | rfl | rfl <;> rfl) (by unfold maxLen; omega) (by omega) hbase
  exact Lib.wpList_append_run (P := Try.prog) w hgd s x 22 22 ho _ _ hs hx _ _ hrn (h _ w' hown' hgr)
set_option maxRecDepth 20000 in
set_option maxHeartbeats 2000000 in
theorem impl_newW (w : World) : Calls Try.prog 5 #[] w fun e w' => (∃ v, e = .returned (wdv v) ∧ W2 w' w.heap.size v 0 0 1 0) ∧ Below w.heap.size w w' := by
  obtain ⟨W0, hW⟩ : ∃ W0, (w.alloc (.cells #[.slice none 0 0, .slice none 0 0] 25)).alloc (.cells #[.slice none 0 0, .slice none 0 0] 25) = W0 := ⟨_, rfl⟩
  have hb0 : Below w.heap.size w W0 := by rw [← hW]; exact (low1 w _).alloc (by simp) _
  have hbox : WB W0 w.heap.size (.slice none 0 0) (.slice none 0 0) := by rw [← hW]; exact (WB.new w _ _).down (low1 _ _)
  have hbox1 : WB W0 (w.heap.size + 1) (.slice none 0 0) (.slice none 0 0) := by
    rw [← hW]
    have := WB.new (w.alloc (.cells #[.slice none 0 0, .slice none 0 0] 25)) (.slice none 0 0) (.slice none 0 0)
    rw [World.size_alloc] at this; exact this
  have hsz : W0.heap.size = w.heap.size + 2 := by rw [← hW]; simp
  have H1 := hide hbox
  have H2 := hide hbox1
  have HS := hide hsz
  have HW := hide hW
  clear hW hbox hbox1 hsz
  go_enter Try.func5, Try.ntmps5
  go_wp2
  rw [HW.out]
  go_loopw [3] (fun i wr => ∃ (k : Nat) (v : Value), k ≤ 2 ∧ i = .int .i64 k ∧ Hid (wr.ownsRow (w.heap.size + 2) 34 3 v k (cN k)) ∧ Hid (WB wr w.heap.size (.slice none 0 0) (.slice none 0 0)) ∧ Hid (WB wr (w.heap.size + 1) v (.slice none 0 0)) ∧ Hid (w.heap.size + 2 ≤ wr.heap.size) ∧ Below w.heap.size w wr) (fun i _ => 2 - (intOf i).toNat)
  case atStart => exact ⟨0, .slice none 0 0, by omega, rfl, hide ⟨rfl, .inl ⟨rfl, rfl⟩⟩, H1, H2, hide (by rw [HS.out]; exact Nat.le_refl _), hb0⟩
  case round =>
    obtain ⟨k, v, hk, rfl, HO, HB1, HB2, HSZ, hbw⟩ := hrel
    by_cases hlt : k < 2
    · obtain ⟨⟨c0, c1⟩, f0, f1⟩ := HB2.out.duo
      have hal := low1 wr (.cells #[.int .i64 (k : Int), .int .i64 0, .slice none 0 0] 34)
      have hown := owns_below HO.out hal
      have hne : v.ownBlock ≠ some (w.heap.size + 1) := fun e => by
        rcases hown.2 with ⟨rfl, _⟩ | ⟨g, cap, cur, rfl, hB, _⟩
        · cases e
        · simp only [Value.ownBlock, Option.some.injEq] at e; omega
      have hne0 : v.ownBlock ≠ some w.heap.size := fun e => by
        rcases hown.2 with ⟨rfl, _⟩ | ⟨g, cap, cur, rfl, hB, _⟩
        · cases e
        · simp only [Value.ownBlock, Option.some.injEq] at e; omega
      have hu : (wr.alloc (.cells #[.int .i64 (k : Int), .int .i64 0, .slice none 0 0] 34)).heap[wr.heap.size]? = some (.cells #[.int .i64 (k : Int), .int .i64 0, .slice none 0 0] 34 (0, 0)) := heap_alloc_new _ _
      have HU := hide hu
      have HOW := hide hown
      have HAL := hide hal
      have HNE := hide hne
      have HNE0 := hide hne0
      clear hu hown hal hne hne0
      go_wp2_with (at_builtin; refine app_rgn _ rfl _ _ rfl (w.heap.size + 2) k (cN k) (k : Int) v rfl HOW.out _ 1 rfl HU.out (by omega) (Nat.le_trans HSZ.out HAL.out.size) ?_)
      intro v' w1 hv' hg
      have HB3 := hide (show WB w1 (w.heap.size + 1) v (.slice none 0 0) from (HB2.out.down HAL.out).gb hg (fun e => HNE.out e.symm))
      have HB0 := hide (show WB w1 w.heap.size (.slice none 0 0) (.slice none 0 0) from (HB1.out.down HAL.out).gb hg (fun e => HNE0.out e.symm))
      obtain ⟨⟨p0, p1⟩, q0, q1⟩ := HB3.out.duo
      have hgl : ∀ g, v.ownBlock = some g → w.heap.size + 2 ≤ g := fun g hh => by
        rcases HOW.out.2 with ⟨rfl, _⟩ | ⟨g', cap, cur, rfl, hB, _⟩
        · cases hh
        · simp only [Value.ownBlock, Option.some.injEq] at hh; omega
      have hb1 : Below w.heap.size (wr.alloc (.cells #[.int .i64 (k : Int), .int .i64 0, .slice none 0 0] 34)) w1 :=
        ⟨hg.os, hg.tape, hg.output, hg.size, fun j hj => hg.block j (Nat.lt_of_lt_of_le hj (Nat.le_trans hbw.size HAL.out.size)) (fun e => by have := hgl j e.symm; omega)⟩
      have hbx := (hbw.trans (HAL.out.mono hbw.size)).trans hb1
      have hsx : w.heap.size + 2 ≤ w1.heap.size := Nat.le_trans (Nat.le_trans HSZ.out HAL.out.size) hg.size
      obtain ⟨a', c', rfl, -⟩ := own_cells hv' (by rw [hv'.1])
      have hne' : (Value.slice a' (k + 1) c').ownBlock ≠ some (w.heap.size + 1) := fun e => by
        rcases hv'.2 with ⟨h0, _⟩ | ⟨g', cap, cur, h0, hB, _⟩
        · rw [h0] at e; cases e
        · rw [h0] at e; simp only [Value.ownBlock, Option.some.injEq] at e; omega
      have hcn : cN k ++ f3 (k : Int) 0 = cN (k + 1) := by
        rcases (show k = 0 ∨ k = 1 by omega) with e | e <;> subst e <;> rfl
      rw [hcn] at hv'
      have HV := hide (show (w1.setCell ⟨w.heap.size + 1, 0, none⟩ (.slice a' (k + 1) c')).ownsRow (w.heap.size + 2) 34 3 (.slice a' (k + 1) c') (k + 1) (cN (k + 1)) from owns_other hv' (gb_set (gb_refl w1 (some (w.heap.size + 1)))) (fun g hg' e => hne' (by rw [hg', e])))
      have HB4 := hide (show WB (w1.setCell ⟨w.heap.size + 1, 0, none⟩ (.slice a' (k + 1) c')) (w.heap.size + 1) (.slice a' (k + 1) c') (.slice none 0 0) from HB3.out.set0 _)
      have HB5 := hide (show WB (w1.setCell ⟨w.heap.size + 1, 0, none⟩ (.slice a' (k + 1) c')) w.heap.size (.slice none 0 0) (.slice none 0 0) from HB0.out.off (by omega) _)
      have hby := hbx.setCell (p := ⟨w.heap.size + 1, 0, none⟩) (by show w.heap.size ≤ w.heap.size + 1; omega) (.slice a' (k + 1) c')
      have HSY := hide (show w.heap.size + 2 ≤ (w1.setCell ⟨w.heap.size + 1, 0, none⟩ (.slice a' (k + 1) c')).heap.size by rw [World.size_setCell]; exact hsx)
      clear hv' hg c0 c1 f0 f1 HB3 HB0 hbx hsx hb1 hgl HOW HU HO HB1 HB2 hcn hne'
      go_wp2
      go_roundw
      case rel => exact ⟨k + 1, _, by omega, by go_num, HV, HB5, HB4, HSY, hby⟩
      case measure => simp [intOf]; omega
    · obtain rfl : k = 2 := by omega
      have hW2 : W2 wr (w.heap.size + 2) v 0 0 1 0 := HO.out
      obtain ⟨g, cap, rfl, hB, hg⟩ := hW2.form
      obtain ⟨⟨c0, c1⟩, f0, f1⟩ := HB2.out.duo
      obtain ⟨⟨d0, d1⟩, g0, g1⟩ := HB1.out.duo
      have HWW := hide hW2
      obtain ⟨WZ, hWZ⟩ : ∃ WZ, (wr.setCell ⟨w.heap.size, 0, none⟩ (.slice (some ⟨g, 0, none⟩) 2 cap)).setCell ⟨w.heap.size, 1, none⟩ (.slice none 0 0) = WZ := ⟨_, rfl⟩
      have HZ := hide (show WB WZ w.heap.size (.slice (some ⟨g, 0, none⟩) 2 cap) (.slice none 0 0) from by rw [← hWZ]; exact (HB1.out.set0 _).set1 _)
      have HZW := hide (show W2 WZ w.heap.size (.slice (some ⟨g, 0, none⟩) 2 cap) 0 0 1 0 from by
        rw [← hWZ]
        exact ((hW2.grown (gb_set (gb_refl wr (some w.heap.size))) (fun q hq e => by simp only [Value.ownBlock, Option.some.injEq] at hq e; omega)).grown (gb_set (gb_refl _ (some w.heap.size))) (fun q hq e => by simp only [Value.ownBlock, Option.some.injEq] at hq e; omega)).mono (by omega))
      have HZB := hide (show Below w.heap.size w WZ from by rw [← hWZ]; exact (hbw.setCell (p := ⟨w.heap.size, 0, none⟩) (Nat.le_refl _) _).setCell (p := ⟨w.heap.size, 1, none⟩) (Nat.le_refl _) _)
      have HWZ := hide hWZ
      clear hW2 hWZ HO HB1 HB2
      go_wp2
      rw [HWZ.out]
      clear c0 c1 f0 f1 d0 d1 g0 g1
      obtain ⟨⟨e0, e1⟩, -⟩ := HZ.out.duo
      exact bodyPost_ret (v := wdv (.slice (some ⟨g, 0, none⟩) 2 cap)) (by simp [results, Try.results5, go_sem, e0, e1]) rfl ⟨⟨_, rfl, HZW.out⟩, HZB.out⟩
set_option maxRecDepth 20000 in
set_option maxHeartbeats 2000000 in
theorem spec_newW (w : World) : Calls Try.prog 4 #[] w fun e w' => (∃ v, e = .returned (wdv v) ∧ W2 w' w.heap.size v 0 0 1 0) ∧ Below w.heap.size w w' := by
  obtain ⟨WZ, hW⟩ : ∃ WZ, (w.alloc (.cells #[.slice (some ⟨w.heap.size + 1, 0, none⟩) 2 2, .slice none 0 0] 25)).alloc (.cells #[.int .i64 0, .int .i64 0, .slice none 0 0, .int .i64 1, .int .i64 0, .slice none 0 0] 34) = WZ := ⟨_, rfl⟩
  have hal1 := low1 w (.cells #[.slice (some ⟨w.heap.size + 1, 0, none⟩) 2 2, .slice none 0 0] 25)
  have HZB := hide (show Below w.heap.size w WZ from by rw [← hW]; exact hal1.alloc (by simp) _)
  have HZ := hide (show WB WZ w.heap.size (.slice (some ⟨w.heap.size + 1, 0, none⟩) 2 2) (.slice none 0 0) from by rw [← hW]; exact (WB.new w _ _).down (low1 _ _))
  have HZW := hide (show W2 WZ w.heap.size (.slice (some ⟨w.heap.size + 1, 0, none⟩) 2 2) 0 0 1 0 from by
    rw [← hW]
    have h1 := World.ownsRow_lit (base := w.heap.size) (e := 34) (size := 3) (w.alloc (.cells #[.slice (some ⟨w.heap.size + 1, 0, none⟩) 2 2, .slice none 0 0] 25)) #[.int .i64 0, .int .i64 0, .slice none 0 0, .int .i64 1, .int .i64 0, .slice none 0 0] 2 (by simp) (by unfold maxLen; omega) rfl
    rw [World.size_alloc] at h1
    exact h1)
  have HW := hide hW
  clear hal1 hW
  go_enter Try.func4, Try.ntmps4
  go_wp2
  rw [HW.out]
  obtain ⟨⟨e0, e1⟩, -⟩ := HZ.out.duo
  exact bodyPost_ret (v := wdv (.slice (some ⟨w.heap.size + 1, 0, none⟩) 2 2)) (by simp [results, Try.results4, go_sem, e0, e1]) rfl ⟨⟨_, rfl, HZW.out⟩, HZB.out⟩
theorem eq_brs (w : World) : Calls Try.prog 23 #[.slice none 0 0, .slice none 0 0] w fun e w' => e = .returned (.bool true) ∧ w' = w := by
  go_enter Try.func23, Try.ntmps23
  go_wp2
  go_loopw [5] (fun i wr => i = .int .i64 0 ∧ wr = w) (fun _ _ => 0)
  case atStart => exact ⟨rfl, rfl⟩
  case round =>
    obtain ⟨rfl, rfl⟩ := hrel
    go_wp2
    go_ret
    exact ⟨rfl, rfl⟩
theorem mark_brs (k : Int) (w : World) : Calls Try.prog 17 #[.slice none 0 0, .int .i64 k] w fun e w' => e = .returned (.int .i64 k) ∧ w' = w := by
  go_enter Try.func17, Try.ntmps17
  go_wp2
  go_loopw [1, 5] (fun j i wr => j = .int .i64 k ∧ i = .int .i64 0 ∧ wr = w) (fun _ _ _ => 0)
  case atStart => exact ⟨rfl, rfl, rfl⟩
  case round =>
    obtain ⟨rfl, rfl, rfl⟩ := hrel
    go_wp2
    go_ret
    exact ⟨rfl, rfl⟩
theorem held_brs (k : Int) (w : World) : Calls Try.prog 18 #[.slice none 0 0, .int .i64 k] w fun e w' => e = .returned (.int .i64 k) ∧ w' = w := by
  go_enter Try.func18, Try.ntmps18
  go_wp2
  go_loopw [1, 5] (fun j i wr => j = .int .i64 k ∧ i = .int .i64 0 ∧ wr = w) (fun _ _ _ => 0)
  case atStart => exact ⟨rfl, rfl, rfl⟩
  case round =>
    obtain ⟨rfl, rfl, rfl⟩ := hrel
    go_wp2
    go_ret
    exact ⟨rfl, rfl⟩
theorem eq_sds (w : World) : Calls Try.prog 10 #[.slice none 0 0, .slice none 0 0] w fun e w' => e = .returned (.bool true) ∧ w' = w := by
  go_enter Try.func10, Try.ntmps10
  go_wp2
  go_loopw [5] (fun i wr => i = .int .i64 0 ∧ wr = w) (fun _ _ => 0)
  case atStart => exact ⟨rfl, rfl⟩
  case round =>
    obtain ⟨rfl, rfl⟩ := hrel
    go_wp2
    go_ret
    exact ⟨rfl, rfl⟩
theorem mark_sds (k : Int) (w : World) : Calls Try.prog 12 #[.slice none 0 0, .int .i64 k] w fun e w' => e = .returned (.int .i64 k) ∧ w' = w := by
  go_enter Try.func12, Try.ntmps12
  go_wp2
  go_loopw [1, 5] (fun j i wr => j = .int .i64 k ∧ i = .int .i64 0 ∧ wr = w) (fun _ _ _ => 0)
  case atStart => exact ⟨rfl, rfl, rfl⟩
  case round =>
    obtain ⟨rfl, rfl, rfl⟩ := hrel
    go_wp2
    go_ret
    exact ⟨rfl, rfl⟩
theorem held_sds (k : Int) (w : World) : Calls Try.prog 14 #[.slice none 0 0, .int .i64 k] w fun e w' => e = .returned (.int .i64 k) ∧ w' = w := by
  go_enter Try.func14, Try.ntmps14
  go_wp2
  go_loopw [1, 5] (fun j i wr => j = .int .i64 k ∧ i = .int .i64 0 ∧ wr = w) (fun _ _ _ => 0)
  case atStart => exact ⟨rfl, rfl, rfl⟩
  case round =>
    obtain ⟨rfl, rfl, rfl⟩ := hrel
    go_wp2
    go_ret
    exact ⟨rfl, rfl⟩
theorem eq_tel (w : World) : Calls Try.prog 19 #[.agg #[.slice none 0 0], .agg #[.slice none 0 0]] w fun e w' => e = .returned (.bool true) ∧ Below w.heap.size w w' := by
  have hb := (low1 w (.cells #[.slice none 0 0] 32)).alloc (by simp) (.cells #[.slice none 0 0] 32)
  go_enter Try.func19, Try.ntmps19
  go_wp2_with (go_at_call 23; refine (eq_brs _).mono ?_; rintro e w' ⟨rfl, rfl⟩)
  go_ret
  exact ⟨rfl, hb⟩
theorem eq_reg (i j : Int) (w : World) : Calls Try.prog 15 #[rn i j, rn i j] w fun e w' => e = .returned (.bool true) ∧ Below w.heap.size w w' := by
  have hb : Below w.heap.size w (((w.alloc (.cells #[.int .i64 i, .int .i64 j, .slice none 0 0] 34)).alloc (.cells #[.int .i64 i, .int .i64 j, .slice none 0 0] 34))) := (low1 w _).alloc (by simp) _
  have hne : (i != i) = false := by simp
  have hne2 : (j != j) = false := by simp
  go_enter Try.func15, Try.ntmps15
  go_wp2_with fail
  refine (eq_tel _).mono ?_
  rintro e w1 ⟨rfl, hb1⟩
  have hbz := hb.trans (hb1.mono hb.size)
  clear hb hb1
  go_wp2
  go_ret
  exact ⟨rfl, hbz⟩
set_option maxHeartbeats 2000000 in
theorem eq_rgs (B C : Nat) (v u : Value) (a b c d : Int) (w : World) (hv : W2 w B v a b c d) (hu : W2 w C u a b c d) : Calls Try.prog 9 #[v, u] w fun e w' => e = .returned (.bool true) ∧ Below w.heap.size w w' := by
  obtain ⟨g, cap, rfl, -, hg⟩ := hv.form
  obtain ⟨g2, cap2, rfl, -, hg2⟩ := hu.form
  have HV := hide hv
  have HU := hide hu
  clear hv hu
  go_enter Try.func9, Try.ntmps9
  go_wp2
  go_loopw [5] (fun i wr => ∃ k : Nat, k ≤ 2 ∧ i = .int .i64 k ∧ Below w.heap.size w wr) (fun i _ => 2 - (intOf i).toNat)
  case atStart => exact ⟨0, by omega, rfl, Below.refl _ _⟩
  case round =>
    obtain ⟨k, hk, rfl, hbw⟩ := hrel
    by_cases hlt : k < 2
    · obtain ⟨x, y, hx, hy⟩ : ∃ x y, (∀ wr, Below w.heap.size w wr → wr.cell? ⟨g, k * 3, none⟩ = some (.int .i64 x) ∧ wr.cell? ⟨g, k * 3 + 1, none⟩ = some (.int .i64 y) ∧ wr.cell? ⟨g, k * 3 + 2, none⟩ = some (.slice none 0 0)) ∧ (∀ wr, Below w.heap.size w wr → wr.cell? ⟨g2, k * 3, none⟩ = some (.int .i64 x) ∧ wr.cell? ⟨g2, k * 3 + 1, none⟩ = some (.int .i64 y) ∧ wr.cell? ⟨g2, k * 3 + 2, none⟩ = some (.slice none 0 0)) := by
        rcases (show k = 0 ∨ k = 1 by omega) with e | e
        · subst e; exact ⟨a, b, fun wr h => (HV.out.down h).cells.1, fun wr h => (HU.out.down h).cells.1⟩
        · subst e; exact ⟨c, d, fun wr h => (HV.out.down h).cells.2, fun wr h => (HU.out.down h).cells.2⟩
      obtain ⟨c0, c1, c2⟩ := hx wr hbw
      obtain ⟨e0, e1, e2⟩ := hy wr hbw
      have k0 := cell_regrown c0
      have k1 := cell_regrown c1
      have k2 := cell_regrown c2
      have g0 := cell_regrown e0
      have g1 := cell_regrown e1
      have g2' := cell_regrown e2
      have hi0 : (0 : Int) ≤ (k : Int) := by omega
      have hi1 : (k : Int) < 2 := by omega
      have hi2 : (k : Int) < ((2 : Nat) : Int) := by omega
      have HE := hide (show ∀ d os, Calls Try.prog 15 #[rn x y, rn x y] (grow (redrawn wr d) os) fun e w'' => e = .returned (.bool true) ∧ ∃ p : Regrown, w'' = grow (redrawn wr p.d) p.os from fun d os => Calls.regrown_of (eq_reg x y _))
      clear hx hy c0 c1 c2 e0 e1 e2
      go_wp2
      refine wp_region_quiet_below (by kernel_rfl) (by kernel_rfl) ?_
      repeat (go_big_quiet_step (exact HE.out _ _))
      refine wpQuiet_nil ?_
      intro _ hw'
      obtain ⟨⟨dq, osq⟩, hw''⟩ := hw'
      subst hw''
      have hbw2 := hbw.trans ((below_regrown wr dq osq).mono hbw.size)
      clear HE k0 k1 k2 g0 g1 g2'
      go_wp2
      go_roundw
      case rel => exact ⟨k + 1, by omega, by go_num, hbw2⟩
      case measure => simp [intOf]; omega
    · go_wp2
      go_ret
      exact ⟨rfl, hbw⟩
set_option maxHeartbeats 2000000 in
theorem mark_rgs (B : Nat) (g cap : Nat) (w : World) (hv : W2 w B (.slice (some ⟨g, 0, none⟩) 2 cap) 0 0 1 0) : Calls Try.prog 11 #[.slice (some ⟨g, 0, none⟩) 2 cap, .int .i64 1] w fun e w' => e = .returned (.int .i64 5) ∧ W2 w' B (.slice (some ⟨g, 0, none⟩) 2 cap) 1 2 3 4 ∧ w.grownBy w' (some g) := by
  obtain ⟨⟨c0, c1, c2⟩, c3, c4, c5⟩ := hv.cells
  have f0 := hv.thaw 0
  have f1 := hv.thaw 1
  have f3 := hv.thaw 3
  have f4 := hv.thaw 4
  have hz := (((hv.set (a' := 1) (b' := 0) (c' := 1) (d' := 0) 0 (.int .i64 1) rfl).set (a' := 1) (b' := 2) (c' := 1) (d' := 0) 1 (.int .i64 2) rfl).set (a' := 1) (b' := 2) (c' := 3) (d' := 0) 3 (.int .i64 3) rfl).set (a' := 1) (b' := 2) (c' := 3) (d' := 4) 4 (.int .i64 4) rfl
  have hg := gb_set (o := 4) (v := .int .i64 4) (gb_set (o := 3) (v := .int .i64 3) (gb_set (o := 1) (v := .int .i64 2) (gb_set (o := 0) (v := .int .i64 1) (gb_refl w (some g)))))
  have HZ := hide hz
  have HG := hide hg
  clear hv hz hg
  go_enter Try.func11, Try.ntmps11
  go_wp2
  refine wp_loop_rounds 3 ?_
  rw [rounds_succ]
  go_wp2_with (go_at_call 17; refine (mark_brs _ _).mono ?_; rintro e w' ⟨rfl, rfl⟩)
  rw [rounds_succ]
  go_wp2_with (go_at_call 17; refine (mark_brs _ _).mono ?_; rintro e w' ⟨rfl, rfl⟩)
  rw [rounds_succ]
  go_wp2
  go_ret
  exact ⟨rfl, HZ.out, HG.out⟩
set_option maxHeartbeats 2000000 in
theorem held_rgs (B : Nat) (g cap : Nat) (w : World) (hv : W2 w B (.slice (some ⟨g, 0, none⟩) 2 cap) 1 2 3 4) : Calls Try.prog 13 #[.slice (some ⟨g, 0, none⟩) 2 cap, .int .i64 1] w fun e w' => e = .returned (.int .i64 5) ∧ w' = w := by
  obtain ⟨⟨c0, c1, c2⟩, c3, c4, c5⟩ := hv.cells
  clear hv
  go_enter Try.func13, Try.ntmps13
  go_wp2
  refine wp_loop_rounds 3 ?_
  rw [rounds_succ]
  go_wp2_with (go_at_call 18; refine (held_brs _ _).mono ?_; rintro e w' ⟨rfl, rfl⟩)
  rw [rounds_succ]
  go_wp2_with (go_at_call 18; refine (held_brs _ _).mono ?_; rintro e w' ⟨rfl, rfl⟩)
  rw [rounds_succ]
  go_wp2
  go_ret
  exact ⟨rfl, rfl⟩
set_option maxHeartbeats 2000000 in
theorem eq_wd (B C : Nat) (v u : Value) (a b c d : Int) (w : World) (hv : W2 w B v a b c d) (hu : W2 w C u a b c d) : Calls Try.prog 6 #[wdv v, wdv u] w fun e w' => e = .returned (.bool true) ∧ Below w.heap.size w w' := by
  have hal : Below w.heap.size w ((w.alloc (.cells #[v, .slice none 0 0] 25)).alloc (.cells #[u, .slice none 0 0] 25)) := (low1 w _).alloc (by simp) _
  have HV := hide (hv.down hal)
  have HU := hide (hu.down hal)
  have HC1 := hide (show WB ((w.alloc (.cells #[v, .slice none 0 0] 25)).alloc (.cells #[u, .slice none 0 0] 25)) w.heap.size v (.slice none 0 0) from (WB.new w _ _).down (low1 _ _))
  have HC2 := hide (show WB ((w.alloc (.cells #[v, .slice none 0 0] 25)).alloc (.cells #[u, .slice none 0 0] 25)) (w.heap.size + 1) u (.slice none 0 0) from by
    have := WB.new (w.alloc (.cells #[v, .slice none 0 0] 25)) u (.slice none 0 0)
    rw [World.size_alloc] at this; exact this)
  obtain ⟨g, cap, rfl, -, -⟩ := hv.form
  obtain ⟨g', cap', rfl, -, -⟩ := hu.form
  clear hv hu
  go_enter Try.func6, Try.ntmps6
  go_wp2_with fail
  refine (eq_rgs B C _ _ a b c d _ HV.out HU.out).mono ?_
  rintro e w1 ⟨rfl, hb1⟩
  have hbw := hal.trans (hb1.mono hal.size)
  obtain ⟨⟨d0, d1⟩, -⟩ := (HC1.out.down hb1).duo
  obtain ⟨⟨e0, e1⟩, -⟩ := (HC2.out.down hb1).duo
  clear hb1 hal HV HU HC1 HC2
  go_wp2_with fail
  refine (eq_sds _).mono ?_
  rintro e w2 ⟨rfl, rfl⟩
  clear d0 d1 e0 e1
  go_wp2
  go_ret
  exact ⟨rfl, hbw⟩
set_option maxHeartbeats 2000000 in
theorem mark_wd (B g cap : Nat) (w : World) (hv : W2 w B (.slice (some ⟨g, 0, none⟩) 2 cap) 0 0 1 0) : Calls Try.prog 7 #[wdv (.slice (some ⟨g, 0, none⟩) 2 cap), .int .i64 1] w fun e w' => e = .returned (.int .i64 5) ∧ W2 w' B (.slice (some ⟨g, 0, none⟩) 2 cap) 1 2 3 4 ∧ w.grownBy w' (some g) := by
  have hal := low1 w (.cells #[.slice (some ⟨g, 0, none⟩) 2 cap, .slice none 0 0] 25)
  obtain ⟨_, _, hgg, -, hgl⟩ := hv.form
  simp only [Value.slice.injEq, Option.some.injEq, Addr.mk.injEq, and_true, true_and] at hgg
  obtain ⟨rfl, rfl⟩ := hgg
  have HV := hide (hv.down hal)
  have HC := hide (WB.new w (.slice (some ⟨g, 0, none⟩) 2 cap) (.slice none 0 0))
  have HG := hide (gb_below (gb_refl w (some g)) hal)
  clear hv hal
  go_enter Try.func7, Try.ntmps7
  go_wp2_with fail
  refine (mark_rgs B g cap _ HV.out).mono ?_
  rintro e w1 ⟨rfl, hO, hg⟩
  obtain ⟨⟨d0, d1⟩, -⟩ := (HC.out.gb hg (fun e => by simp only [Option.some.injEq] at e; omega)).duo
  have HO := hide hO
  have HG2 := hide (show w.grownBy w1 (some g) from ⟨hg.os.trans HG.out.os, hg.tape.trans HG.out.tape, hg.output.trans HG.out.output, Nat.le_trans HG.out.size hg.size, fun k hk hne => (hg.block k (Nat.lt_of_lt_of_le hk HG.out.size) hne).trans (HG.out.block k hk hne)⟩)
  clear hO hg HC HV HG
  go_wp2_with fail
  refine (mark_sds _ _).mono ?_
  rintro e w2 ⟨rfl, rfl⟩
  clear d0 d1
  go_wp2
  go_ret
  exact ⟨rfl, HO.out, HG2.out⟩
set_option maxHeartbeats 2000000 in
theorem held_wd (B g cap : Nat) (w : World) (hv : W2 w B (.slice (some ⟨g, 0, none⟩) 2 cap) 1 2 3 4) : Calls Try.prog 8 #[wdv (.slice (some ⟨g, 0, none⟩) 2 cap), .int .i64 1] w fun e w' => e = .returned (.int .i64 5) ∧ Below w.heap.size w w' := by
  have hal := low1 w (.cells #[.slice (some ⟨g, 0, none⟩) 2 cap, .slice none 0 0] 25)
  have HV := hide (hv.down hal)
  have HC := hide (WB.new w (.slice (some ⟨g, 0, none⟩) 2 cap) (.slice none 0 0))
  obtain ⟨⟨d0, d1⟩, -⟩ := HC.out.duo
  clear hv
  go_enter Try.func8, Try.ntmps8
  go_wp2_with fail
  refine (held_rgs B g cap _ HV.out).mono ?_
  rintro e w1 ⟨rfl, rfl⟩
  go_wp2_with fail
  refine (held_sds _ _).mono ?_
  rintro e w2 ⟨rfl, rfl⟩
  clear d0 d1
  go_wp2
  go_ret
  exact ⟨rfl, hal⟩
set_option maxRecDepth 20000 in
set_option maxHeartbeats 4000000 in
theorem law_newW (w : World) : Calls Try.prog 3 #[] w fun e w' => e = .returned (.bool true) ∧ Below w.heap.size w w' := by
  go_enter Try.func3, Try.ntmps3
  go_wp2_with fail
  refine (spec_newW _).mono ?_
  rintro e w1 ⟨⟨v, rfl, hv⟩, hb1⟩
  have hal := low1 w1 (.cells #[v, .slice none 0 0] 25)
  have HS := hide (hv.down hal)
  have HSB := hide (WB.new w1 v (.slice none 0 0))
  have hb2 := hb1.trans (hal.mono hb1.size)
  obtain ⟨g, cap, rfl, hgB, hgl⟩ := hv.form
  have hgl2 : g < w1.heap.size := hgl
  clear hv hb1 hal
  go_wp2_with fail
  refine (impl_newW _).mono ?_
  rintro e w3 ⟨⟨u, rfl, hu⟩, hb3⟩
  have hal := low1 w3 (.cells #[u, .slice none 0 0] 25)
  have hup := hb3.trans (hal.mono hb3.size)
  have HS4 := hide (HS.out.down hup)
  have HSB4 := hide (HSB.out.down hup)
  have HU4 := hide (hu.down hal)
  have HUB4 := hide (WB.new w3 u (.slice none 0 0))
  have hb4 := hb2.trans (hup.mono hb2.size)
  obtain ⟨g2, cap2, rfl, hgB2, hgl2'⟩ := hu.form
  have hw2 : w1.heap.size + 1 ≤ g2 := by have := World.size_alloc w1 (.cells #[.slice (some ⟨g, 0, none⟩) 2 cap, .slice none 0 0] 25); omega
  obtain ⟨⟨s0, s1⟩, -⟩ := HSB4.out.duo
  obtain ⟨⟨u0, u1⟩, -⟩ := HUB4.out.duo
  have hsz3 : w1.heap.size + 1 ≤ w3.heap.size := by omega
  clear hu hal hup hb3 hb2 HS HSB
  go_wp2_with fail
  refine (eq_wd _ _ _ _ 0 0 1 0 _ HU4.out HS4.out).mono ?_
  rintro e w5 ⟨rfl, hb⟩
  have HS5 := hide (HS4.out.down hb)
  have HSB5 := hide (HSB4.out.down hb)
  have HU5 := hide (HU4.out.down hb)
  have HUB5 := hide (HUB4.out.down hb)
  have hb5 := hb4.trans (hb.mono hb4.size)
  clear hb hb4 HS4 HSB4 HU4 HUB4 s0 s1 u0 u1
  obtain ⟨⟨u0, u1⟩, -⟩ := HUB5.out.duo
  go_wp2_with fail
  refine (mark_wd _ g2 cap2 _ HU5.out).mono ?_
  rintro e w6 ⟨rfl, hm, hg⟩
  have HU6 := hide hm
  have HS6 := hide (HS5.out.grown hg (fun q hq e => by simp only [Value.ownBlock, Option.some.injEq] at hq e; omega))
  have HSB6 := hide (HSB5.out.gb hg (fun e => by simp only [Option.some.injEq] at e; omega))
  have HUB6 := hide (HUB5.out.gb hg (fun e => by simp only [Option.some.injEq] at e; omega))
  have hb6 := hb5.trans ((gb_low hg (B := w.heap.size) (by have := hgB; omega) hb5.size))
  clear hm hg hb5 HS5 HSB5 HU5 HUB5 u0 u1
  obtain ⟨⟨u0, u1⟩, -⟩ := HUB6.out.duo
  go_wp2_with fail
  refine (held_wd _ g2 cap2 _ HU6.out).mono ?_
  rintro e w7 ⟨rfl, hb⟩
  have HS7 := hide (HS6.out.down hb)
  have HSB7 := hide (HSB6.out.down hb)
  have HU7 := hide (HU6.out.down hb)
  have HUB7 := hide (HUB6.out.down hb)
  have hb7 := hb6.trans (hb.mono hb6.size)
  clear hb hb6 HS6 HSB6 HU6 HUB6 u0 u1
  go_wp2_with fail
  refine (impl_newW _).mono ?_
  rintro e w8 ⟨⟨x, rfl, hx⟩, hb8⟩
  have hal := low1 w8 (.cells #[x, .slice none 0 0] 25)
  have hup := hb8.trans (hal.mono hb8.size)
  have HS9 := hide (HS7.out.down hup)
  have HSB9 := hide (HSB7.out.down hup)
  have HU9 := hide (HU7.out.down hup)
  have HUB9 := hide (HUB7.out.down hup)
  have HX9 := hide (hx.down hal)
  have HXB9 := hide (WB.new w8 x (.slice none 0 0))
  have hb9 := hb7.trans (hup.mono hb7.size)
  obtain ⟨g3, cap3, rfl, -, -⟩ := hx.form
  clear hx hal hup hb8 hb7 HS7 HSB7 HU7 HUB7
  obtain ⟨⟨s0, s1⟩, -⟩ := HSB9.out.duo
  obtain ⟨⟨x0, x1⟩, -⟩ := HXB9.out.duo
  go_wp2_with fail
  refine (eq_wd _ _ _ _ 0 0 1 0 _ HX9.out HS9.out).mono ?_
  rintro e w10 ⟨rfl, hb⟩
  have HU10 := hide (HU9.out.down hb)
  have HUB10 := hide (HUB9.out.down hb)
  have hb10 := hb9.trans (hb.mono hb9.size)
  clear hb hb9 HS9 HSB9 HU9 HUB9 HX9 HXB9 s0 s1 x0 x1
  obtain ⟨⟨u0, u1⟩, -⟩ := HUB10.out.duo
  go_wp2_with fail
  refine (held_wd _ g2 cap2 _ HU10.out).mono ?_
  rintro e w11 ⟨rfl, hb⟩
  have hb11 := hb10.trans (hb.mono hb10.size)
  clear hb hb10 HU10 HUB10 u0 u1
  go_wp2
  go_ret
  exact ⟨rfl, hb11⟩
end Go.Proofs.Ytjgopjnkkhkcnaa

/-
  slices.Backward of moves, and the program's canUndo.
-/
import Derived.Test.YtmpedadjikmnhaaSgR
import Derived.Test.YtmpedadjikmnhaaSgE
namespace Go.Proofs.Ytmpedadjikmnhaa
open Go.RowKit M
open Clk (upd upd_same upd_other)
open Go.Sort (grow)
attribute [local go_sem] Oper.semAt_some
/-- The moves that Backward goes through, and the box of their slice. -/
def M.BackM (bl : Nat) (s : Value) (n : Nat) (l : Nat → Mv) (W : World) : Prop :=
  W.cell? ⟨bl, 0, none⟩ = some s ∧ MovesOf W s n (fl l)
theorem backward_is (a : Option Addr) (n cap : Nat) (w : World) :
    Calls Try.prog 66 #[.slice a n cap] w fun e w' => e = .returned (.func (.func 73) #[] #[.pointer (some ⟨w.heap.size, 0, none⟩)]) ∧ w' = w.alloc (.cells #[.slice a n cap] 25) := by
  go_enter Try.func66, Try.ntmps66
  go_wp2
  go_ret
  exact ⟨rfl, rfl⟩
set_option maxRecDepth 20000 in
set_option maxHeartbeats 2000000 in
theorem backward_seq (bl : Nat) (a : Option Addr) (n cap : Nat) (l : Nat → Mv) (hn : n ≤ 1048576) :
    SeqS Try.prog 73 #[.pointer (some ⟨bl, 0, none⟩)] (fun j => #[.int .i64 ((n : Int) - 1 - j), mvv (l (n - 1 - j))]) n (BackM bl (.slice a n cap) n l) := by
  intro ll J Jx W h0 hC hY
  have HY := hide hY
  have HC := hide hC
  have H0 := hide h0
  obtain ⟨c0, -⟩ := hC _ _ h0
  clear h0 hC hY
  refine callsIn_of_wp Try.func73 rfl trivial ?_ rfl
  simp only [Try.ntmps73, List.size_toArray, List.length_cons, List.length_nil, Nat.reduceAdd, Nat.reduceSub, Array.replicate_succ, Array.replicate_zero, List.push_toArray, List.append_toArray, List.nil_append, List.cons_append]
  gi_wp2
  gi_loopw [3] (fun c wr => ∃ (i : Nat), i ≤ n ∧ c = .int .i64 ((n : Int) - 1 - i) ∧ Hid (J i wr)) (fun c _ => (intOf c + 1).toNat)
  case atStart => exact ⟨0, Nat.zero_le _, by go_num, H0⟩
  case round =>
    rename World => wo
    obtain ⟨i, hi, rfl, HJ⟩ := hrel
    by_cases hil : i < n
    · obtain ⟨c1, hM⟩ := HC.out _ _ HJ.out
      obtain ⟨ab, cb, he, hr⟩ := hM.row
      cases he
      obtain ⟨b, o, rfl, hb, hrow⟩ := hr (by omega)
      obtain ⟨r0, r1, r2⟩ := hrow (n - 1 - i) (by omega)
      have hnat : ((n : Int) - 1 - i) = ((n - 1 - i : Nat) : Int) := by omega
      have hpos : (0 : Int) ≤ ((n - 1 - i : Nat) : Int) := by omega
      have hps : ((n - 1 - i : Nat) : Int) < n := by omega
      obtain ⟨fn, tmps, assign, body, hy, hR⟩ := HY.out i wo hil HJ.out
      rw [hnat] at hy
      rw [hnat]
      generalize hm : n - 1 - i = m at *
      have HR := hide hR
      clear hrow hr hM hR
      unfold mvv at hy
      generalize (l m).f = x0 at *
      generalize (l m).t = x1 at *
      generalize (l m).m = x2 at *
      gi_wp2
      refine HR.out.mono ?_
      rintro e w3 (⟨rfl, hj3⟩ | ⟨rfl, hj3⟩)
      · have HJ3 := hide hj3
        clear hy HR hj3
        gi_wp2
        exact ⟨⟨i + 1, by omega, by go_num, HJ3⟩, by simp [intOf]⟩
      · have HJ3 := hide hj3
        clear hy HR hj3
        gi_wp2
        refine bodyPost_ret (results_none rfl _ _ _) rfl ?_
        exact ⟨⟨_, rfl⟩, .inr HJ3.out⟩
    · obtain rfl : i = n := by omega
      have hne : ¬ ((i : Int) - 1 - i ≥ 0) := by omega
      gi_wp2
      refine bodyPost_end (results_none rfl _ _ _) rfl ?_
      exact ⟨⟨_, rfl⟩, .inl HJ.out⟩
namespace M
theorem Blk.kept {S : Nat → Prop} {A B : World} {g n : Nat} {f : Nat → Value} {t : TypeId} (h : Blk A g n f t) (hk : Kept S A B) (hg : ¬ S g) : Blk B g n f t := by
  unfold Blk; rw [hk.block g h.lt hg]; exact h
theorem OwnB.keptS {S : Nat → Prop} {A B : World} {g n c : Nat} {f : Nat → Int} (h : OwnB A g n c f) (hk : Kept S A B) (hg : ¬ S g) : OwnB B g n c f := by
  obtain ⟨hc, k, hb, he⟩ := h
  exact ⟨hc, k, hb.kept hk hg, he⟩
theorem Kept.of_down {S : Nat → Prop} {A B : World} (hb : Below A.heap.size A B) : Kept S A B := ⟨hb.os, hb.tape, hb.output, hb.size, fun k hk _ => hb.block k hk⟩
theorem IntsOf.cap {w : World} {a : Option Addr} {n c : Nat} {f : Nat → Int} (h : IntsOf w (.slice a n c) n f) (c' : Nat) : IntsOf w (.slice a n c') n f := by
  obtain ⟨a', c'', e, hr⟩ := h
  cases e
  exact ⟨a, c', rfl, hr⟩
/-- What each round of canUndo keeps: the answer's cell, the box of the accounts' copy, the copy, the iterator's box. -/
structure CU (w : World) (r : Bool) (gl na cp c gb : Nat) (fa : Nat → Int) (u : Value) (B : Nat) (W : World) : Prop where
  ans : Blk W w.heap.size 1 (fun _ => .bool r) 4
  box : Blk W gb 1 (fun _ => .slice (some ⟨gl, 0, none⟩) na cp) 22
  own : OwnB W gl na c fa
  itr : Blk W B 1 (fun _ => u) 25
  bel : Below w.heap.size w W
  h1 : w.heap.size < gl
  h2 : w.heap.size < gb
  h3 : w.heap.size < B
theorem CU.keptS {S : Nat → Prop} {w : World} {r : Bool} {gl na cp c gb : Nat} {fa : Nat → Int} {u : Value} {B : Nat} {W W' : World} (h : CU w r gl na cp c gb fa u B W) (hk : Kept S W W') (hS : ∀ k, S k → w.heap.size < k ∧ k ≠ gl ∧ k ≠ gb ∧ k ≠ B) : CU w r gl na cp c gb fa u B W' :=
  ⟨h.ans.kept hk (fun hs => by have := hS _ hs; omega), h.box.kept hk (fun hs => (hS _ hs).2.2.1 rfl), h.own.keptS hk (fun hs => (hS _ hs).2.1 rfl), h.itr.kept hk (fun hs => (hS _ hs).2.2.2 rfl), hk.below h.bel h.bel.size (fun k hs => by have := hS _ hs; omega), h.h1, h.h2, h.h3⟩
theorem CU.down {w : World} {r : Bool} {gl na cp c gb : Nat} {fa : Nat → Int} {u : Value} {B : Nat} {W W' : World} (h : CU w r gl na cp c gb fa u B W) (hb : Below W.heap.size W W') : CU w r gl na cp c gb fa u B W' :=
  h.keptS (S := fun _ => False) (Kept.of_down hb) (fun _ hs => hs.elim)
end M
set_option maxRecDepth 20000 in
set_option maxHeartbeats 4000000 in
theorem can_undo (v u : Value) (na d : Nat) (fa : Nat → Int) (l : Nat → Mv) (b : Bool) (w : World) (hv : IntsOf w v na fa) (hu : MovesOf w u d (fl l)) (hna : 1 ≤ na ∧ na ≤ 8) (hd : d ≤ 20) (ha : Acc na fa) (hm : ∀ i, i < d → GM na (l i)) (hb : b = true ↔ Und l d fa) :
    Calls Try.prog 54 #[v, u] w fun e w' => e = .returned (.bool b) ∧ Below w.heap.size w w' := by
  have HV := hide hv
  have HU := hide hu
  have HA := hide ha
  have HM := hide hm
  have HB := hide hb
  obtain ⟨a, cap, rfl⟩ := hv.form
  obtain ⟨a2, cap2, rfl⟩ := hu.form
  have hbA := (Below.refl w.heap.size w).alloc (Nat.le_refl _) (.cells #[.bool false] 4)
  have hx0 : Blk (w.alloc (.cells #[.bool false] 4)) w.heap.size 1 (fun _ => .bool false) 4 := Blk.fresh w _ 1 _ 4 rfl
  clear hv hu ha hm hb
  refine (callsIn_wide (n := 3)).1 ?_
  refine callsIn_of_wp_marks Try.func54 rfl trivial ?_ rfl
  simp only [Try.ntmps54, List.size_toArray, List.length_cons, List.length_nil, Nat.reduceAdd, Nat.reduceSub, Array.replicate_succ, Array.replicate_zero, List.push_toArray, List.append_toArray, List.nil_append, List.cons_append]
  gi_wp2_with (refine ⟨trivial, ?_⟩; gi_at_call 64; refine (callsIn_wide.2 (clone_ints _ na fa _ (HV.out.below hbA) (by omega))).mono ?_; rintro e w1 ⟨⟨r, rfl, hr⟩, hb1⟩; obtain ⟨gl, c, cp, rfl, g1, g2, hO⟩ := (own_I hr).blk (by omega); clear hr)
  rw [World.size_alloc] at g1
  have hdn := (Below.refl w1.heap.size w1).alloc (Nat.le_refl _) (.cells #[.slice (some ⟨gl, 0, none⟩) na cp] 22)
  have HX := hide (show Blk (w1.alloc (.cells #[.slice (some ⟨gl, 0, none⟩) na cp] 22)) w.heap.size 1 (fun _ => .bool false) 4 ∧ Blk (w1.alloc (.cells #[.slice (some ⟨gl, 0, none⟩) na cp] 22)) w1.heap.size 1 (fun _ => .slice (some ⟨gl, 0, none⟩) na cp) 22 ∧ OwnB (w1.alloc (.cells #[.slice (some ⟨gl, 0, none⟩) na cp] 22)) gl na c fa ∧ Below w.heap.size w (w1.alloc (.cells #[.slice (some ⟨gl, 0, none⟩) na cp] 22)) from
    ⟨(hx0.down hb1).down hdn, Blk.fresh w1 _ 1 _ _ rfl, hO.down hdn, (hbA.trans (hb1.mono (by simp))).trans (hdn.mono (by have := hb1.size; simp at this; omega))⟩)
  have hs1 := hb1.size
  rw [World.size_alloc] at hs1
  obtain ⟨w2, hw2⟩ : ∃ w2, w1.alloc (.cells #[.slice (some ⟨gl, 0, none⟩) na cp] 22) = w2 := ⟨_, rfl⟩
  have hs2 : w2.heap.size = w1.heap.size + 1 := by rw [← hw2]; simp
  rw [hw2] at HX ⊢
  generalize w1.heap.size = gb at *
  clear hw2 hdn hb1 hO hbA hx0
  refine ⟨trivial, ?_⟩
  gi_at_call 66
  refine (callsIn_wide.2 (backward_is a2 d cap2 w2)).mono ?_
  rintro e w' ⟨rfl, rfl⟩
  have hdn := (Below.refl w2.heap.size w2).alloc (Nat.le_refl _) (.cells #[.slice a2 d cap2] 25)
  obtain ⟨w3, hw3⟩ : ∃ w3, w2.alloc (.cells #[.slice a2 d cap2] 25) = w3 := ⟨_, rfl⟩
  have HC0 := hide (show CU w false gl na cp c gb fa (.slice a2 d cap2) w2.heap.size w3 from by
    rw [← hw3]
    obtain ⟨x1, x2, x3, x4⟩ := HX.out
    exact ⟨x1.down hdn, x2.down hdn, x3.down hdn, Blk.fresh w2 _ 1 _ _ rfl, x4.trans (hdn.mono x4.size), by omega, by omega, by omega⟩)
  have hs3 : w3.heap.size = w2.heap.size + 1 := by rw [← hw3]; simp
  rw [hw3]
  generalize w2.heap.size = B at *
  clear hw3 hdn HX
  have hS := backward_seq B a2 d cap2 l (by omega)
  subst hs2
  gi_wp2
  refine wp_rangeS (gf := 73) (lb := #[.pointer (some ⟨gb + 1, 0, none⟩)]) rfl (enters_of Try.func73 (by kernel_rfl) rfl) hS (fun _ => rfl)
    (fun j W => ∃ fx, CU w false gl na cp c gb fx (.slice a2 d cap2) (gb + 1) W ∧ Acc na fx ∧ (Und l d fa ↔ Und l (d - j) fx)) (fun W => (Blk W w.heap.size 1 (fun _ => .bool false) 4 ∧ Below w.heap.size w W) ∧ ¬ Und l d fa)
    (fun j A B h hk => ?hI) (fun A B h hk => ?hIx) (fun j A h => ?hIC) (fun A hA hs => ?h0)
    (fun j W => { tmps := #[.slice a na cap, .slice a2 d cap2, undef, undef, .pointer (some ⟨w.heap.size, 0, none⟩), .pointer (some ⟨gb, 0, none⟩), undef, .pointer (some ⟨W.heap.size, 0, none⟩), .slice a na cap, .slice (some ⟨gl, 0, none⟩) na cp, .slice a2 d cap2, .func (.func 73) #[] #[.pointer (some ⟨gb + 1, 0, none⟩)], .int .i64 ((d : Int) - 1 - j), mvv (l (d - 1 - j)), undef, undef, undef, undef, undef, undef, undef, undef, undef], defers := [] })
    (fun j W => W.alloc (.cells #[.int .i64 (l (d - 1 - j)).f, .int .i64 (l (d - 1 - j)).t, .int .i64 (l (d - 1 - j)).m] 55)) (fun j W => (Below.refl W.heap.size W).alloc (Nat.le_refl _) _) ?assign ?body ?done ?left
  case hI =>
    obtain ⟨fx, h1, h2, h3⟩ := h
    exact ⟨fx, h1.keptS hk (fun k hs => by omega), h2, h3⟩
  case hIx =>
    exact ⟨⟨h.1.1.kept hk (by omega), hk.below h.1.2 h.1.2.size (fun q hq => by omega)⟩, h.2⟩
  case hIC =>
    obtain ⟨fx, h1, h2, h3⟩ := h
    exact ⟨h1.itr.cell (show 0 < 1 by omega), HU.out.below h1.bel⟩
  case h0 =>
    exact ⟨fa, HC0.out.down hA, HA.out, Iff.rfl⟩
  case assign =>
    intro ll j W K hK
    have HK := hide hK
    clear hK
    gi_wp2
    exact HK.out
  case body =>
    rintro ll j W Bw hj ⟨fx, hC, hAx, hUx⟩ hlt hk
    have hdn := (Below.refl W.heap.size W).alloc (Nat.le_refl _) (.cells #[.int .i64 (l (d - 1 - j)).f, .int .i64 (l (d - 1 - j)).t, .int .i64 (l (d - 1 - j)).m] 55)
    have hCB := (hC.down hdn).keptS hk (fun k hs => by omega)
    have hx := (Blk.fresh W #[.int .i64 (l (d - 1 - j)).f, .int .i64 (l (d - 1 - j)).t, .int .i64 (l (d - 1 - j)).m] 3 (fun q => if q = 0 then .int .i64 (l (d - 1 - j)).f else if q = 1 then .int .i64 (l (d - 1 - j)).t else .int .i64 (l (d - 1 - j)).m) 55 rfl).kept hk (by omega)
    have hDD : w3.heap.size + 1 < Bw.heap.size := by have := hk.size; simp at this; omega
    have hWs : W.heap.size < Bw.heap.size := hx.lt
    have hm := HM.out (d - 1 - j) (by omega)
    have hUn : Und l (d - j) fx ↔ fit fx (bk (l (d - 1 - j))) ∧ Und l (d - (j + 1)) (shf fx (bk (l (d - 1 - j)))) := by
      rw [show d - j = (d - 1 - j) + 1 by omega, show d - (j + 1) = d - 1 - j by omega]; exact Iff.rfl
    generalize l (d - 1 - j) = m at *
    obtain ⟨b1, hb1⟩ : ∃ x, decide (fit fx (bk m)) = x := ⟨_, rfl⟩
    have x0 := cell_regrown (show Bw.cell? ⟨W.heap.size, 0, none⟩ = some (.int .i64 m.f) from hx.cell (show 0 < 3 by omega))
    have x1 := cell_regrown (show Bw.cell? ⟨W.heap.size, 1, none⟩ = some (.int .i64 m.t) from hx.cell (show 1 < 3 by omega))
    have x2 := cell_regrown (show Bw.cell? ⟨W.heap.size, 2, none⟩ = some (.int .i64 m.m) from hx.cell (show 2 < 3 by omega))
    have x3 := cell_regrown (show Bw.cell? ⟨gb, 0, none⟩ = some (.slice (some ⟨gl, 0, none⟩) na cp) from hCB.box.cell (show 0 < 1 by omega))
    have HE1 := hide (show ∀ dd os, Calls Try.prog 63 #[.agg #[.int .i64 m.f, .int .i64 m.t, .int .i64 m.m]] (grow (redrawn Bw dd) os) fun e w'' => e = .returned (mvv (bk m)) ∧ ∃ p : Regrown, w'' = grow (redrawn Bw p.d) p.os from fun dd os => Calls.regrown_of (back_is m _))
    have HE2 := hide (show ∀ dd os, Calls Try.prog 67 #[mvv (bk m), .slice (some ⟨gl, 0, none⟩) na cp] (grow (redrawn Bw dd) os) fun e w'' => e = .returned (.bool b1) ∧ ∃ p : Regrown, w'' = grow (redrawn Bw p.d) p.os from fun dd os => Calls.regrown_of (fits_is (bk m) _ na fx b1 _ hm.back ((hCB.own.ints.cap cp).below (below_regrown Bw dd os)) hAx hna.2 hb1))
    gi_wp2
    refine region_readsB (by kernel_rfl) rfl (by kernel_rfl) ?_
    repeat (go_big_quiet_step (first | exact HE1.out _ _ | exact HE2.out _ _))
    refine wpQuiet_nil ?_
    rintro _ ⟨⟨dq, osq⟩, rfl⟩
    have hbx := below_regrown Bw dq osq
    generalize grow (redrawn Bw dq) osq = Bx at *
    have hCx := hCB.down hbx
    have hxx := hx.down hbx
    have kD : Bx.heap[w3.heap.size]? = Bw.heap[w3.heap.size]? := hbx.block _ (by omega)
    have kD1 : Bx.heap[w3.heap.size + 1]? = Bw.heap[w3.heap.size + 1]? := hbx.block _ (by omega)
    have hbxs := hbx.size
    have t0 := hCx.ans.thaw 0
    have t1 : Bx.cell? ⟨w.heap.size, 0, none⟩ = some (.bool false) := hCx.ans.cell (show 0 < 1 by omega)
    clear HE1 HE2 x0 x1 x2 x3 hdn hx hk hC hS HC0 HV HU hbx
    cases b1 with
    | false =>
      have HF := hide (show ∀ a : Act, RoundS (fun j W => ∃ fx, CU w false gl na cp c gb fx (.slice a2 d cap2) (gb + 1) W ∧ Acc na fx ∧ (Und l d fa ↔ Und l (d - j) fx)) (fun W => (Blk W w.heap.size 1 (fun _ => .bool false) 4 ∧ Below w.heap.size w W) ∧ ¬ Und l d fa) w3.heap.size j Bw .ret a (Bx.setCell ⟨w.heap.size, 0, none⟩ (.bool false)) from fun a => by
        refine RoundS.off ⟨⟨(hCx.ans.set 0 (.bool false)).ext fun i hi => by rw [Nat.lt_one_iff.1 hi]; exact upd_same _ _ _, hCx.bel.setCell (Nat.le_refl _) _⟩, fun hU => ?_⟩ ?_ ?_
        · rw [hUx, hUn] at hU
          rw [decide_eq_false_iff_not] at hb1
          exact hb1 hU.1
        · rw [Below.heap_setCell _ _ _ _ (show w3.heap.size ≠ w.heap.size by omega)]; exact kD
        · rw [Below.heap_setCell _ _ _ _ (show w3.heap.size + 1 ≠ w.heap.size by omega)]; exact kD1)
      clear hCB hCx hxx hUx hUn hb1 kD kD1 HA HM HB hAx hm hDD hWs hlt hbxs
      gi_wp2
      exact HF.out _
    | true =>
      have hft : fit fx (bk m) := by simpa using hb1
      have y0 := cell_regrown (show Bx.cell? ⟨W.heap.size, 0, none⟩ = some (.int .i64 m.f) from hxx.cell (show 0 < 3 by omega))
      have y1 := cell_regrown (show Bx.cell? ⟨W.heap.size, 1, none⟩ = some (.int .i64 m.t) from hxx.cell (show 1 < 3 by omega))
      have y2 := cell_regrown (show Bx.cell? ⟨W.heap.size, 2, none⟩ = some (.int .i64 m.m) from hxx.cell (show 2 < 3 by omega))
      have y3 := cell_regrown (show Bx.cell? ⟨gb, 0, none⟩ = some (.slice (some ⟨gl, 0, none⟩) na cp) from hCx.box.cell (show 0 < 1 by omega))
      have HE1 := hide (show ∀ dd os, Calls Try.prog 63 #[.agg #[.int .i64 m.f, .int .i64 m.t, .int .i64 m.m]] (grow (redrawn Bx dd) os) fun e w'' => e = .returned (mvv (bk m)) ∧ ∃ p : Regrown, w'' = grow (redrawn Bx p.d) p.os from fun dd os => Calls.regrown_of (back_is m _))
      have HF := hide (show ∀ dd os, Calls Try.prog 68 #[mvv (bk m), .slice (some ⟨gl, 0, none⟩) na cp] (grow (redrawn Bx dd) os) fun e w' => e = .returned (.tuple #[]) ∧ ∀ a : Act, RoundS (fun j W => ∃ fx, CU w false gl na cp c gb fx (.slice a2 d cap2) (gb + 1) W ∧ Acc na fx ∧ (Und l d fa ↔ Und l (d - j) fx)) (fun W => (Blk W w.heap.size 1 (fun _ => .bool false) 4 ∧ Below w.heap.size w W) ∧ ¬ Und l d fa) w3.heap.size j Bw .normal a w' from fun dd os => by
        have hby := below_regrown Bx dd os
        generalize grow (redrawn Bx dd) os = By at *
        have hCy := hCx.down hby
        refine (shift_is (bk m) gl na cp c fx By hm.back hCy.own (fun i hi => by have := hAx i hi; omega)).mono ?_
        rintro e w' ⟨rfl, hO, hK⟩
        refine ⟨rfl, fun a => RoundS.on ⟨shf fx (bk m), ⟨hK.blk hCy.ans (by omega), hK.blk hCy.box (by omega), hO, hK.blk hCy.itr (by omega), hCy.bel.trans (hK.below (by omega) hCy.bel.size), hCy.h1, hCy.h2, hCy.h3⟩, acc_shf hm.back hAx hft, ?_⟩ ?_ ?_⟩
        · rw [hUx, hUn]; exact ⟨fun h => h.2, fun h => ⟨hft, h⟩⟩
        · rw [hK.block _ (by have := hby.size; omega) (by omega), hby.block _ (by omega)]; exact kD
        · rw [hK.block _ (by have := hby.size; omega) (by omega), hby.block _ (by omega)]; exact kD1)
      clear hCB hCx hxx hUx hUn hb1 kD kD1 HA HM HB hAx hm hDD hWs hlt hbxs hft t0 t1
      gi_wp2
      refine region_lastB rfl (by kernel_rfl) (by kernel_rfl) rfl (by kernel_rfl) ?_
      simp only [still, noop, List.dropLast, List.getLast?_cons_cons, List.getLast?_singleton, Option.map_some, Option.toList_some, List.cons_append, List.nil_append, List.getLast_cons_cons, List.getLast_singleton]
      repeat (go_big_quiet_step (exact HE1.out _ _))
      refine wpQuiet_nil ?_
      rintro _ ⟨⟨dq, osq⟩, rfl⟩
      gi_wp2
      refine ⟨trivial, ?_⟩
      refine CallsIn.mono (CallsIn.inRound ll (callsIn_wide.2 (HF.out dq osq))) ?_
      rintro e w' ⟨rfl, h⟩
      exact h _
  case done =>
    rintro W ⟨fx, hC, -, hU⟩ hK
    have hbt : b = true := by rw [HB.out, hU, Nat.sub_self]; trivial
    have t0 := hC.ans.thaw 0
    have t1 : W.cell? ⟨w.heap.size, 0, none⟩ = some (.bool false) := hC.ans.cell (show 0 < 1 by omega)
    have hlD := (Array.getElem?_eq_some_iff.1 hK).1
    have hkp : Kept (fun q => q = w3.heap.size) (W.setCell ⟨w.heap.size, 0, none⟩ (.bool true)) ((W.setCell ⟨w.heap.size, 0, none⟩ (.bool true)).putObj w3.heap.size (.deferred none)) := Kept.of_put _ rfl
    have hA : Blk (W.setCell ⟨w.heap.size, 0, none⟩ (.bool true)) w.heap.size 1 (fun _ => .bool true) 4 := (hC.ans.set 0 (.bool true)).ext fun i hi => by rw [Nat.lt_one_iff.1 hi]; exact upd_same _ _ _
    have hBe : Below w.heap.size w (W.setCell ⟨w.heap.size, 0, none⟩ (.bool true)) := hC.bel.setCell (Nat.le_refl _) _
    have HR := hide (show Blk ((W.setCell ⟨w.heap.size, 0, none⟩ (.bool true)).putObj w3.heap.size (.deferred none)) w.heap.size 1 (fun _ => .bool true) 4 ∧ Below w.heap.size w ((W.setCell ⟨w.heap.size, 0, none⟩ (.bool true)).putObj w3.heap.size (.deferred none)) from ⟨hA.kept hkp (by omega), hkp.below hBe hBe.size (fun q hq => by omega)⟩)
    have HK := hide (show (W.setCell ⟨w.heap.size, 0, none⟩ (.bool true)).heap[w3.heap.size]? = some (.deferred (some [])) from by rw [Below.heap_setCell _ _ _ _ (show w3.heap.size ≠ w.heap.size by omega)]; exact hK)
    clear hC hS HC0 HV HU HA HM HB hU hkp hA hBe hK
    gi_wp2
    refine ⟨by simp, .inl ⟨_, _, rfl, run_takeDeferred HK.out, ?_⟩⟩
    have c1 := HR.out.1.cell (show 0 < 1 by omega)
    exact ⟨.bool true, by simp [results, Try.results54, go_sem, c1], by rw [hbt], HR.out.2⟩
  case left =>
    rintro W ⟨⟨hA, hBe⟩, hU⟩ hK
    have hbt : b = false := by rw [Bool.eq_false_iff]; exact fun h => hU (HB.out.1 h)
    have hkp : Kept (fun q => q = w3.heap.size) W (W.putObj w3.heap.size (.deferred none)) := Kept.of_put _ rfl
    have hR1 := hA.kept hkp (by omega)
    have hR2 := hkp.below hBe hBe.size (fun q hq => by omega)
    refine ⟨by simp, .inl ⟨_, _, rfl, run_takeDeferred hK, ?_⟩⟩
    have c1 := hR1.cell (show 0 < 1 by omega)
    exact ⟨.bool false, by simp [results, Try.results54, go_sem, c1], by rw [hbt], hR2⟩
end Go.Proofs.Ytmpedadjikmnhaa

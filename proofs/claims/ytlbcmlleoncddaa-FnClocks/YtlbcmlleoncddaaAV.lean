/-
  The program's vectors of good acts, in memory of their own.
-/
import Derived.Test.YtlbcmlleoncddaaAV0
import Derived.Test.YtlbcmlleoncddaaIntAid
namespace Go.Proofs.Ytlbcmlleoncddaa
open Go.RowKit M
open Clk (upd upd_same upd_other)
namespace M
/-- What is known in a round: the copy of the act, the vector v, the rows. -/
def R1 (l : Nat → Ac) (w : World) (g c n i : Nat) (v : Nat → Int) (N : Nat → Nat → Int) (w4 : World) : Prop :=
  (w4.cell? ⟨c, 0, none⟩ = some (.int .i64 ((P l i : Nat) : Int)) ∧ w4.cell? ⟨c, 1, none⟩ = some (.int .i64 (l i).frm)) ∧ Blk w4 (c + 1) 6 (iv v) 72 ∧ Blk w4 g (n * 6) (vv N) 72 ∧ Blk w4 (g + 1) 36 (vv (Laf l i)) 86 ∧ Below g w w4
theorem cell_set (w : World) {c g o j : Nat} (h : c ≠ g) (x : Value) : (w.setCell ⟨g, o, none⟩ x).cell? ⟨c, j, none⟩ = w.cell? ⟨c, j, none⟩ :=
  World.cell?_of_block (a := ⟨c, j, none⟩) (Below.heap_setCell w ⟨g, o, none⟩ x c h)
theorem cell_s6 (w : World) {c g o j : Nat} (h : c ≠ g) (x : Nat → Int) : (s6 w g o x).cell? ⟨c, j, none⟩ = w.cell? ⟨c, j, none⟩ :=
  (cell_set _ h _).trans ((cell_set _ h _).trans ((cell_set _ h _).trans ((cell_set _ h _).trans ((cell_set _ h _).trans (cell_set _ h _)))))
theorem R1.below {l : Nat → Ac} {w : World} {g c n i : Nat} {v : Nat → Int} {N : Nat → Nat → Int} {w4 w5 : World} (h : R1 l w g c n i v N w4) (hg : g ≤ w4.heap.size) (hb : Below w4.heap.size w4 w5) : R1 l w g c n i v N w5 := by
  obtain ⟨⟨a0, a1⟩, h1, h2, h3, h4⟩ := h
  have hc : c < w4.heap.size := by have := h1.lt; omega
  exact ⟨⟨(hb.cell (p := ⟨c, 0, none⟩) hc).trans a0, (hb.cell (p := ⟨c, 1, none⟩) hc).trans a1⟩, h1.down hb, h2.down hb, h3.down hb, h4.trans (hb.mono hg)⟩
end M
set_option maxHeartbeats 4000000 in
theorem act_vectors (p : Int) (v : Value) (n : Nat) (l : Nat → Ac) (w : World) (hv : ActsOf w v n l) (hg : GoodL p n l) :
    Calls Try.prog 50 #[v] w fun e w' => (e = .returned (.slice (some ⟨w.heap.size, 0, none⟩) n n) ∧ Blk w' w.heap.size (n * 6) (vv (Vf l)) 72) ∧ Below w.heap.size w w' := by
  have hn : n ≤ 60 := hg.2.1
  have HG := hide hg
  obtain ⟨a, cap, rfl, hr⟩ := hv
  have HR := hide hr
  have hmk := make_vecs n (by omega)
  clear hr hg
  go_enter Try.func50, Try.ntmps50
  go_wp2
  go_loopw [13] (fun y wr => ∃ i : Nat, i ≤ n ∧ y = .int .i64 i ∧ Hid (Blk wr w.heap.size (n * 6) (vv (cpV l i)) 72) ∧ Hid (Blk wr (w.heap.size + 1) 36 (vv (Laf l i)) 86) ∧ Below w.heap.size w wr) (fun y _ => n - (intOf y).toNat)
  case atStart =>
    refine ⟨0, Nat.zero_le _, rfl, hide ?_, hide ?_, ((Below.refl _ _).alloc (Nat.le_refl _) _).alloc (by simp) _⟩
    · rw [cpV_zero]; exact (Blk.new w (n * 6) _ _).alloc _
    · have := Blk.new (w.alloc (.cells (cf (n * 6) (vv fun _ _ => 0)) 72)) 36 (vv fun _ _ => 0) 86
      rw [World.size_alloc] at this; rw [Laf_zero]; exact this
  case round =>
    rename World => wo
    obtain ⟨i, hin, rfl, HN, HL, hbw⟩ := hrel
    by_cases hlt : i < n
    · obtain ⟨b, off, rfl, hb, hrow⟩ := HR.out (by omega)
      obtain ⟨hP, hP6, _⟩ := good_P HG.out hlt
      have c0 := (hbw.cell (p := ⟨b, off + i * 2, none⟩) hb).trans (hrow i hlt).1
      have c1 := (hbw.cell (p := ⟨b, off + i * 2 + 1, none⟩) hb).trans (hrow i hlt).2
      rw [hP] at c0
      have hsz := hbw.size
      have hlN := HN.out.lt
      have hlL := HL.out.lt
      obtain ⟨⟨q0, q1, q2, q3, q4, q5⟩, -⟩ := HL.out.row6 (k := P l i) (by omega)
      have hP0 : (0 : Int) ≤ ((P l i : Nat) : Int) := by omega
      have hP1 : ((P l i : Nat) : Int) < 6 := by omega
      clear hrow HR
      have HN0 := hide (And.intro HN.out HL.out)
      clear HN HL
      go_wp2_with (refine stop_at (some 22) rfl (R1 l w w.heap.size wo.heap.size n i (Laf l i (P l i)) (cpV l i)) ?hR ?_)
      case hR =>
        have ha := (Blk.fresh wo #[.int .i64 ((P l i : Nat) : Int), .int .i64 (l i).frm] 2 (av fun _ => ⟨((P l i : Nat) : Int), (l i).frm⟩) 54 rfl).alloc (.cells (cf 6 (iv (Laf l i (P l i)))) 72)
        have hv := Blk.new (wo.alloc (.cells #[.int .i64 ((P l i : Nat) : Int), .int .i64 (l i).frm] 54)) 6 (iv (Laf l i (P l i))) 72
        rw [World.size_alloc] at hv
        exact hide ⟨⟨ha.cell (show 0 < 2 by omega), ha.cell (show 1 < 2 by omega)⟩, hv, (HN0.out.1.alloc _).alloc _, (HN0.out.2.alloc _).alloc _, (hbw.alloc hsz _).alloc (by simp; omega) _⟩
      rintro w4 h4
      have HB4 := hide h4
      clear h4 c0 c1 q0 q1 q2 q3 q4 q5 HN0
      have hCb : Clk.Lat (P l) (F l) i (P l i) (P l i) ≤ 60 := by
        have h1 := Clk.Lat_le_C (P l) (F l) (F_lt l) i (P l i) (P l i)
        have h2 := Clk.C_le (P l) i (P l i)
        omega
      have hLb : Laf l i (P l i) (P l i) ≤ 60 ∧ 0 ≤ Laf l i (P l i) (P l i) := by unfold Laf; omega
      rcases good_F HG.out hlt with ⟨hf, hF⟩ | ⟨k, hki, hf, hF⟩
      · obtain ⟨⟨a0, a1⟩, hbv, hbN, hbL, hb4⟩ := HB4.out
        have e0 := hbv.cell_ints hP6
        have e1 := hbv.thaw (P l i)
        have HV := hide (V_none_upd l i hF)
        rw [hf] at a1
        clear hbv hbN hbL hb4
        generalize hx : Laf l i (P l i) (P l i) = x at *
        go_wp2_with (refine stop_at (some 40) rfl (R1 l w w.heap.size wo.heap.size n i (Vf l i) (cpV l i)) ?hR2 ?_)
        case hR2 =>
          obtain ⟨h0, h1, h2, h3, h5⟩ := HB4.out
          refine hide ⟨⟨(cell_set _ (by omega) _).trans h0.1, (cell_set _ (by omega) _).trans h0.2⟩, ?_, h2.set_other (by omega) _ _, h3.set_other (by omega) _ _, h5.setCell (by simp; omega) _⟩
          rw [← HV.out]; exact h1.set_int (P l i) (x + 1)
        rintro w5 h5
        have HB5 := hide h5
        clear h5 HB4 a0 a1 e0 e1
        obtain ⟨⟨a0, a1⟩, hbv, hbN, -, -⟩ := HB5.out
        obtain ⟨s0, s1, s2, s3, s4, s5⟩ := hbv.six
        obtain ⟨⟨t0, t1, t2, t3, t4, t5⟩, z0, z1, z2, z3, z4, z5⟩ := hbN.row6 (k := i) (by omega)
        clear hbv hbN
        go_wp2_with (refine stop_at (some 42) rfl (R1 l w w.heap.size wo.heap.size n i (Vf l i) (cpV l (i + 1))) ?hR3 ?_)
        case hR3 =>
          refine hide ⟨?_, (HB5.out.2.1).s6_other (by omega) _, ?_, (HB5.out.2.2.2.1).s6_other (by omega) _, below_s6 HB5.out.2.2.2.2 (Nat.le_refl _) _⟩
          · have h := HB5.out.1
            have hb' : Below (w.heap.size + 2) w5 w5 := Below.refl _ _
            exact ⟨(cell_s6 w5 (by omega) _).trans h.1, (cell_s6 w5 (by omega) _).trans h.2⟩
          · rw [← cpV_succ]; exact (HB5.out.2.2.1).s6 (Vf l i)
        rintro w6 h6
        have HB6 := hide h6
        clear h6 HB5 s0 s1 s2 s3 s4 s5 t0 t1 t2 t3 t4 t5 z0 z1 z2 z3 z4 z5
        obtain ⟨⟨a0, a1⟩, hbv, -, hbL, -⟩ := HB6.out
        obtain ⟨s0, s1, s2, s3, s4, s5⟩ := hbv.six
        obtain ⟨⟨t0, t1, t2, t3, t4, t5⟩, z0, z1, z2, z3, z4, z5⟩ := hbL.row6 (k := P l i) (by omega)
        clear hbv hbL
        go_wp2
        refine ⟨⟨i + 1, by omega, by go_num, hide ((HB6.out.2.2.1).s6_other (g' := w.heap.size + 1) (o := P l i * 6) (by omega) (Vf l i)), hide ?_, below_s6 (g := w.heap.size + 1) (o := P l i * 6) HB6.out.2.2.2.2 (by omega) (Vf l i)⟩, by simp [intOf]; omega⟩
        rw [← Laf_succ]; exact (HB6.out.2.2.2.1).s6 (Vf l i)
      · obtain ⟨⟨a0, a1⟩, hbv, hbN, hbL, hb4⟩ := HB4.out
        obtain ⟨s0, s1, s2, s3, s4, s5⟩ := hbv.six
        obtain ⟨f0, f1, f2, f3, f4, f5⟩ := hbv.thaw6
        obtain ⟨⟨r0, r1, r2, r3, r4, r5⟩, -⟩ := hbN.row6 (k := k) (by omega)
        simp only [show ∀ q, cpV l i k q = Vf l k q from fun q => by unfold cpV; rw [if_pos hki]] at r0 r1 r2 r3 r4 r5
        rw [hf] at a1
        have hk1 : ((k : Int) != -1) = true := by simp
        have hk0 : (0 : Int) ≤ (k : Int) := by omega
        have hkn : (k : Int) < (n : Int) := by omega
        have HJ := hide (show ∀ wx wj : World, wx.heap = w4.heap → Below wx.heap.size wx wj → (wj.cell? ⟨wo.heap.size + 1, 0, none⟩ = some (.int .i64 (Laf l i (P l i) 0)) ∧ wj.cell? ⟨wo.heap.size + 1, 1, none⟩ = some (.int .i64 (Laf l i (P l i) 1)) ∧ wj.cell? ⟨wo.heap.size + 1, 2, none⟩ = some (.int .i64 (Laf l i (P l i) 2)) ∧ wj.cell? ⟨wo.heap.size + 1, 3, none⟩ = some (.int .i64 (Laf l i (P l i) 3)) ∧ wj.cell? ⟨wo.heap.size + 1, 4, none⟩ = some (.int .i64 (Laf l i (P l i) 4)) ∧ wj.cell? ⟨wo.heap.size + 1, 5, none⟩ = some (.int .i64 (Laf l i (P l i) 5))) ∧ wj.frozen? ⟨wo.heap.size + 1, 0, none⟩ = false ∧ wj.frozen? ⟨wo.heap.size + 1, 1, none⟩ = false ∧ wj.frozen? ⟨wo.heap.size + 1, 2, none⟩ = false ∧ wj.frozen? ⟨wo.heap.size + 1, 3, none⟩ = false ∧ wj.frozen? ⟨wo.heap.size + 1, 4, none⟩ = false ∧ wj.frozen? ⟨wo.heap.size + 1, 5, none⟩ = false from fun wx wj hh hb => by
          have h : Blk wj (wo.heap.size + 1) 6 (iv (Laf l i (P l i))) 72 := by
            have h0 : Blk wx (wo.heap.size + 1) 6 (iv (Laf l i (P l i))) 72 := by unfold Blk; rw [hh]; exact hbv
            exact h0.down hb
          exact ⟨h.six, h.thaw6⟩)
        have hVk : Vf l k (P l i) ≤ 60 ∧ 0 ≤ Vf l k (P l i) := by
          have h1 := Clk.V_le (P l) (F l) (F_lt l) k (P l i)
          unfold Vf; omega
        have hxb : mxf (Laf l i (P l i)) (Vf l k) (P l i) ≤ 60 ∧ 0 ≤ mxf (Laf l i (P l i)) (Vf l k) (P l i) := by unfold mxf; omega
        have HV := hide (V_some_upd l i k hF)
        have hle4 : w.heap.size ≤ w4.heap.size := HB4.out.2.2.2.2.size
        clear hbv hbN hbL hb4
        go_wp2_with fail
        go_region_with (go_at_call 55; refine (join_vec (Laf l i (P l i)) (Vf l k) _).mono ?_; rintro e wj ⟨rfl, hbj⟩; obtain ⟨⟨j0, j1, j2, j3, j4, j5⟩, y0, y1, y2, y3, y4, y5⟩ := HJ.out w4.drew wj rfl hbj)
        all_goals
          have HBj := hide (R1.below HB4.out hle4 ((Below.refl _ w4).drew.trans hbj))
          clear HB4 HJ hbj a0 a1 s0 s1 s2 s3 s4 s5 f0 f1 f2 f3 f4 f5 r0 r1 r2 r3 r4 r5
          go_wp2_with (refine stop_at (some 32) rfl (R1 l w w.heap.size wo.heap.size n i (mxf (Laf l i (P l i)) (Vf l k)) (cpV l i)) ?hRj ?_)
          case hRj =>
            obtain ⟨h0, h1, h2, h3, h5⟩ := HBj.out
            exact hide ⟨⟨(cell_s6 wj (show wo.heap.size ≠ wo.heap.size + 1 by omega) _).trans h0.1, (cell_s6 wj (show wo.heap.size ≠ wo.heap.size + 1 by omega) _).trans h0.2⟩, h1.s6_own (mxf (Laf l i (P l i)) (Vf l k)), h2.s6_other (by omega) _, h3.s6_other (by omega) _, below_s6 h5 (by omega) _⟩
          rintro w7 h7
          have HB7 := hide h7
          clear h7 HBj j0 j1 j2 j3 j4 j5 y0 y1 y2 y3 y4 y5
          obtain ⟨⟨a0, a1⟩, hbv, -, -, -⟩ := HB7.out
          have e0 := hbv.cell_ints hP6
          have e1 := hbv.thaw (P l i)
          clear hbv
          rw [hf] at a1
          generalize hx : mxf (Laf l i (P l i)) (Vf l k) (P l i) = x at *
          go_wp2_with (refine stop_at (some 40) rfl (R1 l w w.heap.size wo.heap.size n i (Vf l i) (cpV l i)) ?hR2 ?_)
          case hR2 =>
            obtain ⟨h0, h1, h2, h3, h5⟩ := HB7.out
            refine hide ⟨⟨(cell_set _ (by omega) _).trans h0.1, (cell_set _ (by omega) _).trans h0.2⟩, ?_, h2.set_other (by omega) _ _, h3.set_other (by omega) _ _, h5.setCell (by simp; omega) _⟩
            rw [← HV.out]; exact h1.set_int (P l i) (x + 1)
          rintro w5 h5
          have HB5 := hide h5
          clear h5 HB7 a0 a1 e0 e1
          obtain ⟨⟨a0, a1⟩, hbv, hbN, -, -⟩ := HB5.out
          obtain ⟨s0, s1, s2, s3, s4, s5⟩ := hbv.six
          obtain ⟨⟨t0, t1, t2, t3, t4, t5⟩, z0, z1, z2, z3, z4, z5⟩ := hbN.row6 (k := i) (by omega)
          clear hbv hbN
          go_wp2_with (refine stop_at (some 42) rfl (R1 l w w.heap.size wo.heap.size n i (Vf l i) (cpV l (i + 1))) ?hR3 ?_)
          case hR3 =>
            refine hide ⟨?_, (HB5.out.2.1).s6_other (by omega) _, ?_, (HB5.out.2.2.2.1).s6_other (by omega) _, below_s6 HB5.out.2.2.2.2 (Nat.le_refl _) _⟩
            · have h := HB5.out.1
              have hb' : Below (w.heap.size + 2) w5 w5 := Below.refl _ _
              exact ⟨(cell_s6 w5 (by omega) _).trans h.1, (cell_s6 w5 (by omega) _).trans h.2⟩
            · rw [← cpV_succ]; exact (HB5.out.2.2.1).s6 (Vf l i)
          rintro w6 h6
          have HB6 := hide h6
          clear h6 HB5 s0 s1 s2 s3 s4 s5 t0 t1 t2 t3 t4 t5 z0 z1 z2 z3 z4 z5
          obtain ⟨⟨a0, a1⟩, hbv, -, hbL, -⟩ := HB6.out
          obtain ⟨s0, s1, s2, s3, s4, s5⟩ := hbv.six
          obtain ⟨⟨t0, t1, t2, t3, t4, t5⟩, z0, z1, z2, z3, z4, z5⟩ := hbL.row6 (k := P l i) (by omega)
          clear hbv hbL
          go_wp2
          refine ⟨⟨i + 1, by omega, by go_num, hide ((HB6.out.2.2.1).s6_other (g' := w.heap.size + 1) (o := P l i * 6) (by omega) (Vf l i)), hide ?_, below_s6 (g := w.heap.size + 1) (o := P l i * 6) HB6.out.2.2.2.2 (by omega) (Vf l i)⟩, by simp [intOf]; omega⟩
          rw [← Laf_succ]; exact (HB6.out.2.2.2.1).s6 (Vf l i)
    · obtain rfl : i = n := by omega
      have HB := hide (HN.out.ext (f' := vv (Vf l)) (fun j hj => by unfold vv cpV; rw [if_pos (by omega)]))
      clear HN HL HR HG
      go_wp2
      go_ret
      exact ⟨⟨rfl, HB.out⟩, hbw⟩
end Go.Proofs.Ytlbcmlleoncddaa

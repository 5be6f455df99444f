/-
  The specification's reckoning, walked.
-/
import Derived.Test.YtpabnncfcklnpaaHoX
import Derived.Deep.Draws
namespace Go.Proofs.Ytpabnncfcklnpaa
open Go.RowKit M
open Clk (upd upd_same upd_other)
open Go.Sort (grow)
open Ho
namespace M
theorem ph0_no {l : Nat → Rl} {j : Nat} (h : (l j).nb ≠ 0) : ph0 l (j + 1) = ph0 l j := by simp [ph0, h]
theorem ph0_yes {l : Nat → Rl} {j : Nat} (h : (l j).nb = 0) : ph0 l (j + 1) = come (ph0 l j) (l j).hd (some j) := by simp [ph0, h, fireS]
theorem RS.own {w W : World} {k m : Nat} {cc : Nat → Int} {g : Nat → Bool} {s : Sta} {v : Value} (h : RS w k cc g s v m W) {t : Nat} {e : Nat × Option Nat} (he : s.q[t]? = some e) :
    ∃ gq c, v = .slice (some ⟨gq, 0, none⟩) m c ∧ W.cell? ⟨gq, t, none⟩ = some (.int .i64 (e.1 : Int)) := by
  obtain ⟨hm, hw, b, hB, h0⟩ := h
  have hlt := (List.getElem?_eq_some_iff.1 he).1
  obtain ⟨a, c, hv, hc⟩ := own_cells h0.2.2.2.1 (by simp [ns, hm])
  obtain ⟨gq, rfl, _, _, hcell⟩ := hc (by omega)
  exact ⟨gq, c, hv, hcell t _ (by simp only [ns, List.map_map, List.getElem?_map, he]; rfl)⟩
theorem RS.lists {w W : World} {k : Nat} {ts : Nat → Tk} {g : Nat → Bool} {s : Sta} {v : Value} {m : Nat} (h : RS w k (lc ts k) g s v m W) (hc : s.c = (ini (rls ts)).c) : RS w k s.c g s v m W := by
  obtain ⟨hm, hw, b, hB, h0⟩ := h
  refine ⟨hm, hw, b, hB, h0.1, h0.2.1, h0.2.2.1.ext fun i hi => ?_, h0.2.2.2⟩
  rw [hc]; unfold iv lc; rw [if_pos hi]; rfl
end M
set_option maxRecDepth 20000 in
set_option maxHeartbeats 8000000 in
theorem spec_run (v u : Value) (k n : Nat) (ts : Nat → Tk) (f : Nat → Int) (w : World) (hv : TasksOf w v k ts) (hu : IntsOf w u n f) (hO : Okay k n ts f) :
    Calls Try.prog 44 #[v, u] w fun e w' => (∃ qv cc, e = .returned (.tuple #[.slice (some ⟨w.heap.size, 0, none⟩) 40 40, .slice (some ⟨w.heap.size + 1, 0, none⟩) 40 40, qv, .int .i64 ((fin (rls ts) k (nf f) n).wk : Nat)]) ∧ RS w k cc (sof f n) (fin (rls ts) k (nf f) n) qv (fin (rls ts) k (nf f) n).q.length w') := by
  obtain ⟨a, cap, rfl, hrw⟩ := hv
  have HU := hide hu
  obtain ⟨au, cu, rfl, hurow⟩ := hu
  have HR := hide hrw
  have HUR := hide hurow
  have HG := hide hO.1
  have HGR := hide hO.1.gr
  have HRi := hide hO.2
  have hk := hO.1.1
  have hn := hO.2.len
  clear hrw hO hurow
  have mk1 : (Instr.makeSlice 58 (.int .i64 40) (.int .i64 40)).run Try.prog w = .ok (.slice (some ⟨w.heap.size, 0, none⟩) 40 40) (w.alloc (.cells (M.cf 40 (fun _ => .bool false)) 4)) := make_bools 40 (by omega) w
  have mk2 : ∀ W : World, (Instr.makeSlice 29 (.int .i64 40) (.int .i64 40)).run Try.prog W = .ok (.slice (some ⟨W.heap.size, 0, none⟩) 40 40) (W.alloc (.cells (M.cf 40 (M.iv fun _ => 0)) 3)) := fun W => make_ints 40 (by omega) W
  have mk3 := fun W => make_ints k (by omega) W
  go_enter Try.func44, Try.ntmps44
  go_wp2
  have hz : RS w k (lc ts 0) (fun _ => false) (ph0 (rls ts) 0) (.slice none 0 0) 0 (((w.alloc (.cells (M.cf 40 (fun _ => .bool false)) 4)).alloc (.cells (M.cf 40 (M.iv fun _ => 0)) 3)).alloc (.cells (M.cf k (M.iv fun _ => 0)) 3)) := by
    refine ⟨rfl, winv_ini _, fun _ => 0, ByI.nil0 _, ((Blk.new w 40 _ _).alloc _).alloc _, ?_, ?_, World.ownsRow_nil _ _ _ _, (((Below.refl _ _).alloc (Nat.le_refl _) _).alloc (by simp) _).alloc (by simp; omega) _, by simp⟩
    · have := (Blk.new (w.alloc (.cells (M.cf 40 (fun _ => .bool false)) 4)) 40 (M.iv fun _ => 0) 3).alloc (.cells (M.cf k (M.iv fun _ => 0)) 3)
      rw [World.size_alloc] at this; exact this
    · have := Blk.new ((w.alloc (.cells (M.cf 40 (fun _ => .bool false)) 4)).alloc (.cells (M.cf 40 (M.iv fun _ => 0)) 3)) k (M.iv fun _ => 0) 3
      rw [World.size_alloc, World.size_alloc] at this; rw [lc_zero]; exact this
  have HZ := hide hz
  clear hz mk1 mk2 mk3
  generalize ((w.alloc _).alloc _).alloc _ = w1 at *
  obtain ⟨i0, hi, hz0, hz1, hz2⟩ := info_parts info_int
  go_loopw [10, 27] (fun q i wr => ∃ (j m : Nat) (aq : Option Addr) (cq : Nat), j ≤ k ∧ m ≤ 40 ∧ i = .int .i64 j ∧ q = .slice aq m cq ∧ Hid (RS w k (lc ts j) (fun _ => false) (ph0 (rls ts) j) (.slice aq m cq) m wr)) (fun _ i _ => k - (intOf i).toNat)
  case atStart => exact ⟨0, 0, none, 0, Nat.zero_le _, Nat.zero_le _, rfl, rfl, HZ⟩
  case round =>
    rename World => wo
    obtain ⟨j, m, aq, cq, hj, hm40, rfl, rfl, HP⟩ := hrel
    by_cases hlt : j < k
    · obtain ⟨bb, off, rfl, hbb, hrow⟩ := HR.out (by omega)
      obtain ⟨y, q1, q2, i1⟩ := hrow j hlt
      obtain ⟨ay, cy, rfl⟩ := i1.form
      obtain ⟨hm, hwi, b, hB, h0⟩ := HP.out
      have hbw := h0.2.2.2.2.1
      have c0 := (hbw.cell (p := ⟨bb, off + j * 2, none⟩) hbb).trans q1
      have c1 := (hbw.cell (p := ⟨bb, off + j * 2 + 1, none⟩) hbb).trans q2
      have hgj := HG.out.2 j hlt
      rw [hgj.hd.1] at c0
      have hh := hgj.hd.2
      have H0 := hide h0
      have HB := hide hB
      have HW := hide hwi
      have HM := hide hm
      have HLc := hide (lc_succ ts j)
      have HLv := hide (show lc ts (j + 1) j = ((ts j).nn : Int) from by unfold lc; rw [if_pos (by omega)])
      have hnb := hgj.2.len
      have HN0 := hide (show ((ts j).nn ≠ 0 → ph0 (rls ts) (j + 1) = ph0 (rls ts) j) ∧ ((ts j).nn = 0 → ph0 (rls ts) (j + 1) = come (ph0 (rls ts) j) (rl (ts j)).hd (some j)) from ⟨fun h => ph0_no h, fun h => ph0_yes h⟩)
      generalize hss : ph0 (rls ts) j = s at *
      clear hss hrow HR q1 q2 i1 HP HG hgj HZ hbb hbw hB hwi hm h0 HGR HRi HUR HU
      generalize hnn : (ts j).nn = nn at *
      clear hnn
      go_wp2_with (refine stop_at (some 34) rfl (fun W => R0 w k (lc ts j) s.inn b (.slice aq m cq) m (ns s.q) W ∧ Rg w wo.heap.size (rl (ts j)).hd (.slice ay nn cy) W) ?hR ?_)
      case hR =>
        refine hide ⟨H0.out.alloc _, ?_, Blk.fresh wo _ 2 _ _ rfl⟩
        exact H0.out.2.2.2.2.2
      rintro W1 ⟨r1, g1⟩
      generalize hgr : wo.heap.size = gr at *
      clear hgr
      obtain ⟨d0, d1, -, -⟩ := g1.2.pair
      have e0 := r1.2.2.1.cell_ints hlt
      have t0 := r1.2.2.1.thaw j
      have hji : (j : Int) < (k : Int) := by omega
      go_wp2_with (refine stop_at (some 40) rfl (fun W => R0 w k (lc ts (j + 1)) s.inn b (.slice aq m cq) m (ns s.q) W ∧ Rg w gr (rl (ts j)).hd (.slice ay nn cy) W) ?hR ?_)
      case hR => exact hide ⟨by rw [← HLc.out]; exact r1.setC _ _, g1.set (by omega)⟩
      clear r1 g1 d0 d1 e0 t0 HLc
      rintro W2 ⟨r2, g2⟩
      obtain ⟨d0, d1, -, -⟩ := g2.2.pair
      have e0 := r2.2.2.1.cell_ints hlt
      rw [HLv.out] at e0
      have f0 := r2.1.cell_bv hh
      have t0 := r2.1.thaw (rl (ts j)).hd
      have HX := hide (And.intro r2 g2)
      clear r2 g2 HLv H0
      by_cases hn0 : nn = 0
      · have hnI : ((nn : Int) == 0) = true := by simp [hn0]
        have HSt := hide (HN0.out.2 hn0)
        clear HN0 hn0
        generalize (rl (ts j)).hd = x at *
        have hx0 : (0 : Int) ≤ (x : Int) := by omega
        have hx1 : (x : Int) < 40 := by omega
        rcases hin : s.inn x with _ | _
        · rw [hin] at f0
          go_wp2_with (refine stop_at (some 56) rfl (fun W => R0 w k (lc ts (j + 1)) (upd s.inn x true) b (.slice aq m cq) m (ns s.q) W ∧ Rg w gr x (.slice ay nn cy) W) ?hR ?_)
          case hR => exact hide ⟨HX.out.1.setIn _, HX.out.2.set (by omega)⟩
          clear HX d0 d1 e0 f0 t0
          rintro W3 ⟨r3, g3⟩
          obtain ⟨d0, d1, -, -⟩ := g3.2.pair
          have e0 := r3.2.1.cell_ints hh
          have t0 := r3.2.1.thaw x
          go_wp2_with (refine stop_at (some 61) rfl (fun W => R0 w k (lc ts (j + 1)) (upd s.inn x true) (upd b x (j : Int)) (.slice aq m cq) m (ns s.q) W ∧ Rg w gr x (.slice ay nn cy) W) ?hR ?_)
          case hR => exact hide ⟨r3.setBy _ _, g3.set (by omega)⟩
          clear r3 g3 d0 d1 e0 t0
          rintro W4 ⟨r4, g4⟩
          obtain ⟨d0, d1, -, -⟩ := g4.2.pair
          have hown := r4.2.2.2.1
          have h63 := r4.2.2.2.2.2
          have H4 := hide r4
          clear r4 g4 d1
          go_wp2_with (at_builtin; refine wpList_append_own _ rfl _ _ 29 rfl (w.heap.size + 3) 3 i0 _ 1 8 Try.underlying29 hi hz0 hz1 hz2 rfl (by decide) _ m _ rfl (hown.alloc _) ⟨W4.heap.size, 0, none⟩ 1 1 [.int .i64 (x : Int)] rfl rfl ?c1 ?c2 ?c3 ?c4 ?c5 ?_)
          try (case c1 => exact news1 W4 _ _)
          case c2 => first | rfl | (intro u hu; simp at hu; subst hu; rfl)
          case c3 => unfold maxLen; omega
          case c4 => omega
          case c5 => simp; omega
          intro v' w5 hown5 hgrow _
          have r5 := (H4.out.alloc (.cells #[.int .i64 (x : Int)] 3)).app hown5 hgrow
          have HS := hide (show RS w k (lc ts (j + 1)) (fun _ => false) (ph0 (rls ts) (j + 1)) v' (m + 1) w5 from by rw [HSt.out]; exact RS.fired HM.out HW.out HB.out hin hh r5)
          obtain ⟨a5, c5, rfl⟩ := own_form hown5
          have hm1 : m + 1 ≤ 40 := by have := HS.out.1; have := HS.out.2.1.len; omega
          clear hown5 hgrow hown H4 r5 HSt HM HW HB hin
          go_wp2
          exact ⟨⟨j + 1, m + 1, a5, c5, by omega, hm1, by go_num, rfl, HS⟩, by simp [intOf]; omega⟩
        · rw [hin] at f0
          have HS := hide (show RS w k (lc ts (j + 1)) (fun _ => false) (ph0 (rls ts) (j + 1)) (.slice aq m cq) m W2 from by rw [HSt.out, come_yes hin]; exact ⟨HM.out, HW.out, b, HB.out, HX.out.1⟩)
          clear HX HSt HM HW HB hin
          go_wp2
          exact ⟨⟨j + 1, m, aq, cq, by omega, hm40, by go_num, rfl, HS⟩, by simp [intOf]; omega⟩
      · have hnI : ((nn : Int) == 0) = false := by simp; omega
        have HS := hide (show RS w k (lc ts (j + 1)) (fun _ => false) (ph0 (rls ts) (j + 1)) (.slice aq m cq) m W2 from by rw [HN0.out.1 hn0]; exact ⟨HM.out, HW.out, b, HB.out, HX.out.1⟩)
        clear HX HM HW HB HN0 hn0 f0 t0
        go_wp2
        exact ⟨⟨j + 1, m, aq, cq, by omega, hm40, by go_num, rfl, HS⟩, by simp [intOf]; omega⟩
    · obtain rfl : j = k := by omega
      have HZ1 := hide (show RS w j (lc ts j) (sof f 0) (ph1 (ph0 (rls ts) j) (nf f) 0) (.slice aq m cq) m wo from HP.out)
      clear HP HZ
      go_wp2
      go_loopw [10, 68] (fun q i wr => ∃ (t m : Nat) (aq : Option Addr) (cq : Nat), t ≤ n ∧ m ≤ 40 ∧ i = .int .i64 t ∧ q = .slice aq m cq ∧ Hid (RS w j (lc ts j) (sof f t) (ph1 (ph0 (rls ts) j) (nf f) t) (.slice aq m cq) m wr)) (fun _ i _ => n - (intOf i).toNat)
      case atStart => exact ⟨0, m, aq, cq, Nat.zero_le _, hm40, rfl, rfl, HZ1⟩
      case round =>
        rename World => wp
        clear HZ1 hm40
        obtain ⟨t, m, aq, cq, ht, hm40, rfl, rfl, HP⟩ := hrel
        by_cases hlt2 : t < n
        · obtain ⟨bb, off, rfl, hbb, hrow⟩ := HUR.out (by omega)
          obtain ⟨hm, hwi, b, hB, h0⟩ := HP.out
          have c0 := (h0.2.2.2.2.1.cell (p := ⟨bb, off + t, none⟩) hbb).trans (hrow t hlt2)
          rw [HRi.out.nf_eq hlt2] at c0
          have hh := HRi.out.nf_lt hlt2
          have HSt := hide (show ph1 (ph0 (rls ts) j) (nf f) (t + 1) = come (ph1 (ph0 (rls ts) j) (nf f) t) (nf f t) none ∧ sof f (t + 1) = upd (sof f t) (nf f t) true from ⟨rfl, rfl⟩)
          generalize ph1 (ph0 (rls ts) j) (nf f) t = s at *
          generalize nf f t = x at *
          have f0 := h0.1.cell_bv hh
          have t0 := h0.1.thaw x
          have b0 := h0.2.1.cell_ints hh
          have bt := h0.2.1.thaw x
          have H0 := hide h0
          have HB := hide hB
          have HW := hide hwi
          have HM := hide hm
          have hx0 : (0 : Int) ≤ (x : Int) := by omega
          have hx1 : (x : Int) < 40 := by omega
          clear hrow hbb hB hwi hm h0 HP HR HUR HU HG HGR HRi
          rcases hin : s.inn x with _ | _
          · rw [hin] at f0
            go_wp2_with (refine stop_at (some 82) rfl (fun W => R0 w j (lc ts j) (upd s.inn x true) b (.slice aq m cq) m (ns s.q) W) ?hR ?_)
            case hR => exact hide (H0.out.setIn _)
            clear f0 t0 b0 bt H0 c0
            rintro W4 r4
            have hown := r4.2.2.2.1
            have h63 := r4.2.2.2.2.2
            have H4 := hide r4
            clear r4
            go_wp2_with ((at_builtin; refine wpList_append_own _ rfl _ _ 29 rfl (w.heap.size + 3) 3 i0 _ 1 8 Try.underlying29 hi hz0 hz1 hz2 rfl (by decide) _ m _ rfl (hown.alloc _) ⟨W4.heap.size, 0, none⟩ 1 1 [.int .i64 (x : Int)] rfl rfl ?c1 ?c2 ?c3 ?c4 ?c5 ?_))
            try (case c1 => exact news1 W4 _ _)
            case c2 => first | rfl | (intro u hu; simp at hu; subst hu; rfl)
            case c3 => unfold maxLen; omega
            case c4 => omega
            case c5 => simp; omega
            intro v' w5 hown5 hgrow _
            have r5 := (H4.out.alloc (.cells #[.int .i64 (x : Int)] 3)).app hown5 hgrow
            have HS := hide (show RS w j (lc ts j) (sof f (t + 1)) (ph1 (ph0 (rls ts) j) (nf f) (t + 1)) v' (m + 1) (w5.setCell ⟨w.heap.size + 1, x, none⟩ (.int .i64 (-1))) from by rw [HSt.out.1, HSt.out.2]; exact RS.facted HM.out HW.out HB.out hin hh (r5.setBy _ _))
            obtain ⟨a5, c5, rfl⟩ := own_form hown5
            have hm1 : m + 1 ≤ 40 := by have := HS.out.1; have := HS.out.2.1.len; omega
            have b0 := r5.2.1.cell_ints hh
            have bt := r5.2.1.thaw x
            clear hown5 hgrow hown H4 r5 HSt HM HW HB hin
            go_wp2
            exact ⟨⟨t + 1, m + 1, a5, c5, by omega, hm1, by go_num, rfl, HS⟩, by simp [intOf]; omega⟩
          · rw [hin] at f0
            have HS := hide (show RS w j (lc ts j) (sof f (t + 1)) (ph1 (ph0 (rls ts) j) (nf f) (t + 1)) (.slice aq m cq) m (wp.setCell ⟨w.heap.size + 1, x, none⟩ (.int .i64 (-1))) from by rw [HSt.out.1, HSt.out.2]; exact RS.facted_old HM.out HW.out HB.out hin (H0.out.setBy _ _))
            clear HSt HM HW HB hin H0
            go_wp2
            exact ⟨⟨t + 1, m, aq, cq, by omega, hm40, by go_num, rfl, HS⟩, by simp [intOf]; omega⟩
        · obtain rfl : t = n := by omega
          obtain ⟨hbI, hbC, hbW, hbc⟩ := bgn_inv HGR.out (f := nf f) (n := t) (fun i hi => HRi.out.nf_lt hi)
          have HBI := hide (And.intro hbI hbC)
          have HZ2 := hide (show RS w j (mn (rls ts) j (bgn (rls ts) j (nf f) t) 0).c (sof f t) (mn (rls ts) j (bgn (rls ts) j (nf f) t) 0) (.slice aq m cq) m wp from RS.lists HP.out hbc)
          have hw0 : (mn (rls ts) j (bgn (rls ts) j (nf f) t) 0).wk = 0 := hbW
          have HW0 := hide hw0
          clear HP hbI hbC hbW hbc hw0 HUR HU
          go_wp2
          go_loopw [10, 16, 17] (fun q k' i wr => ∃ (r m : Nat) (aq : Option Addr) (cq : Nat), r ≤ m ∧ m ≤ 40 ∧ i = .int .i64 r ∧ q = .slice aq m cq ∧ k' = .int .i64 (((mn (rls ts) j (bgn (rls ts) j (nf f) t) r).wk : Nat) : Int) ∧ Hid (RS w j (mn (rls ts) j (bgn (rls ts) j (nf f) t) r).c (sof f t) (mn (rls ts) j (bgn (rls ts) j (nf f) t) r) (.slice aq m cq) m wr)) (fun _ _ i _ => 41 - (intOf i).toNat)
          case atStart => exact ⟨0, m, aq, cq, Nat.zero_le _, hm40, rfl, rfl, by rw [HW0.out]; rfl, HZ2⟩
          case round =>
            rename World => wq
            clear HZ2 hm40
            obtain ⟨r, m, aq, cq, hr, hm40, rfl, rfl, rfl, HP⟩ := hrel
            by_cases hlt3 : r < m
            · obtain ⟨e, he⟩ : ∃ e, (mn (rls ts) j (bgn (rls ts) j (nf f) t) r).q[r]? = some e := ⟨_, List.getElem?_eq_getElem (by have := HP.out.1; omega)⟩
              have hrd : decide ((r : Int) < (m : Int)) = true := by simp; omega
              obtain ⟨mI, mC, mE⟩ := mn_inv HGR.out HBI.out.1 HBI.out.2 r
              have mW := mn_wk (rls ts) j (bgn (rls ts) j (nf f) t) r
              have HWk := hide (show (mn (rls ts) j (bgn (rls ts) j (nf f) t) r).wk ≤ 2400 from by
                have h1 : (bgn (rls ts) j (nf f) t).wk = 0 := HW0.out
                have h2 : r * j ≤ 40 * 60 := Nat.mul_le_mul (by omega) hk
                omega)
              have HNx := hide (show mn (rls ts) j (bgn (rls ts) j (nf f) t) (r + 1) = par (rls ts) (mn (rls ts) j (bgn (rls ts) j (nf f) t) r) e.1 j from by
                rw [par_is]; simp only [mn]; rw [he])
              have HCn := hide (show ∀ i, i < j → 0 ≤ (mn (rls ts) j (bgn (rls ts) j (nf f) t) r).c i ∧ (mn (rls ts) j (bgn (rls ts) j (nf f) t) r).c i ≤ 40 from fun i hi => by
                rw [mC i hi]
                have h1 := unt_le (tkn (mn (rls ts) j (bgn (rls ts) j (nf f) t) r).q r) (rls ts i).bd (rls ts i).nb
                have h2 := (HGR.out i hi).2.len
                unfold unt; omega)
              have HSW := hide mI.w
              have HE := hide he
              clear mI mC mE mW he
              generalize mn (rls ts) j (bgn (rls ts) j (nf f) t) r = s at *
              go_wp2
              go_loopw [10, 16, 96] (fun q k' i wr => ∃ (p m : Nat) (aq : Option Addr) (cq : Nat), p ≤ j ∧ r < m ∧ m ≤ 40 ∧ i = .int .i64 p ∧ q = .slice aq m cq ∧ k' = .int .i64 (((par (rls ts) s e.1 p).wk : Nat) : Int) ∧ Hid (RS w j (par (rls ts) s e.1 p).c (sof f t) (par (rls ts) s e.1 p) (.slice aq m cq) m wr)) (fun _ _ i _ => j - (intOf i).toNat)
              case atStart => exact ⟨0, m, aq, cq, Nat.zero_le _, hlt3, hm40, rfl, rfl, rfl, HP⟩
              case round =>
                rename World => wx
                clear HP hm40 hlt3 hr hrd
                obtain ⟨p, m, aq, cq, hp, hlt3, hm40, rfl, rfl, rfl, HP⟩ := hrel
                by_cases hlt4 : p < j
                · obtain ⟨bb, off, rfl, hbb, hrow⟩ := HR.out (by omega)
                  obtain ⟨y, q1, q2, i1⟩ := hrow p hlt4
                  obtain ⟨ay, cy, rfl⟩ := i1.form
                  have hEx := par_ext (rls ts) s e.1 p
                  obtain ⟨gq, cq', hvq, hqc⟩ := HP.out.own (t := r) (e := e) (by obtain ⟨d, hd⟩ := hEx; rw [hd, List.getElem?_append_left (List.getElem?_eq_some_iff.1 HE.out).1]; exact HE.out)
                  cases hvq
                  obtain ⟨hm, hwi, b, hB, h0⟩ := HP.out
                  have hbw := h0.2.2.2.2.1
                  have c0 := (hbw.cell (p := ⟨bb, off + p * 2, none⟩) hbb).trans q1
                  have c1 := (hbw.cell (p := ⟨bb, off + p * 2 + 1, none⟩) hbb).trans q2
                  have hgj := HG.out.2 p hlt4
                  rw [hgj.hd.1] at c0
                  have hh := hgj.hd.2
                  have HRp := hide hgj.2
                  have hnb := hgj.2.len
                  have hbA := (Below.refl wx.heap.size wx).alloc (Nat.le_refl _) (.cells #[.int .i64 (((rl (ts p)).hd : Nat) : Int), .slice ay (ts p).nn cy] 48)
                  have HX := hide (show R0 w j (par (rls ts) s e.1 p).c (par (rls ts) s e.1 p).inn b (.slice (some ⟨gq, 0, none⟩) m cq) m (ns (par (rls ts) s e.1 p).q) (wx.alloc (.cells #[.int .i64 (((rl (ts p)).hd : Nat) : Int), .slice ay (ts p).nn cy] 48)) ∧ Rg w wx.heap.size (rl (ts p)).hd (.slice ay (ts p).nn cy) (wx.alloc (.cells #[.int .i64 (((rl (ts p)).hd : Nat) : Int), .slice ay (ts p).nn cy] 48)) from ⟨h0.alloc _, h0.2.2.2.2.2, Blk.fresh wx _ 2 _ _ rfl⟩)
                  have I1 := hide (i1.below (hbw.trans (hbA.mono hbw.size)))
                  have qA := (hbA.cell (p := ⟨gq, r, none⟩) (block_lt_of_cell hqc)).trans hqc
                  have HCp := hide (show (par (rls ts) s e.1 p).c p = s.c p from par_c _ _ _ p p (Nat.le_refl _))
                  have hcb := HCn.out p hlt4
                  rw [← HCp.out] at hcb
                  have HWp := hide (par_wk (rls ts) s e.1 p)
                  have HNo := hide (show inb (rls ts p) e.1 = false → par (rls ts) s e.1 (p + 1) = par (rls ts) s e.1 p from fun h => by simp only [par]; rw [h]; rfl)
                  have HYes := hide (show inb (rls ts p) e.1 = true → par (rls ts) s e.1 (p + 1) = hit (rls ts) (par (rls ts) s e.1 p) p from fun h => by simp only [par]; rw [h]; rfl)
                  have HIn := hide (show inb (rls ts p) e.1 = true ↔ ∃ q, q < (ts p).nn ∧ (ts p).fn q = (e.1 : Int) from by
                    rw [inb_iff]
                    constructor
                    · rintro ⟨q, hq, e'⟩; exact ⟨q, hq, by rw [hgj.2.nf_eq hq]; exact congrArg Int.ofNat e'⟩
                    · rintro ⟨q, hq, e'⟩; exact ⟨q, hq, by show ((ts p).fn q).toNat = e.1; rw [e']; simp⟩)
                  have HB := hide hB
                  have HW := hide hwi
                  have HM := hide hm
                  have hwk : (par (rls ts) s e.1 p).wk ≤ 2500 := by have := HWp.out; have := HWk.out; omega
                  generalize par (rls ts) s e.1 p = s1 at *
                  generalize hs2 : par (rls ts) s e.1 (p + 1) = s2 at *
                  have HS3 := hide hs2
                  clear hs2
                  go_upto_region 29 with fail
                  generalize wx.alloc (.cells #[.int .i64 (((rl (ts p)).hd : Nat) : Int), .slice ay (ts p).nn cy] 48) = W1 at *
                  generalize hgr : wx.heap.size = gr at *
                  clear hgr hbA hqc h0 hB hwi hm hbw hrow q1 q2 i1 HP HCp HWp HWk HCn hEx hbb c0 c1 hgj
                  obtain ⟨d0, d1, -, -⟩ := HX.out.2.2.pair
                  have hri : (r : Int) < (m : Int) := by omega
                  rcases hbi : inb (rls ts p) e.1 with _ | _
                  · have HL := hide (show ∀ nq, Calls Try.prog 59 #[.slice ay (ts p).nn cy, .int .i64 (e.1 : Int)] (W1.drewN nq) fun e' w' => e' = .returned (.bool false) ∧ w' = W1.drewN nq from fun nq =>
                      l1has_to _ _ _ _ false _ (I1.out.below (below_drewN (Below.refl _ _) nq)) (by omega) (by rw [← hbi]; exact HIn.out))
                    have HS2 := hide (HNo.out hbi)
                    clear HNo HYes HIn I1 hbi
                    go_big_quiet (with_reducible exact Calls.quiet_of_same (HL.out _))
                    have HS := hide (show RS w j s2.c (sof f t) s2 (.slice (some ⟨gq, 0, none⟩) m cq) m (W1.drewN nq) from by rw [HS2.out]; exact ⟨HM.out, HW.out, b, HB.out, HX.out.1.down (below_drewN (Below.refl _ _) nq)⟩)
                    rw [← HS2.out]
                    clear HX HB HW HM HS2 HL d0 d1 qA HR HG HGR HE HBI HRi HNx HSW
                    go_wp2
                    exact ⟨⟨p + 1, m, _, cq, by omega, hlt3, hm40, by go_num, rfl, by rw [HS3.out], by rw [HS3.out]; exact HS⟩, by simp [intOf]; omega⟩
                  · have HL := hide (show ∀ nq, Calls Try.prog 59 #[.slice ay (ts p).nn cy, .int .i64 (e.1 : Int)] (W1.drewN nq) fun e' w' => e' = .returned (.bool true) ∧ w' = W1.drewN nq from fun nq =>
                      l1has_to _ _ _ _ true _ (I1.out.below (below_drewN (Below.refl _ _) nq)) (by omega) ⟨fun _ => HIn.out.1 hbi, fun _ => rfl⟩)
                    have HS2 := hide (HYes.out hbi)
                    clear HNo HYes HIn I1 hbi
                    go_big_quiet (with_reducible exact Calls.quiet_of_same (HL.out _))
                    have HX2 := hide (show R0 w j s1.c s1.inn b (.slice (some ⟨gq, 0, none⟩) m cq) m (ns s1.q) (W1.drewN nq) ∧ Rg w gr (rl (ts p)).hd (.slice ay (ts p).nn cy) (W1.drewN nq) from ⟨HX.out.1.down (below_drewN (Below.refl _ _) nq), HX.out.2.down (below_drewN (Below.refl _ _) nq)⟩)
                    clear HX HL d0 d1 qA HR HG HGR HE HBI HRi HNx HSW
                    generalize W1.drewN nq = W2 at *
                    obtain ⟨r2, g2⟩ := HX2.out
                    have e0 := r2.2.2.1.cell_ints hlt4
                    have t0 := r2.2.2.1.thaw p
                    have hpj : (p : Int) < (j : Int) := by omega
                    have HHit := hide (show (s1.c p - 1 = 0 → s2 = come (les s1 p) (rl (ts p)).hd (some p)) ∧ (s1.c p - 1 ≠ 0 → s2 = les s1 p) ∧ s2.c = upd s1.c p (s1.c p - 1) ∧ s2.wk = s1.wk + 1 from by
                      rw [HS2.out]
                      refine ⟨fun h => ?_, fun h => ?_, (hit_c _ _ _).1, (hit_c _ _ _).2⟩
                      · unfold hit; rw [if_pos h]; rfl
                      · unfold hit; rw [if_neg h])
                    generalize hz : s1.c p = z at *
                    clear hz HS2 HX2
                    go_wp2_with (refine stop_at (some 119) rfl (fun W => R0 w j (upd s1.c p (z - 1)) s1.inn b (.slice (some ⟨gq, 0, none⟩) m cq) m (ns s1.q) W ∧ Rg w gr (rl (ts p)).hd (.slice ay (ts p).nn cy) W) ?hR ?_)
                    case hR => exact hide ⟨r2.setC _ _, g2.set (by omega)⟩
                    clear r2 g2 e0 t0
                    rintro W3 ⟨r3, g3⟩
                    obtain ⟨d0, d1, -, -⟩ := g3.2.pair
                    have e0 := r3.2.2.1.cell_ints hlt4
                    rw [upd_same] at e0
                    have f0 := r3.1.cell_bv hh
                    have t0 := r3.1.thaw (rl (ts p)).hd
                    have H3 := hide (And.intro r3 g3)
                    clear r3 g3
                    generalize (ts p).nn = nn at *
                    generalize (rl (ts p)).hd = x at *
                    have hx0 : (0 : Int) ≤ (x : Int) := by omega
                    have hx1 : (x : Int) < 40 := by omega
                    by_cases hz0' : z - 1 = 0
                    · have hzI : (z - 1 == 0) = true := by simp [hz0']
                      have HSt := hide (HHit.out.1 hz0')
                      clear hz0'
                      rcases hin : s1.inn x with _ | _
                      · rw [hin] at f0
                        go_wp2_with (refine stop_at (some 135) rfl (fun W => R0 w j (upd s1.c p (z - 1)) (upd s1.inn x true) b (.slice (some ⟨gq, 0, none⟩) m cq) m (ns s1.q) W ∧ Rg w gr x (.slice ay nn cy) W) ?hR ?_)
                        case hR => exact hide ⟨H3.out.1.setIn _, H3.out.2.set (by omega)⟩
                        clear H3 d0 d1 e0 f0 t0
                        rintro W4 ⟨r4, g4⟩
                        obtain ⟨d0, d1, -, -⟩ := g4.2.pair
                        have e0 := r4.2.1.cell_ints hh
                        have t0 := r4.2.1.thaw x
                        go_wp2_with (refine stop_at (some 140) rfl (fun W => R0 w j (upd s1.c p (z - 1)) (upd s1.inn x true) (upd b x (p : Int)) (.slice (some ⟨gq, 0, none⟩) m cq) m (ns s1.q) W ∧ Rg w gr x (.slice ay nn cy) W) ?hR ?_)
                        case hR => exact hide ⟨r4.setBy _ _, g4.set (by omega)⟩
                        clear r4 g4 d0 d1 e0 t0
                        rintro W5 ⟨r5, g5⟩
                        obtain ⟨d0, d1, -, -⟩ := g5.2.pair
                        have hown := r5.2.2.2.1
                        have h63 := r5.2.2.2.2.2
                        have H5 := hide r5
                        clear r5 g5 d1
                        go_wp2_with (at_builtin; refine wpList_append_own _ rfl _ _ 29 rfl (w.heap.size + 3) 3 i0 _ 1 8 Try.underlying29 hi hz0 hz1 hz2 rfl (by decide) _ m _ rfl (hown.alloc _) ⟨W5.heap.size, 0, none⟩ 1 1 [.int .i64 (x : Int)] rfl rfl ?c1 ?c2 ?c3 ?c4 ?c5 ?_)
                        try (case c1 => exact news1 W5 _ _)
                        case c2 => first | rfl | (intro u hu; simp at hu; subst hu; rfl)
                        case c3 => unfold maxLen; omega
                        case c4 => omega
                        case c5 => simp; omega
                        intro v' w6 hown6 hgrow _
                        have r6 := (H5.out.alloc (.cells #[.int .i64 (x : Int)] 3)).app hown6 hgrow
                        have HS := hide (show RS w j s2.c (sof f t) s2 v' (m + 1) w6 from by rw [HHit.out.2.2.1, HSt.out]; exact RS.fired (s := les s1 p) HM.out (HW.out.les p) HB.out hin hh r6)
                        obtain ⟨a6, c6, rfl⟩ := own_form hown6
                        have hm1 : m + 1 ≤ 40 := by have := HS.out.1; have := HS.out.2.1.len; omega
                        have HWK := hide HHit.out.2.2.2
                        clear hown6 hgrow hown H5 r6 HSt HM HW HB hin HHit
                        go_wp2
                        exact ⟨⟨p + 1, m + 1, a6, c6, by omega, by omega, hm1, by go_num, rfl, by rw [HS3.out, HWK.out]; go_num, by rw [HS3.out]; exact HS⟩, by simp [intOf]; omega⟩
                      · rw [hin] at f0
                        have HS := hide (show RS w j s2.c (sof f t) s2 (.slice (some ⟨gq, 0, none⟩) m cq) m W3 from by rw [HHit.out.2.2.1, HSt.out, come_yes (s := les s1 p) hin]; exact ⟨HM.out, HW.out.les p, b, HB.out, H3.out.1⟩)
                        have HWK := hide HHit.out.2.2.2
                        clear H3 HSt HM HW HB hin HHit
                        go_wp2
                        exact ⟨⟨p + 1, m, _, cq, by omega, hlt3, hm40, by go_num, rfl, by rw [HS3.out, HWK.out]; go_num, by rw [HS3.out]; exact HS⟩, by simp [intOf]; omega⟩
                    · have hzI : (z - 1 == 0) = false := by simp [hz0']
                      have HS := hide (show RS w j s2.c (sof f t) s2 (.slice (some ⟨gq, 0, none⟩) m cq) m W3 from by rw [HHit.out.2.2.1, HHit.out.2.1 hz0']; exact ⟨HM.out, HW.out.les p, b, HB.out, H3.out.1⟩)
                      have HWK := hide HHit.out.2.2.2
                      clear H3 HM HW HB HHit hz0' f0 t0
                      go_wp2
                      exact ⟨⟨p + 1, m, _, cq, by omega, hlt3, hm40, by go_num, rfl, by rw [HS3.out, HWK.out]; go_num, by rw [HS3.out]; exact HS⟩, by simp [intOf]; omega⟩
                · obtain rfl : p = j := by omega
                  have HS := hide HP.out
                  rw [← HNx.out] at HS
                  rw [← HNx.out]
                  clear HP HNx HCn HSW HE HBI HGR HG HR HRi HWk
                  go_wp2
                  exact ⟨⟨r + 1, m, aq, cq, by omega, hm40, by go_num, rfl, rfl, HS⟩, by simp [intOf]; omega⟩
            · have hrm : r = m := by omega
              have HF := hide (show fin (rls ts) j (nf f) t = mn (rls ts) j (bgn (rls ts) j (nf f) t) r from fin_of (by rw [← HP.out.1]; omega) (by omega))
              clear HBI HGR HG HR HRi
              go_wp2
              exact bodyPost_ret (v := .tuple #[.slice (some ⟨w.heap.size, 0, none⟩) 40 40, .slice (some ⟨w.heap.size + 1, 0, none⟩) 40 40, .slice aq m cq, .int .i64 (((mn (rls ts) j (bgn (rls ts) j (nf f) t) r).wk : Nat) : Int)]) (by simp [results, Try.results44, go_sem]) rfl ⟨_, _, by rw [HF.out], by rw [HF.out]; rw [← HP.out.1]; exact HP.out⟩
end Go.Proofs.Ytpabnncfcklnpaa

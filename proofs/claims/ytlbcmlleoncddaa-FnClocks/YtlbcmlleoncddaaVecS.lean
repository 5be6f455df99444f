/-
  The specification's VectorsOf for good acts, and the law's helpers on slices of slices of numbers.
-/
import Derived.Test.YtlbcmlleoncddaaVecB
namespace Go.Proofs.Ytlbcmlleoncddaa
open Go.RowKit M
open Clk (upd upd_same upd_other)
open Go.Sort (grow)
namespace M
/-- m rows of k numbers in memory of the call's own, while they are gathered. -/
def TabI (w : World) (B : Nat) (r : Value) (m k : Nat) (f : Nat → Nat → Int) : Prop :=
  ∃ gs : Nat → Nat, w.ownsRow B 29 1 r m ((List.range m).map (sl gs k)) ∧ ∀ i, i < m → B ≤ gs i ∧ Blk w (gs i) k (iv (f i)) 3
theorem TabI.below {w w' : World} {B m n : Nat} {r : Value} {f : Nat → Nat → Int} (h : TabI w B r m n f) (hb : Below w.heap.size w w') : TabI w' B r m n f := by
  obtain ⟨gs, h1, h2⟩ := h
  exact ⟨gs, owns_below h1 hb, fun i hi => ⟨(h2 i hi).1, (h2 i hi).2.down hb⟩⟩
theorem TabI.reads {w : World} {B m k : Nat} {r : Value} {f : Nat → Nat → Int} (h : TabI w B r m k f) : IntssOf w r m k f := by
  obtain ⟨gs, h1, h2⟩ := h
  obtain ⟨a, cap, rfl, hr⟩ := own_cells h1 (by simp)
  refine ⟨_, _, rfl, fun hm => ?_⟩
  obtain ⟨g, rfl, hB, hlt, hc⟩ := hr hm
  exact ⟨g, 0, rfl, hlt, fun i hi => ⟨_, by rw [Nat.zero_add]; exact hc i _ (by rw [List.getElem?_map, List.getElem?_range hi]; rfl), (h2 i hi).2.ints⟩⟩
end M
set_option maxHeartbeats 4000000 in
theorem spec_vecs (k : Nat) (v : Value) (n : Nat) (l : Nat → Ac) (w : World) (hv : ActsOf w v n l) (hg : GoodL (k : Int) n l) :
    Calls Try.prog 24 #[.int .i64 (k : Int), v] w fun e w' => (∃ r, e = .returned (.tuple #[r, .bool true]) ∧ IntssOf w' r n k (Vf l)) ∧ Below w.heap.size w w' := by
  obtain ⟨i0, hi, hz0, hz1, hz2⟩ := info_parts info_ints
  have HV := hide hv
  have hn : n ≤ 60 := hg.2.1
  have hk6 : k ≤ 6 := by have := hg.1.2; omega
  have HG := hide hg
  obtain ⟨a, cap, rfl, hr⟩ := hv
  have HR := hide hr
  have hmk := make_ints k (by omega)
  clear hg hr
  go_enter Try.func24, Try.ntmps24
  go_wp2_with fail
  refine (spec_good_yes _ _ n l _ HV.out HG.out).mono ?_
  rintro e w1 ⟨rfl, hb1⟩
  go_wp2_with fail
  refine (l2_ahead _ _ n l _ (HV.out.below hb1) HG.out).mono ?_
  rintro e w2 ⟨⟨r, rfl, hT⟩, hb⟩
  have hb2 := hb1.trans (hb.mono hb1.size)
  obtain ⟨ta, tc, rfl⟩ := hT.form
  have HT := hide hT
  clear hT hb hb1 HV
  go_wp2
  go_loopw [6, 18] (fun x y wr => ∃ (i : Nat) (ao : Option Addr) (c : Nat), i ≤ n ∧ y = .int .i64 i ∧ x = .slice ao i c ∧ Hid (TabI wr w2.heap.size (.slice ao i c) i k (Vf l)) ∧ Below w2.heap.size w2 wr) (fun _ y _ => n - (intOf y).toNat)
  case atStart => exact ⟨0, none, 0, Nat.zero_le _, rfl, rfl, hide ⟨fun _ => 0, World.ownsRow_nil _ _ _ _, fun i hi => absurd hi (by omega)⟩, Below.refl _ _⟩
  case round =>
    rename World => wo
    obtain ⟨i, ao, c, hin, rfl, rfl, HO, hbw⟩ := hrel
    have hbf := hb2.trans (hbw.mono hb2.size)
    by_cases hlt : i < n
    · obtain ⟨ob, oc, gt, hr', hBo, hob, hrd⟩ := (HT.out.below hbw).read (by omega)
      obtain ⟨rfl, rfl⟩ : ta = some ⟨ob, 0, none⟩ ∧ tc = oc := by simpa using hr'
      obtain ⟨ba, off, rfl, hba, hrow⟩ := HR.out (by omega)
      have o0 := (hrd i hlt).1
      have HK := hide (hrd i hlt).2.2
      have HRow := hide (show ∀ j, j < n → wo.cell? ⟨ba, off + j * 2, none⟩ = some (.int .i64 ((P l j : Nat) : Int)) from fun j hj => by
        rw [← (good_P HG.out hj).1]; exact (hbf.cell (p := ⟨ba, off + j * 2, none⟩) hba).trans (hrow j hj).1)
      have hbao : ba < wo.heap.size := Nat.lt_of_lt_of_le hba hbf.size
      have hsz := hbw.size
      clear hrd hr' HT hrow HR
      go_wp2
      generalize hW : wo.alloc _ = w3
      have hb3 : Below wo.heap.size wo w3 := by rw [← hW]; exact (Below.refl _ _).alloc (Nat.le_refl _) _
      have HB3 := hide (show Blk w3 wo.heap.size k (iv fun _ => 0) 3 by rw [← hW]; exact Blk.new wo k _ _)
      clear hW
      go_loopw [10] (fun y wr => ∃ j : Nat, j ≤ i + 1 ∧ y = .int .i64 j ∧ Hid (Blk wr wo.heap.size k (iv (Kf l i j)) 3) ∧ Below wo.heap.size w3 wr) (fun y _ => i + 1 - (intOf y).toNat)
      case atStart => exact ⟨0, Nat.zero_le _, rfl, hide (by rw [Kf_zero]; exact HB3.out), Below.refl _ _⟩
      case round =>
        rename World => wq
        obtain ⟨j, hji, rfl, HKj, hbq⟩ := hrel
        have hboq := hb3.trans hbq
        by_cases hlt2 : j ≤ i
        · have x0 := (HK.out.down hboq).cell (show j < n by omega)
          have r0 := (hboq.cell (p := ⟨ba, off + j * 2, none⟩) hbao).trans (HRow.out j (by omega))
          have hPk : P l j < k := by have := (good_P HG.out (show j < n by omega)).2.2; omega
          have d1 := HKj.out.cell_ints hPk
          have d2 := HKj.out.thaw (P l j)
          have hKb := Kf_le l i j (P l j)
          have hj0 : (0 : Int) ≤ (j : Int) := by omega
          have hP0 : (0 : Int) ≤ ((P l j : Nat) : Int) := by omega
          have hP1 : ((P l j : Nat) : Int) < (k : Int) := by omega
          by_cases hyes : j = i ∨ Ab l i j = true
          · have H2 := hide (show ∀ x, x = Kf l i j (P l j) + 1 → Blk (wq.setCell ⟨wo.heap.size, P l j, none⟩ (.int .i64 x)) wo.heap.size k (iv (Kf l i (j + 1))) 3 ∧ Below wo.heap.size w3 (wq.setCell ⟨wo.heap.size, P l j, none⟩ (.int .i64 x)) from fun x hx => by
              subst hx
              refine ⟨?_, hbq.setCell (Nat.le_refl _) _⟩
              rw [← Kf_yes l i j hlt2 hyes]; exact HKj.out.set_int _ _)
            rcases (show Ab l i j = true ∨ (Ab l i j = false ∧ j = i) by
              cases h : Ab l i j
              · exact .inr ⟨rfl, hyes.resolve_right (by rw [h]; simp)⟩
              · exact .inl rfl) with hA | ⟨hA, hji2⟩
            · simp only [hA] at x0
              clear HKj hyes hA HB3
              generalize Kf l i j (P l j) = x at *
              go_wp2
              exact ⟨⟨j + 1, by omega, by go_num, hide (H2.out _ rfl).1, (H2.out _ rfl).2⟩, by simp [intOf]; omega⟩
            · simp only [hA] at x0
              clear HKj hyes hA HB3
              subst hji2
              generalize Kf l j j (P l j) = x at *
              go_wp2
              exact ⟨⟨j + 1, by omega, by go_num, hide (H2.out _ rfl).1, (H2.out _ rfl).2⟩, by first | (simp [intOf]; done) | (simp [intOf]; omega)⟩
          · have hA : Ab l i j = false := by
              cases h : Ab l i j
              · rfl
              · exact absurd (.inr h) hyes
            have hje : ((j : Int) == (i : Int)) = false := by
              have : j ≠ i := fun h => hyes (.inl h)
              simp; omega
            have H2 := hide (show Blk wq wo.heap.size k (iv (Kf l i (j + 1))) 3 by rw [Kf_no l i j hlt2 hyes]; exact HKj.out)
            simp only [hA] at x0
            clear HKj hyes hA HB3 d1 d2
            go_wp2
            exact ⟨⟨j + 1, by omega, by go_num, H2, hbq⟩, by simp [intOf]; omega⟩
        · obtain rfl : j = i + 1 := by omega
          have HKv := hide (show Blk wq wo.heap.size k (iv (Vf l i)) 3 by rw [← Kf_all]; exact HKj.out)
          obtain ⟨gs, hown0, hgs⟩ := HO.out
          have hown := owns_below hown0 hboq
          have HGS := hide hgs
          have hbwq := hbw.trans (hboq.mono hsz)
          have hszq := hbwq.size
          have hji3 : ¬ (((i + 1 : Nat) : Int) ≤ (i : Int)) := by omega
          clear HKj HO HB3 HK HRow hgs hown0
          go_wp2_with (at_builtin; refine wpList_append_own _ rfl _ _ 35 rfl w2.heap.size 29 i0 _ 1 24 Try.underlying35 hi hz0 hz1 hz2 rfl (by decide) _ i _ rfl (hown.alloc _) ⟨wq.heap.size, 0, none⟩ 1 1 [.slice (some ⟨wo.heap.size, 0, none⟩) k k] rfl rfl ?c1 ?c2 ?c3 ?c4 ?c5 ?_)
          try (case c1 => exact news1 wq _ _)
          case c2 => first | rfl | (intro u hu; simp at hu; subst hu; rfl)
          case c3 => unfold maxLen; omega
          case c4 => omega
          case c5 => first | omega | (simp; omega)
          intro v' w4 hown4 hgrow _
          have hbw4 : Below w2.heap.size w2 w4 := (hbwq.alloc hszq _).grown hgrow (by simp; omega) (fun j hj => (hown.lt j hj).1)
          obtain ⟨a4, c4, rfl⟩ := own_form hown4
          have HT4 := hide (show TabI w4 w2.heap.size (.slice a4 (i + 1) c4) (i + 1) k (Vf l) from by
            refine ⟨upd gs i wo.heap.size, ?_, fun j hj => ?_⟩
            · rw [range_snoc]
              have e1 : (List.range i).map (sl (upd gs i wo.heap.size) k) = (List.range i).map (sl gs k) := List.map_congr_left fun j hj => by
                have := List.mem_range.1 hj
                unfold sl; rw [upd_other _ _ _ _ (by omega)]
              have e2 : sl (upd gs i wo.heap.size) k i = .slice (some ⟨wo.heap.size, 0, none⟩) k k := by unfold sl; rw [upd_same]
              rw [e1, e2]; exact hown4
            · by_cases he : j = i
              · subst he; rw [upd_same]
                exact ⟨hsz, (HKv.out.alloc _).grown (hown.alloc _) (by decide) hgrow⟩
              · rw [upd_other _ _ _ _ he]
                have h0 := HGS.out j (by omega)
                exact ⟨h0.1, ((h0.2.down hboq).alloc _).grown (hown.alloc _) (by decide) hgrow⟩)
          clear hown4 hgrow hown HKv HGS
          go_wp2
          exact ⟨⟨i + 1, a4, c4, by omega, by go_num, rfl, HT4, hbw4⟩, by simp [intOf]; omega⟩
    · obtain rfl : i = n := by omega
      clear HT HR
      go_wp2
      go_ret2
      exact ⟨⟨_, rfl, HO.out.reads⟩, hbf⟩
set_option maxHeartbeats 1000000 in
theorem eq_intss (v u : Value) (m k : Nat) (f : Nat → Nat → Int) (w : World) (hv : IntssOf w v m k f) (hu : IntssOf w u m k f) (hm : m ≤ 1048576) (hk : k ≤ 1048576) :
    Calls Try.prog 26 #[v, u] w fun e w' => e = .returned (.bool true) ∧ Below w.heap.size w w' := by
  have HV := hide hv
  have HU := hide hu
  obtain ⟨a, cap, rfl⟩ := hv.form
  obtain ⟨a2, cap2, rfl⟩ := hu.form
  clear hv hu
  go_enter Try.func26, Try.ntmps26
  go_wp2
  go_loopw [5] (fun i wr => ∃ j : Nat, j ≤ m ∧ i = .int .i64 j ∧ Below w.heap.size w wr) (fun i _ => m - (intOf i).toNat)
  case atStart => exact ⟨0, Nat.zero_le _, rfl, Below.refl _ _⟩
  case round =>
    obtain ⟨j, hj, rfl, hbw⟩ := hrel
    by_cases hlt : j < m
    · obtain ⟨_, _, ev, hr⟩ := HV.out.below hbw
      obtain ⟨_, _, eu, hr2⟩ := HU.out.below hbw
      obtain ⟨b, off, hb0, hb, hrow⟩ := hr (by omega)
      obtain ⟨b2, off2, hb20, hb2, hrow2⟩ := hr2 (by omega)
      obtain ⟨rfl, -⟩ : a = some ⟨b, off, none⟩ ∧ True := by refine ⟨?_, trivial⟩; rw [← hb0]; simp only [Value.slice.injEq] at ev; exact ev.1
      obtain ⟨rfl, -⟩ : a2 = some ⟨b2, off2, none⟩ ∧ True := by refine ⟨?_, trivial⟩; rw [← hb20]; simp only [Value.slice.injEq] at eu; exact eu.1
      obtain ⟨r, hc, hI⟩ := hrow j hlt
      obtain ⟨r2, hc2, hI2⟩ := hrow2 j hlt
      obtain ⟨x1, x2, rfl⟩ := hI.form
      obtain ⟨y1, y2, rfl⟩ := hI2.form
      have k0 := cell_regrown hc
      have k1 := cell_regrown hc2
      have hi0 : (0 : Int) ≤ (j : Int) := by omega
      have hi1 : (j : Int) < (m : Int) := by omega
      have HE := hide (show ∀ d os, Calls Try.prog 20 #[.slice x1 k x2, .slice y1 k y2] (grow (redrawn wr d) os) fun e w'' => e = .returned (.bool true) ∧ ∃ p : Regrown, w'' = grow (redrawn wr p.d) p.os from fun d os => Calls.regrown_of (eq_ints _ _ k (f j) _ (hI.below (below_regrown wr d os)) (hI2.below (below_regrown wr d os)) hk))
      clear hrow hrow2 hr hr2 hI hI2 hc hc2 ev eu hb0 hb20
      go_wp2
      refine wp_region_quiet_below (by kernel_rfl) (by kernel_rfl) ?_
      repeat (go_big_quiet_step (exact HE.out _ _))
      refine wpQuiet_nil ?_
      intro _ hw'
      obtain ⟨⟨dq, osq⟩, hw''⟩ := hw'
      subst hw''
      have hbw2 := hbw.trans ((below_regrown wr dq osq).mono hbw.size)
      go_wp2
      go_roundw
      case rel => exact ⟨j + 1, by omega, by go_num, hbw2⟩
      case measure => simp [intOf]; omega
    · go_wp2
      go_ret
      exact ⟨rfl, hbw⟩
namespace M
/-- The marks of row i. -/
def mk2 (k0 k : Nat) : Nat → Nat → Int := fun i => mk1 (k0 + i * k)
end M
set_option maxHeartbeats 1000000 in
theorem mark_intss (B m k k0 : Nat) (r : Value) (f : Nat → Nat → Int) (w : World) (h : AnsV w B r m k f) (hm : m ≤ 60) (hk : k ≤ 6) (hk0 : k0 ≤ 1000) :
    Calls Try.prog 27 #[r, .int .i64 (k0 : Nat)] w fun e w' => e = .returned (.int .i64 ((k0 + m * k : Nat) : Int)) ∧ AnsV w' B r m k (mk2 k0 k) ∧ Below B w w' ∧ w'.heap.size = w.heap.size := by
  rcases h with ⟨rfl, rfl⟩ | ⟨b, cap, gs, rfl, hB, hb, hgs, hd⟩
  · go_enter Try.func27, Try.ntmps27
    go_wp2
    refine wp_loop_rounds 1 ?_; rw [rounds_succ]
    go_wp2
    go_ret
    exact ⟨ret_int (by simp), .inl ⟨rfl, rfl⟩, Below.refl _ _, rfl⟩
  · have HB := hide hb
    have HGS := hide hgs
    have HD := hide hd
    clear hb hgs hd
    go_enter Try.func27, Try.ntmps27
    go_wp2
    go_loopw [1, 5] (fun x i wr => ∃ j : Nat, j ≤ m ∧ i = .int .i64 j ∧ x = .int .i64 ((k0 + j * k : Nat) : Int) ∧ Hid (Blk wr b m (sl gs k) 29 ∧ (∀ i, i < m → Blk wr (gs i) k (iv (if i < j then mk2 k0 k i else f i)) 3)) ∧ Below B w wr ∧ wr.heap.size = w.heap.size) (fun _ i _ => m - (intOf i).toNat)
    case atStart => exact ⟨0, Nat.zero_le _, rfl, by simp, hide ⟨HB.out, fun i hi => (HGS.out i hi).2⟩, Below.refl _ _, rfl⟩
    case round =>
      obtain ⟨j, hj, rfl, rfl, HA, hbw, hsz⟩ := hrel
      have HSZ := hide hsz
      clear hsz
      have hjk : j * k ≤ 360 := by have := Nat.mul_le_mul (show j ≤ 60 by omega) hk; omega
      by_cases hlt : j < m
      · have c0 := HA.out.1.cell hlt
        have hgj := HA.out.2 j hlt
        rw [if_neg (by omega)] at hgj
        have HJ := hide hgj
        have hBg := (HGS.out j hlt).1
        have hne : b ≠ gs j := fun e => by
          have h1 := HA.out.1
          have h2 := hgj
          unfold Blk at h1 h2
          rw [e, h2] at h1
          simp only [Option.some.injEq, Obj.cells.injEq] at h1
          exact absurd h1.2.1 (by decide)
        clear hgj
        go_wp2_with fail
        refine (mark_ints (gs j) k k (k0 + j * k) (f j) _ HJ.out (by omega) (by omega)).mono ?_
        rintro e w2 ⟨rfl, hk2, ho⟩
        have HA2 := hide (show Blk w2 b m (sl gs k) 29 ∧ (∀ i, i < m → Blk w2 (gs i) k (iv (if i < j + 1 then mk2 k0 k i else f i)) 3) from ⟨ho.blk HA.out.1 hne, fun i hi => by
          by_cases he : i = j
          · subst he; rw [if_pos (by omega)]; exact hk2
          · have h0 := ho.blk (HA.out.2 i hi) (HD.out i j hi hlt he)
            by_cases h2 : i < j
            · rw [if_pos (by omega)]; rw [if_pos h2] at h0; exact h0
            · rw [if_neg (by omega)]; rw [if_neg h2] at h0; exact h0⟩)
        have hbw2 := hbw.trans (ho.below hBg)
        have HSZ2 := hide (ho.size.trans HSZ.out)
        have hstep : (j + 1) * k = j * k + k := by rw [Nat.add_mul, Nat.one_mul]
        have HST := hide hstep
        clear ho hk2 HA HJ HSZ c0 hstep
        go_wp2
        go_roundw
        case rel => exact ⟨j + 1, by omega, by go_num, by rw [HST.out]; go_num, HA2, hbw2, HSZ2.out⟩
        case measure => simp [intOf]; omega
      · obtain rfl : j = m := by omega
        have HF := hide (show AnsV wr B (.slice (some ⟨b, 0, none⟩) j cap) j k (mk2 k0 k) from .inr ⟨b, cap, gs, rfl, hB, HA.out.1, fun i hi => ⟨(HGS.out i hi).1, by have := HA.out.2 i hi; rw [if_pos hi] at this; exact this⟩, HD.out⟩)
        clear HA HB HGS HD
        go_wp2
        go_ret
        exact ⟨rfl, HF.out, hbw, HSZ.out⟩
set_option maxHeartbeats 1000000 in
theorem held_intss (v : Value) (m k k0 : Nat) (w : World) (hv : IntssOf w v m k (mk2 k0 k)) (hm : m ≤ 60) (hk : k ≤ 6) (hk0 : k0 ≤ 1000) :
    Calls Try.prog 28 #[v, .int .i64 (k0 : Nat)] w fun e w' => e = .returned (.int .i64 ((k0 + m * k : Nat) : Int)) ∧ w' = w := by
  obtain ⟨a, cap, rfl, hr⟩ := hv
  have HR := hide hr
  clear hr
  go_enter Try.func28, Try.ntmps28
  go_wp2
  go_loop [1, 5] (fun x i => ∃ j : Nat, j ≤ m ∧ i = .int .i64 j ∧ x = .int .i64 ((k0 + j * k : Nat) : Int)) (fun _ i => m - (intOf i).toNat)
  case atStart => exact ⟨0, Nat.zero_le _, rfl, by simp⟩
  case round =>
    obtain ⟨j, hj, rfl, rfl⟩ := hrel
    have hjk : j * k ≤ 360 := by have := Nat.mul_le_mul (show j ≤ 60 by omega) hk; omega
    by_cases hlt : j < m
    · obtain ⟨b, off, rfl, hb, hrow⟩ := HR.out (by omega)
      obtain ⟨r, hc, hI⟩ := hrow j hlt
      obtain ⟨x1, x2, rfl⟩ := hI.form
      have HI := hide hI
      have HST := hide (show (j + 1) * k = j * k + k by rw [Nat.add_mul, Nat.one_mul])
      clear HR hrow hI
      go_wp2_with fail
      refine (held_ints _ k (k0 + j * k) _ HI.out (by omega) (by omega)).mono ?_
      rintro e w2 ⟨rfl, rfl⟩
      have hnn : ¬ (((k0 + j * k + k : Nat) : Int) < 0) := by omega
      go_wp2
      go_round
      case rel => exact ⟨j + 1, by omega, by go_num, by rw [HST.out]; go_num⟩
      case measure => simp [intOf]; omega
    · obtain rfl : j = m := by omega
      clear HR
      go_wp2
      go_ret
      exact ⟨rfl, rfl⟩
end Go.Proofs.Ytlbcmlleoncddaa

/-
  WhyOf of the specification.
-/
import Derived.Test.YtpabnncfcklnpaaHoW
import Derived.Test.YtpabnncfcklnpaaHoE
namespace Go.Proofs.Ytpabnncfcklnpaa
open Go.RowKit M
open Clk (upd upd_same upd_other)
open Go.Sort (grow)
open Ho
namespace M
abbrev whyL (k n : Nat) (ts : Nat → Tk) (f : Nat → Int) (x : Nat) : List Nat := why (rls ts) (sof f n) x (fin (rls ts) k (nf f) n).q
/-- A fact that no walk looks into. -/
structure Bx (p : Prop) : Prop where
  out : p
/-- What the specification's answer reads. -/
structure QR (k : Nat) (ts : Nat → Tk) (g : Nat → Bool) (F : Sta) (gb : Nat) (b : Nat → Int) (gq : Option Addr) (m : Nat) (W : World) : Prop where
  by' : Blk W gb 40 (iv b) 3
  all : ∀ e, e ∈ F.q → (g e.1 = true → b e.1 = -1) ∧ (g e.1 = false → ∃ i : Nat, e.2 = some i ∧ b e.1 = (i : Int) ∧ i < k)
  len : F.q.length = m
  lt : ∀ e, e ∈ F.q → e.1 < 40
  cell : 0 < m → ∃ q, gq = some ⟨q, 0, none⟩ ∧ ∀ r e, F.q[r]? = some e → W.cell? ⟨q, r, none⟩ = some (.int .i64 (e.1 : Int))
  hq : ∀ q, gq = some q → q.block < W.heap.size
end M
set_option maxHeartbeats 1000000 in
theorem spec_why_out (v u : Value) (k n : Nat) (ts : Nat → Tk) (f : Nat → Int) (x : Nat) (w : World) (hv : TasksOf w v k ts) (hs : Short k ts) (hu : IntsOf w u n f) (hn : n ≤ 1048576) (hO : Okay k n ts f) (hx : x < 40) (hin : (fin (rls ts) k (nf f) n).inn x = false) :
    Calls Try.prog 27 #[v, u, .int .i64 (x : Int)] w fun e w' => e = .returned (.tuple #[.slice none 0 0, .bool false]) ∧ Below w.heap.size w w' := by
  have HV := hide hv
  obtain ⟨a, cap, rfl⟩ := hv.form
  have HU := hide hu
  obtain ⟨au, cu, rfl⟩ := hu.form
  have HSh := hide hs
  have HO := hide hO
  have HIn := Bx.mk hin
  clear hv hu hs hO hin
  have HX := hide (show decide ((0 : Int) ≤ (x : Int) ∧ (x : Int) ≤ 39) = true by simp; omega)
  go_enter Try.func27, Try.ntmps27
  go_wp2_with fail
  refine (spec_good _ k ts true _ HV.out HSh.out (decide_eq_true HO.out.1)).mono ?_
  rintro e w1 ⟨rfl, hb1⟩
  go_wp2_with fail
  refine (l8set_to _ n f true _ (HU.out.below hb1) hn (decide_eq_true HO.out.2)).mono ?_
  rintro e w2 ⟨rfl, rfl⟩
  go_wp2_with fail
  refine (l1in_to _ _ _ true _ HX.out).mono ?_
  rintro e w2' ⟨rfl, rfl⟩
  go_wp2_with fail
  refine (spec_run _ _ k n ts f _ (HV.out.below hb1) (HU.out.below hb1) HO.out).mono ?_
  rintro e w3 ⟨qv, cc, rfl, hR⟩
  generalize fin (rls ts) k (nf f) n = F at *
  obtain ⟨-, -, b, -, h0⟩ := hR
  have hb3 := hb1.trans (h0.2.2.2.2.1.mono hb1.size)
  have c0 := h0.1.cell_bv hx
  rw [HIn.out] at c0
  clear h0
  have hx0 : (0 : Int) ≤ (x : Int) := by omega
  have hx1 : (x : Int) < 40 := by omega
  generalize F.wk = wk at *
  go_wp2
  go_ret2
  exact ⟨rfl, hb3⟩
set_option maxRecDepth 20000 in
set_option maxHeartbeats 8000000 in
theorem spec_why (v u : Value) (k n : Nat) (ts : Nat → Tk) (f : Nat → Int) (x : Nat) (w : World) (hv : TasksOf w v k ts) (hs : Short k ts) (hu : IntsOf w u n f) (hn : n ≤ 1048576) (hO : Okay k n ts f) (hx : x < 40) (hin : (fin (rls ts) k (nf f) n).inn x = true) :
    Calls Try.prog 27 #[v, u, .int .i64 (x : Int)] w fun e w' => (∃ r, e = .returned (.tuple #[r, .bool true]) ∧ w'.ownsRow w.heap.size 3 1 r (whyL k n ts f x).length ((whyL k n ts f x).map nv)) ∧ Below w.heap.size w w' := by
  have HV := hide hv
  obtain ⟨a, cap, rfl, hrw⟩ := hv
  have HR := hide hrw
  have HU := hide hu
  obtain ⟨au, cu, rfl⟩ := hu.form
  have HSh := hide hs
  have HO := hide hO
  have HG := hide hO.1
  have HIn := Bx.mk hin
  have hk := hO.1.1
  have HInv := Bx.mk (fin_inv hO.1.gr (f := nf f) (n := n) (fun i hi => hO.2.nf_lt hi)).1
  clear hu hs hO hin hrw
  have HX := hide (show decide ((0 : Int) ≤ (x : Int) ∧ (x : Int) ≤ 39) = true by simp; omega)
  obtain ⟨i0, hi, hz0, hz1, hz2⟩ := info_parts info_int
  go_enter Try.func27, Try.ntmps27
  go_wp2_with fail
  refine (spec_good _ k ts true _ HV.out HSh.out (decide_eq_true HG.out)).mono ?_
  rintro e w1 ⟨rfl, hb1⟩
  go_wp2_with fail
  refine (l8set_to _ n f true _ (HU.out.below hb1) hn (decide_eq_true HO.out.2)).mono ?_
  rintro e w2 ⟨rfl, rfl⟩
  go_wp2_with fail
  refine (l1in_to _ _ _ true _ HX.out).mono ?_
  rintro e w2' ⟨rfl, rfl⟩
  go_wp2_with fail
  refine (spec_run _ _ k n ts f _ (HV.out.below hb1) (HU.out.below hb1) HO.out).mono ?_
  rintro e w3 ⟨qv, cc, rfl, hR⟩
  have HWhy := hide (show whyL k n ts f x = sel (sof f n) (bk (rls ts) (sof f n) (upd (fun _ => false) x true) (fin (rls ts) k (nf f) n).q) (fin (rls ts) k (nf f) n).q from rfl)
  generalize fin (rls ts) k (nf f) n = F at *
  generalize sof f n = g at *
  obtain ⟨hm, hwi, b, hB, h0⟩ := hR
  have hb3 := hb1.trans (h0.2.2.2.2.1.mono hb1.size)
  have c0 := h0.1.cell_bv hx
  rw [HIn.out] at c0
  have hL40 := hwi.len
  obtain ⟨aq, cq, rfl, hqc⟩ := own_cells h0.2.2.2.1 (by simp [ns])
  have HQ := hide (show QR k ts g F (w2'.heap.size + 1) b aq F.q.length w3 from by
    refine ⟨h0.2.1, fun e he => ⟨(hB.all e he).1, fun hg => ?_⟩, rfl, fun e he => hwi.lt e.1 (List.mem_map_of_mem he), fun hp => ?_, fun q hq => ?_⟩
    · obtain ⟨i, e1, e2⟩ := (hB.all e he).2 hg
      exact ⟨i, e1, e2, (HInv.out.som e he i e1).1⟩
    · obtain ⟨q, rfl, _, _, hc⟩ := hqc hp
      exact ⟨q, rfl, fun r e he => hc r _ (by simp only [ns, List.map_map, List.getElem?_map, he]; rfl)⟩
    · rcases Nat.eq_zero_or_pos F.q.length with hz | hz
      · subst hq
        have := own_form h0.2.2.2.1
        rcases h0.2.2.2.1.2 with ⟨e, _⟩ | ⟨g', c', cur, e, _, hg', _⟩
        · cases e
        · cases e
          exact (Array.getElem?_eq_some_iff.1 hg').1
      · obtain ⟨q', hq', _, hlt, _⟩ := hqc hz
        rw [hq'] at hq; cases hq; exact hlt)
  have HSz := hide h0.2.2.2.2.2
  clear h0 hqc hB hwi hm
  generalize hmm : F.q.length = m at *
  have HMm := hide hmm
  clear hmm
  have hx0 : (0 : Int) ≤ (x : Int) := by omega
  have hx1 : (x : Int) < 40 := by omega
  generalize F.wk = wk at *
  have mk1 : (Instr.makeSlice 58 (.int .i64 40) (.int .i64 40)).run Try.prog w3 = .ok (.slice (some ⟨w3.heap.size, 0, none⟩) 40 40) (w3.alloc (.cells (M.cf 40 (fun _ => .bool false)) 4)) := make_bools 40 (by omega) w3
  have hN0 : Blk (w3.alloc (.cells (M.cf 40 (fun _ => .bool false)) 4)) w3.heap.size 40 (bv fun _ => false) 4 := Blk.new w3 40 _ _
  have n0 := hN0.cell_bv hx
  have nt := hN0.thaw x
  have HN := hide (show Blk (w3.alloc (.cells ((M.cf 40 (fun _ => .bool false)).setIfInBounds x (.bool true)) 4)) w3.heap.size 40 (bv (bk (rls ts) g (upd (fun _ => false) x true) (F.q.drop m))) 4 ∧ Below w3.heap.size w3 (w3.alloc (.cells ((M.cf 40 (fun _ => .bool false)).setIfInBounds x (.bool true)) 4)) from by
    refine ⟨?_, (Below.refl _ _).alloc (Nat.le_refl _) _⟩
    rw [List.drop_of_length_le (by rw [HMm.out]; exact Nat.le_refl _)]
    refine Blk.fresh w3 _ 40 _ _ ?_
    rw [cf_set]
    show cf 40 (upd (bv fun _ => false) x (.bool true)) = _
    rw [bv_upd]; rfl)
  clear hN0
  go_wp2
  generalize hN0' : w3.alloc (.cells ((M.cf 40 (fun _ => .bool false)).setIfInBounds x (.bool true)) 4) = w4 at *
  clear hN0' n0 nt mk1 c0
  generalize hgN : w3.heap.size = gN at *
  have HgN := hide hgN
  clear hgN
  generalize upd (fun _ => false) x true = N0 at *
  go_loopw [13] (fun i wr => ∃ r : Nat, r ≤ m ∧ i = .int .i64 ((r : Int) - 1) ∧ Hid (Blk wr gN 40 (bv (bk (rls ts) g N0 (F.q.drop r))) 4 ∧ Below gN w3 wr)) (fun i _ => (intOf i + 1).toNat)
  case atStart => exact ⟨m, Nat.le_refl _, rfl, HN⟩
  case round =>
    rename World => wo
    clear HN
    obtain ⟨r, hr, rfl, HP⟩ := hrel
    rcases Nat.eq_zero_or_pos r with hr0 | hr0
    · subst hr0
      rw [List.drop_zero] at HP
      have HbW := hide (HP.out.2)
      obtain ⟨hNb, hbw⟩ := HP.out
      have hge : ¬ ((((0 : Nat) : Int) - 1) ≥ 0) := by omega
      have HZ := hide (show (0 : Nat) = (sel g (bk (rls ts) g N0 F.q) (F.q.take 0)).length ∧ wo.ownsRow wo.heap.size 3 1 (.slice none 0 0) 0 ((sel g (bk (rls ts) g N0 F.q) (F.q.take 0)).map nv) from ⟨rfl, World.ownsRow_nil _ _ _ _⟩)
      have HNb := hide hNb
      clear hNb HP HV HR HG HU HSh
      generalize bk (rls ts) g N0 F.q = NF at *
      go_wp2
      go_loopw [17, 91] (fun o i wr => ∃ (t n : Nat) (ao : Option Addr) (c : Nat), t ≤ m ∧ n ≤ t ∧ i = .int .i64 t ∧ o = .slice ao n c ∧ Hid (n = (sel g NF (F.q.take t)).length ∧ wr.ownsRow wo.heap.size 3 1 (.slice ao n c) n ((sel g NF (F.q.take t)).map nv)) ∧ Hid (Below wo.heap.size wo wr)) (fun _ i _ => m - (intOf i).toNat)
      case atStart => exact ⟨0, 0, none, 0, Nat.zero_le _, Nat.le_refl _, rfl, rfl, HZ, hide (Below.refl _ _)⟩
      case round =>
        rename World => wr
        clear HZ
        obtain ⟨t, n', ao, c', ht, hn', rfl, rfl, HOw, HBw⟩ := hrel
        by_cases hlt : t < m
        · obtain ⟨e, he⟩ : ∃ e, F.q[t]? = some e := ⟨_, List.getElem?_eq_getElem (by rw [HMm.out]; exact hlt)⟩
          have hem : e ∈ F.q := List.mem_of_getElem? he
          have he4 := HQ.out.lt e hem
          obtain ⟨q, rfl, hqc⟩ := HQ.out.cell (by omega)
          have qlt := HQ.out.hq _ rfl
          have hbw3 : Below gN w3 wr := hbw.trans (HBw.out.mono (by have := hbw.size; have := HgN.out; omega))
          have cq := (hbw3.cell (p := ⟨q, t, none⟩) (by rw [← HgN.out]; exact qlt)).trans (hqc t e he)
          have cN := (HNb.out.down HBw.out).cell_bv he4
          have cb := (HQ.out.by'.below hbw3 (by rw [← HgN.out]; exact HQ.out.by'.lt)).cell_ints he4
          have HSt := hide (sel_take (g := g) (N := NF) he)
          have HA := hide (HQ.out.all e hem)
          have hx0 : (0 : Int) ≤ (e.1 : Int) := by omega
          have hx1 : (e.1 : Int) < 40 := by omega
          have hti : (t : Int) < (m : Int) := by omega
          have hsz := hbw3.size
          have hown := HOw.out.2
          have HNn := hide HOw.out.1
          have hoz := HBw.out.size
          clear he hem hqc hbw3 HOw qlt
          rcases hNe : NF e.1 with _ | _
          · rw [hNe] at cN
            have HE := hide (show n' = (sel g NF (F.q.take (t + 1))).length ∧ wr.ownsRow wo.heap.size 3 1 (.slice ao n' c') n' ((sel g NF (F.q.take (t + 1))).map nv) from by
              have : sl1 g NF e = none := by unfold sl1; rw [hNe]; rfl
              rw [HSt.out, this]; simp; exact ⟨HNn.out, hown⟩)
            clear HSt HA hNe hown HNn
            go_wp2
            exact ⟨⟨t + 1, n', ao, c', by omega, by omega, by go_num, rfl, HE, HBw⟩, by simp [intOf]; omega⟩
          · rw [hNe] at cN
            rcases hg : g e.1 with _ | _
            · obtain ⟨i, e1, e2, e3⟩ := HA.out.2 hg
              rw [e2] at cb
              have hig : ((i : Int) ≥ 0) := by omega
              have HE := hide (show sel g NF (F.q.take (t + 1)) = sel g NF (F.q.take t) ++ [i] from by
                have : sl1 g NF e = some i := by unfold sl1; rw [hNe, hg, e1]; rfl
                rw [HSt.out, this]; rfl)
              clear HSt HA hNe hg e1 e2
              go_wp2_with (at_builtin; refine wpList_append_own _ rfl _ _ 29 rfl wo.heap.size 3 i0 _ 1 8 Try.underlying29 hi hz0 hz1 hz2 rfl (by decide) _ n' _ rfl (hown.alloc _) ⟨wr.heap.size, 0, none⟩ 1 1 [.int .i64 (i : Int)] rfl rfl ?c1 ?c2 ?c3 ?c4 ?c5 ?_)
              try (case c1 => exact news1 wr _ _)
              case c2 => first | rfl | (intro u hu; simp at hu; subst hu; rfl)
              case c3 => unfold maxLen; omega
              case c4 => omega
              case c5 => simp; omega
              intro v' w5 hown5 hgrow _
              have hb5 : Below wo.heap.size wo w5 := (HBw.out.alloc hoz _).grown hgrow (by simp; omega) (fun j hj => (hown.lt j hj).1)
              obtain ⟨a5, c5, rfl⟩ := own_form hown5
              have HO5 := hide (show n' + 1 = (sel g NF (F.q.take (t + 1))).length ∧ w5.ownsRow wo.heap.size 3 1 (.slice a5 (n' + 1) c5) (n' + 1) ((sel g NF (F.q.take (t + 1))).map nv) from by
                rw [HE.out, List.length_append, List.map_append]; exact ⟨by rw [← HNn.out]; rfl, hown5⟩)
              have HB5 := hide hb5
              clear hown5 hgrow hown HE hb5 HNn
              go_wp2
              exact ⟨⟨t + 1, n' + 1, a5, c5, by omega, by omega, by go_num, rfl, HO5, HB5⟩, by simp [intOf]; omega⟩
            · have e2 := HA.out.1 hg
              rw [e2] at cb
              have HE := hide (show n' = (sel g NF (F.q.take (t + 1))).length ∧ wr.ownsRow wo.heap.size 3 1 (.slice ao n' c') n' ((sel g NF (F.q.take (t + 1))).map nv) from by
                have : sl1 g NF e = none := by unfold sl1; rw [hg]; simp
                rw [HSt.out, this]; simp; exact ⟨HNn.out, hown⟩)
              clear HSt HA hNe hown HNn hg e2
              go_wp2
              exact ⟨⟨t + 1, n', ao, c', by omega, by omega, by go_num, rfl, HE, HBw⟩, by simp [intOf]; omega⟩
        · obtain rfl : t = m := by omega
          have hbw3 : Below gN w3 wr := hbw.trans (HBw.out.mono (by have := hbw.size; have := HgN.out; omega))
          have hbf : Below w.heap.size w wr := hb3.trans (hbw3.mono (by rw [← HgN.out]; exact hb3.size))
          have HE := hide (show wr.ownsRow w.heap.size 3 1 (.slice ao n' c') (sel g NF F.q).length ((sel g NF F.q).map nv) from by
            have h1 := HOw.out
            rw [List.take_of_length_le (by rw [HMm.out]; exact Nat.le_refl _)] at h1
            rw [← h1.1]
            exact owns_mono h1.2 (by have := hb3.size; have := hbw.size; have := HgN.out; omega))
          clear HOw hbw3
          go_wp2
          go_ret2
          exact ⟨⟨_, rfl, by rw [HWhy.out]; exact HE.out⟩, hbf⟩
    · obtain ⟨r, rfl⟩ : ∃ r', r = r' + 1 := ⟨r - 1, by omega⟩
      have hri : (((r + 1 : Nat) : Int) - 1) = (r : Int) := by omega
      rw [hri]
      obtain ⟨e, he⟩ : ∃ e, F.q[r]? = some e := ⟨_, List.getElem?_eq_getElem (by rw [HMm.out]; omega)⟩
      have hem : e ∈ F.q := List.mem_of_getElem? he
      have he4 := HQ.out.lt e hem
      obtain ⟨q, rfl, hqc⟩ := HQ.out.cell (by omega)
      have qlt := HQ.out.hq _ rfl
      obtain ⟨hNb, hbw⟩ := HP.out
      have cq := (hbw.cell (p := ⟨q, r, none⟩) (by rw [← HgN.out]; exact qlt)).trans (hqc r e he)
      have cN := hNb.cell_bv he4
      have cb := (HQ.out.by'.below hbw (by rw [← HgN.out]; exact HQ.out.by'.lt)).cell_ints he4
      have HSt := hide (bk_drop (l := rls ts) (g := g) (N0 := N0) he)
      have HA := hide (HQ.out.all e hem)
      have hx0 : (0 : Int) ≤ (e.1 : Int) := by omega
      have hx1 : (e.1 : Int) < 40 := by omega
      have hrm : (r : Int) < (m : Int) := by omega
      have HNb := hide hNb
      have HBw := hide hbw
      clear he hem hqc qlt hNb hbw HP
      generalize bk (rls ts) g N0 (F.q.drop (r + 1)) = N at *
      rcases hNe : N e.1 with _ | _
      · rw [hNe] at cN
        have HE := hide (show Blk wo gN 40 (bv (bk (rls ts) g N0 (F.q.drop r))) 4 ∧ Below gN w3 wo from by
          have : bst (rls ts) g e N = N := by unfold bst; split <;> simp [hNe]
          rw [HSt.out, this]; exact ⟨HNb.out, HBw.out⟩)
        clear HSt HA hNe HNb HBw
        go_wp2
        exact ⟨⟨r, by omega, by go_num, HE⟩, by simp [intOf]⟩
      · rw [hNe] at cN
        rcases hg : g e.1 with _ | _
        · obtain ⟨i, e1, e2, e3⟩ := HA.out.2 hg
          rw [e2] at cb
          have hig : ((i : Int) ≥ 0) := by omega
          have hik : (i : Int) < (k : Int) := by omega
          have HE := hide (show bk (rls ts) g N0 (F.q.drop r) = adb N (nf (ts i).fn) (ts i).nn from by
            rw [HSt.out]; unfold bst; rw [e1]; simp [hNe, hg]; rfl)
          obtain ⟨bb, off, rfl, hbb, hrow⟩ := HR.out (by omega)
          obtain ⟨y, q1, q2, i1⟩ := hrow i e3
          obtain ⟨ay, cy, rfl, hyr⟩ := i1
          have hb3g : Below w.heap.size w wo := hb3.trans (HBw.out.mono (by rw [← HgN.out]; exact hb3.size))
          have c1 := (hb3g.cell (p := ⟨bb, off + i * 2 + 1, none⟩) hbb).trans q2
          have hgj := HG.out.2 i e3
          have HRj := hide hgj.2
          have hnb := hgj.2.len
          have HY := hide hyr
          have HZ := hide (show Blk wo gN 40 (bv (adb N (nf (ts i).fn) 0)) 4 ∧ Below gN w3 wo from ⟨HNb.out, HBw.out⟩)
          clear HSt HA hNe hg e1 e2 HNb HBw hrow q1 q2 hyr hgj hb3g
          go_wp2
          go_loopw [81] (fun z wr => ∃ p : Nat, p ≤ (ts i).nn ∧ z = .int .i64 p ∧ Hid (Blk wr gN 40 (bv (adb N (nf (ts i).fn) p)) 4 ∧ Below gN w3 wr)) (fun z _ => (ts i).nn - (intOf z).toNat)
          case atStart => exact ⟨0, Nat.zero_le _, rfl, HZ⟩
          case round =>
            rename World => wx
            clear HZ
            obtain ⟨p, hp, rfl, HP⟩ := hrel
            by_cases hlt : p < (ts i).nn
            · obtain ⟨by2, oy, rfl, hby, hyrow⟩ := HY.out (by omega)
              have hb3g : Below w.heap.size w wx := hb3.trans (HP.out.2.mono (by rw [← HgN.out]; exact hb3.size))
              have d0 := (hb3g.cell (p := ⟨by2, oy + p, none⟩) hby).trans (hyrow p hlt)
              rw [HRj.out.nf_eq hlt] at d0
              have hxx := HRj.out.nf_lt hlt
              have d1 := HP.out.1.cell_bv hxx
              have t1 := HP.out.1.thaw (nf (ts i).fn p)
              have HP2 := hide (show Blk (wx.setCell ⟨gN, nf (ts i).fn p, none⟩ (.bool true)) gN 40 (bv (adb N (nf (ts i).fn) (p + 1))) 4 ∧ Below gN w3 (wx.setCell ⟨gN, nf (ts i).fn p, none⟩ (.bool true)) from ⟨HP.out.1.set_bv _, HP.out.2.setCell (Nat.le_refl _) _⟩)
              clear HP hyrow hb3g HE
              generalize nf (ts i).fn p = xx at *
              have hxx0 : (0 : Int) ≤ (xx : Int) := by omega
              have hxx1 : (xx : Int) < 40 := by omega
              have hpi : (p : Int) < ((ts i).nn : Int) := by omega
              go_wp2
              exact ⟨⟨p + 1, by omega, by go_num, HP2⟩, by simp [intOf]; omega⟩
            · obtain rfl : p = (ts i).nn := by omega
              have HE2 := hide (show Blk wx gN 40 (bv (bk (rls ts) g N0 (F.q.drop r))) 4 ∧ Below gN w3 wx from by rw [HE.out]; exact HP.out)
              clear HP HE HY HRj
              go_wp2
              exact ⟨⟨r, by omega, by go_num, HE2⟩, by simp [intOf]⟩
        · have e2 := HA.out.1 hg
          rw [e2] at cb
          have HE := hide (show Blk wo gN 40 (bv (bk (rls ts) g N0 (F.q.drop r))) 4 ∧ Below gN w3 wo from by
            have : bst (rls ts) g e N = N := by unfold bst; split <;> simp [hg]
            rw [HSt.out, this]; exact ⟨HNb.out, HBw.out⟩)
          clear HSt HA hNe HNb HBw hg e2
          go_wp2
          exact ⟨⟨r, by omega, by go_num, HE⟩, by simp [intOf]⟩
end Go.Proofs.Ytpabnncfcklnpaa

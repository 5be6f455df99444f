/-
  Texts that follow one another, joined: RgS, RgL1, OpenEvs.
-/
import Derived.Test.YtfkeokglifpkoaaDoorJoin17
import Derived.Test.YtfkeokglifpkoaaDoorJoin43
import Derived.Test.YtfkeokglifpkoaaDoorJoin40
import Derived.Deep.RegionWith
import Derived.Test.YtfkeokglifpkoaaDoorJoin3
import Derived.Deep.Slices
import Derived.Lib.SmallJoins
import Derived.ProofKit
/-
  A region in the specification's text: which are good, which is active, a region's own memory, the history that counts.
-/
namespace Go.Proofs.YtfkeokglifpkoaaDoor
open Go.RowKit M
open Go.Sort (grow)
namespace M
def verK (bs : Brs) (v : Int) (k : Nat) : Prop := ∀ j b, j < k → bs[j]? = some b → ∀ e ∈ b, e.ver ≤ v
def verE (es : Evs) (v : Int) (k : Nat) : Prop := ∀ j e, j < k → es[j]? = some e → e.ver ≤ v
theorem verK.zero (bs : Brs) (v : Int) : verK bs v 0 := fun _ _ h => absurd h (Nat.not_lt_zero _)
theorem verE.zero (es : Evs) (v : Int) : verE es v 0 := fun _ _ h => absurd h (Nat.not_lt_zero _)
theorem verE.succ {es : Evs} {v : Int} {k : Nat} {x : Ev} (h : verE es v k) (hx : es[k]? = some x) (hv : x.ver ≤ v) : verE es v (k + 1) := fun j e hj he => by
  by_cases c : j = k
  · subst c; rw [hx] at he; simp at he; subst he; exact hv
  · exact h j e (by omega) he
theorem verK.succ {bs : Brs} {v : Int} {k : Nat} {x : Evs} (h : verK bs v k) (hx : bs[k]? = some x) (hv : verE x v x.length) : verK bs v (k + 1) := fun j b hj hb => by
  by_cases c : j = k
  · subst c; rw [hx] at hb; simp at hb; subst hb
    intro e he
    obtain ⟨i, hi, rfl⟩ := List.mem_iff_getElem.1 he
    exact hv i _ hi (List.getElem?_eq_getElem hi)
  · exact h j b (by omega) hb
theorem verK.all {bs : Brs} {v : Int} (h : verK bs v bs.length) : verB bs v := fun b hb e he => by
  obtain ⟨i, hi, rfl⟩ := List.mem_iff_getElem.1 hb
  exact h i _ hi (List.getElem?_eq_getElem hi) e he
theorem verB.not {bs : Brs} {v : Int} {k j : Nat} {b : Evs} {e : Ev} (hb : bs[k]? = some b) (he : b[j]? = some e) (h : v < e.ver) : ¬ verB bs v := fun hh => by
  have := hh b (List.mem_of_getElem? hb) e (List.mem_of_getElem? he)
  omega
end M
set_option maxRecDepth 20000 in
set_option maxHeartbeats 4000000 in
theorem spec_goodR (id ver : Int) (v : Value) (bs : Brs) (b : Bool) (w : World) (hv : BrsOf w v bs) (hf : FineS bs) (hco : CapOk v) (hb : BP b (GdR ⟨id, ver, bs⟩)) :
    Calls Tryd.prog 5 #[rv id ver v] w fun e w' => e = .returned (.bool b) ∧ Below w.heap.size w w' := by
  have hal := low1 w (.cells #[.int .i64 id, .int .i64 ver, v] 33)
  have HV := hide (hv.below hal)
  have HC := hide (new3 w (.int .i64 id) (.int .i64 ver) v 33)
  have HF := hide hf
  have HB := hide hb
  have HCO := hide hco
  have hn := hf.1
  obtain ⟨a1, c1, rfl⟩ := hv.form
  obtain ⟨⟨d0, d1, d2⟩, -⟩ := HC.out.tri
  clear hv hf hb hco
  cases h : inB id 0 9
  · have HN := hide (show b = false from HB.out.no (fun hh => by have := inB_iff.2 hh.1; rw [h] at this; cases this))
    go_enter Tryd.func5, Tryd.ntmps5
    go_wp2_with (go_at_call 10; refine (spec_in _ _ _ _).mono ?_; rintro e w' ⟨rfl, rfl⟩; rw [h])
    go_ret
    exact ⟨ret_bool HN.out.symm, hal⟩
  cases h2 : inB ver 0 1000000
  · have HN := hide (show b = false from HB.out.no (fun hh => by have := inB_iff.2 hh.2.1; rw [h2] at this; cases this))
    go_enter Tryd.func5, Tryd.ntmps5
    go_wp2_with (first | (go_at_call 10; refine (spec_in _ _ _ _).mono ?_; rintro e w' ⟨rfl, rfl⟩; rw [h]) | (go_at_call 11; refine (spec_ver _ _).mono ?_; rintro e w' ⟨rfl, rfl⟩; rw [h2]))
    go_ret
    exact ⟨ret_bool HN.out.symm, hal⟩
  obtain ⟨gb, hgb⟩ := bp_ex (GdT bs)
  have HGB := hide hgb
  clear hgb
  cases gb
  · have HN := hide (show b = false from HB.out.no (fun hh => by have := HGB.out.2 hh.2.2.1; cases this))
    go_enter Tryd.func5, Tryd.ntmps5
    go_wp2_with (first | (go_at_call 10; refine (spec_in _ _ _ _).mono ?_; rintro e w' ⟨rfl, rfl⟩; rw [h]) | (go_at_call 11; refine (spec_ver _ _).mono ?_; rintro e w' ⟨rfl, rfl⟩; rw [h2]))
    refine (spec_gt _ bs false _ HV.out HF.out HCO.out HGB.out).mono ?_
    rintro e w2 ⟨rfl, hb2⟩
    have hbw := hal.trans (hb2.mono hal.size)
    go_wp2
    go_ret
    exact ⟨ret_bool HN.out.symm, hbw⟩
  have HG := hide (HGB.out.1 rfl)
  have HBB := hide (show BP b (verB bs ver) from ⟨fun e => (HB.out.1 e).2.2.2, fun hh => HB.out.2 ⟨inB_iff.1 h, inB_iff.1 h2, HG.out, hh⟩⟩)
  go_enter Tryd.func5, Tryd.ntmps5
  go_wp2_with (first | (go_at_call 10; refine (spec_in _ _ _ _).mono ?_; rintro e w' ⟨rfl, rfl⟩; rw [h]) | (go_at_call 11; refine (spec_ver _ _).mono ?_; rintro e w' ⟨rfl, rfl⟩; rw [h2]))
  refine (spec_gt _ bs true _ HV.out HF.out HCO.out HGB.out).mono ?_
  rintro e w2 ⟨rfl, hb2⟩
  have hbw := hal.trans (hb2.mono hal.size)
  have HC2 := hide (HC.out.down hb2)
  have HV2 := hide (HV.out.below hb2)
  obtain ⟨⟨e0, e1, e2⟩, -⟩ := HC2.out.tri
  clear HC HV HB HGB d0 d1 d2 hb2 hal h h2
  go_wp2_with fail
  clear e0 e1 e2
  go_loopw [27] (fun i wr => ∃ k : Nat, k ≤ bs.length ∧ i = .int .i64 k ∧ Hid (verK bs ver k) ∧ Below w2.heap.size w2 wr) (fun i _ => bs.length - (intOf i).toNat)
  case atStart => exact ⟨0, Nat.zero_le _, rfl, hide (verK.zero bs ver), Below.refl _ _⟩
  case round =>
    rename World => wo
    obtain ⟨k, hk, rfl, HI, hbr⟩ := hrel
    by_cases hlt : k < bs.length
    · obtain ⟨es, he⟩ : ∃ e, bs[k]? = some e := ⟨bs[k], List.getElem?_eq_getElem hlt⟩
      obtain ⟨g, off, rfl, hlg, a2, c2, hc, hs⟩ := HV2.out.at he
      have hcw := (hbr.cell (p := ⟨g, off + k, none⟩) hlg).trans hc
      have hal2 := low1 wo (.cells #[.slice a2 es.length c2] 43)
      have hbq := hbr.trans (hal2.mono hbr.size)
      have q0 := one_new wo (.slice a2 es.length c2) 43
      have hle : es.length ≤ 60 := (HG.out.2.1 es (List.mem_of_getElem? he)).short
      have HS := hide (hs.below hbq)
      have HE := hide he
      obtain ⟨wq, hwq⟩ : ∃ wq, wo.alloc (.cells #[.slice a2 es.length c2] 43) = wq := ⟨_, rfl⟩
      rw [hwq] at hbq q0 HS
      have HWQ := hide hwq
      clear hc hs he hal2 hwq
      go_wp2_with fail
      rw [HWQ.out]
      clear HWQ
      go_wp2_with fail
      go_loopw [34] (fun i wi => ∃ j : Nat, j ≤ es.length ∧ i = .int .i64 j ∧ Hid (verE es ver j) ∧ Below wq.heap.size wq wi) (fun i _ => es.length - (intOf i).toNat)
      case atStart => exact ⟨0, Nat.zero_le _, rfl, hide (verE.zero es ver), Below.refl _ _⟩
      case round =>
        obtain ⟨j, hj, rfl, HJ, hbi⟩ := hrel
        by_cases hjl : j < es.length
        · obtain ⟨x, hx⟩ : ∃ x, es[j]? = some x := ⟨es[j], List.getElem?_eq_getElem hjl⟩
          obtain ⟨a3, c3, hv3, hr3⟩ := HS.out
          simp only [Value.slice.injEq, true_and] at hv3
          obtain ⟨rfl, rfl⟩ := hv3
          obtain ⟨g1, o1, rfl, hl1, hrow1⟩ := hr3 (by intro h; subst h; simp at hjl)
          obtain ⟨f0, f1, f2, f3⟩ := (hrow1 j x hx).below hbi hl1
          have hb4 := hbq.trans (hbi.mono hbq.size)
          have hbz := hbw.trans (hb4.mono hbw.size)
          obtain ⟨⟨-, m1, -⟩, -⟩ := ((HC2.out.down hb4).alloc (.cells (evarr x) 45)).tri
          have hal5 := low1 wr (.cells (evarr x) 45)
          have HX := hide hx
          have hbi5 := hbi.trans (hal5.mono hbi.size)
          have hbz5 := hbz.trans (hal5.mono hbz.size)
          clear hr3 hrow1 hx
          by_cases hgt : ver < x.ver
          · have hgt' : x.ver > ver := hgt
            have HN := hide (show b = false from HBB.out.no (verB.not HE.out HX.out hgt))
            clear HI HJ
            go_wp2
            go_ret
            exact ⟨ret_bool HN.out.symm, hbz5⟩
          · have hgt' : ¬ x.ver > ver := hgt
            have HJ2 := hide (HJ.out.succ HX.out (by omega))
            clear HJ
            go_wp2
            go_roundw
            case rel => exact ⟨j + 1, by omega, by go_num, HJ2, hbi5⟩
            case measure => simp [intOf]; omega
        · obtain rfl : j = es.length := by omega
          have HI2 := hide (HI.out.succ HE.out HJ.out)
          have hbx := hbq.trans (hbi.mono hbq.size)
          clear HI HJ
          go_wp2
          go_roundw
          case rel => exact ⟨k + 1, by omega, by go_num, HI2, hbx⟩
          case measure => simp [intOf]; omega
    · obtain rfl : k = bs.length := by omega
      have HN := hide (show b = true from HBB.out.yes HI.out.all)
      have hbz := hbw.trans (hbr.mono hbw.size)
      clear HI
      go_wp2
      go_ret
      exact ⟨ret_bool HN.out.symm, hbz⟩
end Go.Proofs.YtfkeokglifpkoaaDoor

/-
  The law of GoodRegion, walked. Condition: the table knownKinds reads as the program's text lays it.
-/
namespace Go.Proofs.YtfkeokglifpkoaaDoor
open Go.RowKit M
open Go.Sort (grow)
set_option maxRecDepth 20000 in
set_option maxHeartbeats 4000000 in
theorem law_GoodRegion_run (id ver : Int) (v : Value) (bs : Brs) (w : World) (hv : BrsOf w v bs) (hf : Fine bs) (hkk : KK w)
    (hC : FineS bs → ∃ (r0 : Bool), (∀ (v : Value) (w : World), BrsOf w v bs → CapOk v → Calls Tryd.prog 5 #[rv id ver v] w fun e w' => e = .returned (.bool r0) ∧ Below w.heap.size w w') ∧
      (∀ (v : Value) (w : World), BrsOf w v bs → KK w → Calls Tryd.prog 7 #[rv id ver v] w fun e w' => e = .returned (.bool r0) ∧ Below w.heap.size w w')) :
    Calls Tryd.prog 3 #[rv id ver v] w fun e w' => e = .returned (.bool true) ∧ Below w.heap.size w w' := by
  obtain ⟨a, c, rfl⟩ := hv.form
  have hb0 := (Below.refl w.heap.size w).alloc (Nat.le_refl _) (.cells #[.int .i64 id, .int .i64 ver, .slice a bs.length c] 26)
  have HN0 := hide (show Blk (w.alloc (.cells #[.int .i64 id, .int .i64 ver, .slice a bs.length c] 26)) w.heap.size 3 (q3 (.int .i64 id) (.int .i64 ver) (.slice a bs.length c)) 26 from new3 w _ _ _ _)
  have HV := hide hv
  have HF := hide hf
  have HK := hide hkk
  have HC := hide hC
  clear hv hf hkk hC
  by_cases hfit : bs.length + wb bs ≤ 1048576
  case neg =>
    have hz := szr_no (left := 1048576) (n := bs.length + wb bs) (by omega)
    have hge : szr 1048576 (bs.length + wb bs) < 0 := by rw [hz]; omega
    clear hz HC HN0
    go_enter Tryd.func3, Tryd.ntmps3
    go_wp2_with fail
    refine (sz_region id ver _ bs 1048576 _ (HV.out.below hb0) HF.out (by decide) (by decide)).mono ?_
    rintro e w1 ⟨rfl, hb⟩
    have hb1 := hb0.trans (hb.mono hb0.size)
    clear hb
    go_wp2
    go_ret
    exact ⟨rfl, hb1⟩
  have hz := szr_yes (left := 1048576) (n := bs.length + wb bs) (by omega)
  have hge : ¬ (szr 1048576 (bs.length + wb bs) < 0) := by rw [hz]; omega
  have HS := hide (fine_small HF.out hfit)
  obtain ⟨r0, hS, hI⟩ := HC.out HS.out
  have CS := hide hS
  have CI := hide hI
  have er0 : (r0 != r0) = false := by simp
  clear hz HC hS hI hfit
  go_enter Tryd.func3, Tryd.ntmps3
  go_wp2_with fail
  refine (sz_region id ver _ bs 1048576 _ (HV.out.below hb0) HF.out (by decide) (by decide)).mono ?_
  rintro e w1 ⟨rfl, hb⟩
  have hb1 := hb0.trans (hb.mono hb0.size)
  have HN1 := hide (HN0.out.down hb)
  clear hb hb0 HN0
  obtain ⟨⟨d0, d1, d2⟩, -⟩ := HN1.out.tri
  go_wp2_with fail
  refine (to_region id ver _ bs _ (HV.out.below hb1) HS.out).mono ?_
  rintro e w2 ⟨⟨g2, ps2, rfl, hO, hps⟩, hb⟩
  have hx := hO.brs
  rw [hps] at hx
  have HX2 := hide hx
  have hb2 := hb1.trans (hb.mono hb1.size)
  have HN2 := hide (HN1.out.down hb)
  clear hb hb1 hO hps hx HN1 d0 d1 d2
  go_wp2_with fail
  refine (CS.out _ _ HX2.out (Nat.le_refl _)).mono ?_
  rintro e w3 ⟨rfl, hb⟩
  have hb3 := hb2.trans (hb.mono hb2.size)
  have HN3 := hide (HN2.out.down hb)
  clear hb hb2 HN2 HX2
  obtain ⟨⟨d0, d1, d2⟩, -⟩ := HN3.out.tri
  go_wp2_with fail
  refine (to_region id ver _ bs _ (HV.out.below hb3) HS.out).mono ?_
  rintro e w4 ⟨⟨g4, ps4, rfl, hO, hps⟩, hb⟩
  have hx := hO.brs
  rw [hps] at hx
  have hb4 := hb3.trans (hb.mono hb3.size)
  have hdn := (Below.refl w4.heap.size w4).alloc (Nat.le_refl _) (.cells #[.int .i64 id, .int .i64 ver, .slice (some ⟨g4, 0, none⟩) bs.length bs.length] 33)
  have HY5 := hide (show Blk (w4.alloc (.cells #[.int .i64 id, .int .i64 ver, .slice (some ⟨g4, 0, none⟩) bs.length bs.length] 33)) w4.heap.size 3 (q3 (.int .i64 id) (.int .i64 ver) (.slice (some ⟨g4, 0, none⟩) bs.length bs.length)) 33 from new3 _ _ _ _ _)
  have HX5 := hide (hx.below hdn)
  have HN5 := hide ((HN3.out.down hb).down hdn)
  have hb5 := hb4.trans (hdn.mono hb4.size)
  clear hb hb3 hb4 hO hps hx hdn HN3 d0 d1 d2
  obtain ⟨⟨e0, e1, e2⟩, -⟩ := HY5.out.tri
  go_wp2_with fail
  refine (CI.out _ _ HX5.out (HK.out.below hb5)).mono ?_
  rintro e w6 ⟨rfl, hb⟩
  have hb6 := hb5.trans (hb.mono hb5.size)
  have HX6 := hide (HX5.out.below hb)
  have HY6 := hide (HY5.out.down hb)
  have HN6 := hide (HN5.out.down hb)
  clear hb hb5 HX5 HY5 HN5 e0 e1 e2 CS CI
  obtain ⟨⟨d0, d1, d2⟩, -⟩ := HN6.out.tri
  obtain ⟨⟨e0, e1, e2⟩, -⟩ := HY6.out.tri
  have HM := hide (show ∀ wx wy : World, wx.heap = w6.heap → Below wx.heap.size wx wy → wy.cell? ⟨w4.heap.size, 0, none⟩ = some (.int .i64 id) ∧ wy.cell? ⟨w4.heap.size, 1, none⟩ = some (.int .i64 ver) ∧ wy.cell? ⟨w4.heap.size, 2, none⟩ = some (.slice (some ⟨g4, 0, none⟩) bs.length bs.length) from fun wx wy hh hb => by
    have h : Blk wx w4.heap.size 3 (q3 (.int .i64 id) (.int .i64 ver) (.slice (some ⟨g4, 0, none⟩) bs.length bs.length)) 33 := by unfold Blk; rw [hh]; exact HY6.out
    exact (h.down hb).tri.1)
  go_wp2_with fail
  go_region_with (first | (go_at_call 6; refine (to_region id ver _ bs _ (HV.out.below (hb6.drew)) HS.out).mono ?_; rintro e w7 ⟨⟨g7, ps7, rfl, hO7, hps7⟩, hb7⟩; have hx7 := hO7.brs; rw [hps7] at hx7; have HX7 := hide hx7; clear hx7 hO7 hps7; obtain ⟨m0, m1, m2⟩ := HM.out w6.drew w7 rfl hb7) | (go_at_call 8; refine (eq_region id ver _ _ bs _ ((HX6.out.below ((Below.refl w6.heap.size w6).drew)).below hb7) HX7.out HS.out).mono ?_; rintro e w8 ⟨rfl, hb8⟩))
  all_goals
    have hbz : Below w.heap.size w w8 := (hb6.drew.trans (hb7.mono hb6.size)).trans (hb8.mono (Nat.le_trans hb6.size hb7.size))
    clear hb7 hb8 HX7 m0 m1 m2 d0 d1 d2 e0 e1 e2 HM HX6 HY6 HN6 HV HS
    go_wp2
    go_ret
    exact ⟨rfl, hbz⟩
theorem law_goodRegion (id ver : Int) (v : Value) (bs : Brs) (w : World) (hv : BrsOf w v bs) (hf : Fine bs) (hkk : KK w) :
    Calls Tryd.prog 3 #[rv id ver v] w fun e w' => e = .returned (.bool true) ∧ Below w.heap.size w w' :=
  law_GoodRegion_run id ver v bs w hv hf hkk (fun hs => by
    obtain ⟨b, hb⟩ := bp_ex (GdR ⟨id, ver, bs⟩)
    exact ⟨b, fun v w h hc => spec_goodR id ver v bs b w h hs hc hb, fun v w h hk => impl_goodR id ver v bs b w h hs hk hb⟩)
end Go.Proofs.YtfkeokglifpkoaaDoor

/-
  A slice of the law's events that came in, read as data, is a slice of events in memory.
-/
namespace Go.Proofs.YtfkeokglifpkoaaDoor
open Go.ChangeShapes Go.WideShapes Go.ChangeAt Go.RowKit Go.Joins Go.Deep
open M

theorem cellsLawEv : Tryd.prog.cellsOf 85 = 4 := by kernel_rfl
theorem cellsInt : Tryd.prog.cellsOf 3 = 1 := by kernel_rfl
theorem cellsStr : Tryd.prog.cellsOf 9 = 1 := by kernel_rfl

theorem rows_of {W : World} {b off : Nat} {Pn : Ev → Prop} : ∀ n : Nat, (∀ i, i < n → ∃ e : Ev, EvAt W b (off + i * 4) e ∧ Pn e) → ∃ es : List Ev, es.length = n ∧ Row W b off es ∧ ∀ e ∈ es, Pn e
  | 0, _ => ⟨[], rfl, fun i e h => by simp at h, fun e h => by simp at h⟩
  | n + 1, h => by
    obtain ⟨es, hl, hr, hp⟩ := rows_of n (fun i hi => h i (by omega))
    obtain ⟨e, he, hpe⟩ := h n (by omega)
    refine ⟨es ++ [e], by simp [hl], ?_, ?_⟩
    · intro i x hi
      by_cases hin : i < n
      · exact hr i x (by rw [List.getElem?_append_left (by omega)] at hi; exact hi)
      · rw [List.getElem?_append_right (by omega)] at hi
        have : i = n := by
          rcases Nat.eq_zero_or_pos (i - es.length) with h0 | h0
          · omega
          · rw [List.getElem?_eq_none (by simp; omega)] at hi; cases hi
        subst this
        rw [hl, Nat.sub_self] at hi
        simp at hi
        subst hi
        exact he
    · intro x hx
      rcases List.mem_append.1 hx with hx | hx
      · exact hp x hx
      · simp at hx; subst hx; exact hpe

set_option maxRecDepth 100000 in
theorem open_evs {H : Type} {enc : TypeId × Value → H} {W : World} {b0 : Nat} {v : Value} {d : DataW H} {p : List MemPlace}
    (hv : Value.okWide Tryd.prog W .any b0 60 v) (h : DataW.Trod enc Tryd.prog W 0 (fun _ => true) true 60 v d p) :
    ∃ es : List Ev, SliceOf W v es ∧ es.length ≤ maxLen ∧ ∀ e ∈ es, e.name.size ≤ maxLen := by
  obtain ⟨a0, len0, cap0, rfl⟩ := okWide_slice Tryd.underlying60 hv
  obtain ⟨fuel, hf⟩ := h
  rcases open_slice Tryd.underlying60 hf with ⟨hcs, _⟩ | ⟨a, len, cap, m, n, D, Pl, hcs, _, hl, hm, hmm, _, hx⟩
  · simp [Value.cells] at hcs
    obtain ⟨rfl, rfl, rfl⟩ := hcs
    exact ⟨[], ⟨none, 0, rfl, fun h => absurd rfl h⟩, Nat.zero_le _, fun e h => by simp at h⟩
  · simp [Value.cells] at hcs
    obtain ⟨rfl, rfl, rfl⟩ := hcs
    simp only [if_true] at hmm
    subst hmm
    by_cases h0 : len0 = 0
    · subst h0
      exact ⟨[], ⟨some a, _, rfl, fun h => absurd rfl h⟩, Nat.zero_le _, fun e h => by simp at h⟩
    · obtain ⟨b, off, spot⟩ := a
      have hspot : spot = none := by
        obtain ⟨cs', h1, _⟩ := hx 0 (by omega)
        rw [cellsLawEv] at h1
        obtain ⟨_, hlen, hcell⟩ := World.cells?_some h1
        have q := hcell 0 (by omega)
        have hs : ∃ c, W.cell? (((⟨b, off, spot⟩ : Addr).add (0 * 4)).add 0) = some c := by
          rw [q]
          match cs', hlen with
          | [c0, c1, c2, c3], _ => exact ⟨c0, rfl⟩
        obtain ⟨c, hc⟩ := hs
        have := World.cell?_spot hc
        simpa [Addr.add] using this
      subst hspot
      have ha : ∀ n, (⟨b, off, none⟩ : Addr).add n = ⟨b, off + n, none⟩ := fun n => by unfold Addr.add; split <;> simp_all
      have ha2 : ∀ k n, (⟨b, k, none⟩ : Addr).add n = ⟨b, k + n, none⟩ := fun k n => by unfold Addr.add; split <;> simp_all
      have key : ∀ i, i < len0 → ∃ e : Ev, EvAt W b (off + i * 4) e ∧ e.name.size ≤ maxLen := by
        intro i hi
        obtain ⟨cs', h1, h2⟩ := hx i (by omega)
        rw [cellsLawEv] at h1
        obtain ⟨_, hlen, hcell⟩ := World.cells?_some h1
        match cs', hlen with
        | [c0, c1, c2, c3], _ =>
          obtain ⟨y0, y1, y2, y3, k, _, _, t0, t1, t2, t3⟩ := trod_struct4 Tryd.underlying85 h2
          simp only [cellsInt, cellsStr] at t0 t1 t2 t3
          obtain ⟨id, e0, -, -⟩ := DataW.trod_int Tryd.underlying3 t0
          obtain ⟨ver, e1, -, -⟩ := DataW.trod_int Tryd.underlying3 t1
          obtain ⟨kind, e2, -, -⟩ := DataW.trod_int Tryd.underlying3 t2
          obtain ⟨name, e3, -, hn⟩ := DataW.trod_string Tryd.underlying9 t3
          simp at e0 e1 e2 e3
          have q0 := hcell 0 (by omega)
          have q1 := hcell 1 (by omega)
          have q2 := hcell 2 (by omega)
          have q3 := hcell 3 (by omega)
          simp only [List.getElem?_cons_zero, List.getElem?_cons_succ] at q0 q1 q2 q3
          rw [ha, ha2] at q0 q1 q2 q3
          subst e0 e1 e2 e3
          exact ⟨⟨id, ver, kind, name⟩, ⟨q0, q1, q2, q3⟩, hn⟩
      obtain ⟨es, hel, hrow, hp⟩ := rows_of len0 key
      subst hel
      have hlt : b < W.heap.size := by
        obtain ⟨e, he, _⟩ := key 0 (by omega)
        exact World.block_lt_of_cell? W _ he.1
      exact ⟨es, ⟨_, _, rfl, fun _ => ⟨b, off, rfl, hlt, hrow⟩⟩, by omega, hp⟩
end Go.Proofs.YtfkeokglifpkoaaDoor

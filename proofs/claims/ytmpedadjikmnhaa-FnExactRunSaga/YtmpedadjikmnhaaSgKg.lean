/-
  A run of the program's, to its end: the moves that are left, what undoes each of them deferred as soon as it is done.
-/
import Derived.Test.YtmpedadjikmnhaaSgK
import Derived.Test.YtmpedadjikmnhaaSgRp
namespace Go.Proofs.Ytmpedadjikmnhaa
open Go.RowKit M
open Clk (upd upd_same upd_other)
open Go.Sort (grow)
namespace M
/-- What is deferred when k moves are done: the last one first. -/
def dfs (g : Nat) (l : Nat → Mv) : Nat → List Deferred
  | 0 => []
  | k + 1 => { target := .fn (.func 71) #[], args := #[.pointer (some ⟨g, 0, none⟩), mvv (l k)] } :: dfs g l k
/-- A frame that returns, or that gives up. -/
def Md (u : FrameMode) : Prop := u = .returning ∨ ∃ v, u = .panicking [{ v := v, recovered := false }]
theorem Md.settle {u : FrameMode} (h : Md u) : Go.settle u = u := by
  rcases h with rfl | ⟨v, rfl⟩ <;> rfl
theorem Md.run {u : FrameMode} (h : Md u) : u ≠ .run := by
  rcases h with rfl | ⟨v, rfl⟩ <;> simp
/-- Nothing is undone where no move failed. -/
theorem leaves_idle {fn : Func} {tmps : Array Value} {R : Ending → World → Prop} (g : Nat) (gl c cp B hi : Nat) (v1 : Value) (s : Sg) (fail : Int) (n : Nat) (hun : s.un = false) (u : FrameMode) (hu : Md u) : ∀ (k : Nat) (w : World) (h : Nat → Value), RA w g h gl c cp B hi v1 s fail n →
    (∀ w' h', RA w' g h' gl c cp B hi v1 s fail n → Tw g gl w w' → Leaves Try.prog fn tmps R [] u w') → Leaves Try.prog fn tmps R (dfs g s.fm k) u w
  | 0, w, h, H, hend => hend w h H (Kept.refl _ _)
  | k + 1, w, h, H, hend => by
    refine leaves_cons (f := 71) (args := #[.pointer (some ⟨g, 0, none⟩), mvv (s.fm k)]) hu.run (by simp [go_sem]) ?_
    refine (run_idle g h gl c cp B hi v1 s fail n (s.fm k) u w H hun).mono ?_
    rintro e u' w' ⟨rfl, rfl, hb⟩
    show Leaves Try.prog fn tmps R (dfs g s.fm k) (Go.settle u') w'
    rw [hu.settle]
    exact leaves_idle g gl c cp B hi v1 s fail n hun u' hu k w' h (H.down hb) fun w'' h'' H'' hK => hend w'' h'' H'' ((Kept.of_down hb).trans hK)
/-- What is done is undone, the last one first. -/
theorem leaves_un {fn : Func} {tmps : Array Value} {R : Ending → World → Prop} (g : Nat) (gl c cp B hi : Nat) (v1 : Value) (fail : Int) (u : FrameMode) (hu : Md u) : ∀ (k : Nat) (s : Sg) (n : Nat) (w : World) (h : Nat → Value), s.un = true → GoodS s → s.dn = (k : Int) → n + k ≤ 200 → RA w g h gl c cp B hi v1 s fail n →
    (∀ w' h', RA w' g h' gl c cp B hi v1 (rol s s.fa k n).s fail (rol s s.fa k n).n → Tw g gl w w' → Leaves Try.prog fn tmps R [] u w') → Leaves Try.prog fn tmps R (dfs g s.fm k) u w
  | 0, s, n, w, h, hun, hg, hk, hn, H, hend => by
    refine hend w h ?_ (Kept.refl _ _)
    obtain ⟨na, fa, nm, fm, dn, un⟩ := s
    simp only at hun hk
    subst hun
    have : dn = 0 := hk
    subst this
    exact H
  | k + 1, s, n, w, h, hun, hg, hk, hn, H, hend => by
    refine leaves_cons (f := 71) (args := #[.pointer (some ⟨g, 0, none⟩), mvv (s.fm k)]) hu.run (by simp [go_sem]) ?_
    have hkn : k < s.nm := by have := hg.dn1; omega
    refine (run_undo g h gl c cp B hi v1 s fail n (s.fm k) u w H hun (hg.mv k hkn) hg.acc ⟨by omega, by have := hg.dn1; have := hg.nm; omega⟩ (by omega)).mono ?_
    rintro e u' w' ⟨rfl, rfl, ⟨h', H'⟩, hK'⟩
    show Leaves Try.prog fn tmps R (dfs g s.fm k) (Go.settle u') w'
    rw [hu.settle]
    have hu2 : undS s = { s with fa := shf s.fa (bk (s.fm k)), dn := s.dn - 1 } := by unfold undS; rw [show s.dn.toNat - 1 = k by omega]
    have hg' := hg.ofUnd (by omega)
    rw [hu2] at hg'
    refine leaves_un g gl c cp B hi v1 fail u' hu k { s with fa := shf s.fa (bk (s.fm k)), dn := s.dn - 1 } (n + 1) w' h' hun hg' (by show s.dn - 1 = (k : Int); omega) (by omega) H' fun w'' h'' H'' hK => hend w'' h'' ?_ (hK'.trans hK)
    have e1 : (rol s s.fa (k + 1) n).s = (rol { s with fa := shf s.fa (bk (s.fm k)), dn := s.dn - 1 } (shf s.fa (bk (s.fm k))) k (n + 1)).s := rfl
    have e2 : (rol s s.fa (k + 1) n).n = (rol { s with fa := shf s.fa (bk (s.fm k)), dn := s.dn - 1 } (shf s.fa (bk (s.fm k))) k (n + 1)).n := by show n + (k + 1) = n + 1 + k; omega
    rw [e1, e2]
    exact H''
/-- The end of a run, whatever it was left by. -/
theorem leaves_fin {fn : Func} {tmps : Array Value} {R : Ending → World → Prop} (g : Nat) (gl c cp B hi : Nat) (v1 : Value) (fail : Int) (u : FrameMode) (hu : Md u) (k : Nat) (s : Sg) (n : Nat) (w : World) (h : Nat → Value) (hg : GoodS s) (hc : ¬ canD s) (hk : s.dn = (k : Int)) (hn : n ≤ 100) (H : RA w g h gl c cp B hi v1 s fail n)
    (hend : ∀ w' h', RA w' g h' gl c cp B hi v1 (fin s n fail).s fail (fin s n fail).n → Tw g gl w w' → Leaves Try.prog fn tmps R [] u w') : Leaves Try.prog fn tmps R (dfs g s.fm k) u w := by
  have hk20 : k ≤ 20 := by have := hg.dn1; have := hg.nm; omega
  cases hun : s.un with
  | true =>
    refine leaves_un g gl c cp B hi v1 fail u hu k s n w h hun hg hk (by omega) H fun w' h' H' hK => hend w' h' ?_ hK
    have : fin s n fail = rol s s.fa k n := by unfold fin; rw [if_pos hun, show s.dn.toNat = k by omega]
    rw [this]; exact H'
  | false =>
    refine leaves_idle g gl c cp B hi v1 s fail n hun u hu k w h H fun w' h' H' hK => hend w' h' ?_ hK
    rw [fin_over hg (fun hcs => by
      rcases hcs with h1 | h1
      · exact hc h1
      · rw [hun] at h1; cases h1.1)]
    exact H'
end M
set_option maxRecDepth 20000 in
set_option maxHeartbeats 4000000 in
theorem go_on (g : Nat) (h : Nat → Value) (gl c cp B hi : Nat) (v1 : Value) (s : Sg) (fail : Int) (w : World) (H : RA w g h gl c cp B hi v1 s fail 0) (hg : GoodS s) :
    Calls Try.prog 61 #[.pointer (some ⟨g, 0, none⟩)] w fun e w' => (e = .returned (.tuple #[]) ∨ Gv e) ∧ (∃ h', RA w' g h' gl c cp B hi v1 (fin s 0 fail).s fail (fin s 0 fail).n) ∧ Tw g gl w w' := by
  obtain ⟨d, hd⟩ : ∃ d : Nat, s.dn = (d : Int) := ⟨s.dn.toNat, by have := hg.dn0; omega⟩
  have hdn : d ≤ s.nm := by have := hg.dn1; omega
  have hn20 := hg.nm
  obtain ⟨a1, c1, e1, hcap, hmv⟩ := H.sa.mov
  subst e1
  obtain ⟨⟨c0, c1', c2, c3⟩, -⟩ := H.sa.sb.cells
  rw [hd] at c2
  have hd0 : (0 : Int) ≤ (d : Int) := by omega
  have hd1 : (d : Int) ≤ (c1 : Int) := by omega
  have hd2 : d ≤ c1 := by omega
  have hd20 : d ≤ 20 := by omega
  have HR := hide H
  have HG := hide hg
  have HD := hide hd
  have HM := hide H.sa.mov.moves
  clear hmv H hg hd
  go_enter_defers Try.func61, Try.ntmps61
  go_wp2_with fail
  go_big_quiet (fail)
  go_wp2_with fail
  have HRq := hide (HR.out.down (below_drewN (Below.refl w.heap.size w) nq))
  have HMq := hide (HM.out.below (below_drewN (Below.refl w.heap.size w) nq))
  have HKq := hide (show Tw g gl w (w.drewN nq) from Kept.of_down (below_drewN (Below.refl w.heap.size w) nq))
  clear HR HM c0 c1' c2 c3
  generalize w.drewN nq = wq at *
  refine wp_loop (fun a W => ∃ (k : Nat) (u3 u16 u17 u18 u19 u20 u21 u22 : Value), k ≤ d ∧ u16 = .int .i64 (k : Int) ∧ a = { tmps := #[.pointer (some ⟨g, 0, none⟩), undef, undef, u3, .pointer (some ⟨g, 0, none⟩), .pointer (some ⟨g, 0, none⟩), .pointer (some ⟨g, 0, none⟩), .pointer (some ⟨g, 1, none⟩), .slice a1 s.nm c1, .pointer (some ⟨g, 0, none⟩), .pointer (some ⟨g, 0, none⟩), .pointer (some ⟨g, 0, none⟩), .pointer (some ⟨g, 2, none⟩), .int .i64 (d : Int), .slice a1 d c1, .int .i64 (d : Int), u16, u17, u18, u19, u20, u21, u22, undef, undef, undef, undef, undef, undef, undef, undef, undef, undef, undef, undef, undef, undef, undef, undef, undef, undef, undef, undef], defers := dfs g s.fm k } ∧ Hid (Below wq.heap.size wq W)) (fun a _ => d - (intOf (a.tmps.getD 16 undef)).toNat) ?start ?round
  case start => exact ⟨0, _, _, _, _, _, _, _, _, Nat.zero_le _, rfl, rfl, hide (Below.refl _ _)⟩
  case round =>
    rintro a W ⟨k, u3, u16, u17, u18, u19, u20, u21, u22, hk, rfl, rfl, HBw⟩
    by_cases hkd : k < d
    · obtain ⟨_, _, ee, hr⟩ := (HMq.out.below HBw.out).row
      cases ee
      obtain ⟨bb, off, rfl, hbb, hrow⟩ := hr (by omega)
      obtain ⟨r0, r1, r2⟩ := hrow k (by omega)
      have hbx := HBw.out.alloc HBw.out.size (.cells #[.int .i64 (s.fm k).f, .int .i64 (s.fm k).t, .int .i64 (s.fm k).m] 55)
      have HBx := hide hbx
      clear hr hrow HMq HRq hbx HBw HKq
      go_wp2
      exact ⟨⟨k + 1, _, _, _, _, _, _, _, _, by omega, by go_num, rfl, HBx⟩, by simp [intOf]; omega⟩
    · obtain rfl : k = d := by omega
      have HRw := hide (HRq.out.down HBw.out)
      have HKw := hide (HKq.out.trans (Kept.of_down HBw.out))
      clear HBw HRq HKq
      have HFm := hide (show ∀ j, j ≤ s.nm → (dfs g s.fm j).length = j from fun j _ => by
        induction j with
        | zero => rfl
        | succ j ih => simp only [dfs, List.length_cons]; rw [ih (by omega)])
      go_wp2_with fail
      refine wp_loop (fun a X => ∃ (j n : Nat) (s' : Sg) (h' : Nat → Value) (u23 u24 u25 u26 u27 u28 u29 u30 u31 u32 u33 u34 u35 u36 u37 u38 u39 u40 u41 u42 : Value), j ≤ s.nm ∧ a = { tmps := #[.pointer (some ⟨g, 0, none⟩), undef, undef, u3, .pointer (some ⟨g, 0, none⟩), .pointer (some ⟨g, 0, none⟩), .pointer (some ⟨g, 0, none⟩), .pointer (some ⟨g, 1, none⟩), .slice a1 s.nm c1, .pointer (some ⟨g, 0, none⟩), .pointer (some ⟨g, 0, none⟩), .pointer (some ⟨g, 0, none⟩), .pointer (some ⟨g, 2, none⟩), .int .i64 (k : Int), .slice a1 k c1, .int .i64 (k : Int), .int .i64 (k : Int), .bool false, u18, u19, u20, u21, u22, u23, u24, u25, u26, u27, u28, u29, u30, u31, u32, u33, u34, u35, u36, u37, u38, u39, u40, u41, u42], defers := dfs g s.fm j } ∧ Hid (s'.dn = (j : Int) ∧ GoodS s' ∧ RA X g h' gl c cp B hi (.slice a1 s.nm c1) s' fail n ∧ fin s' n fail = fin s 0 fail ∧ n + mea s' ≤ 41 ∧ (s'.fm = s.fm ∧ s'.nm = s.nm) ∧ Tw g gl w X)) (fun a _ => 100 - a.defers.length) ?start2 ?round2
      case start2 => exact ⟨k, 0, s, h, _, _, _, _, _, _, _, _, _, _, _, _, _, _, _, _, _, _, _, _, hdn, rfl, hide ⟨HD.out, HG.out, HRw.out, rfl, by have := mea_le HG.out; omega, ⟨rfl, rfl⟩, HKw.out⟩⟩
      case round2 =>
        clear HRw HKw HMq
        rintro a X ⟨j, n, s', h', u23, u24, u25, u26, u27, u28, u29, u30, u31, u32, u33, u34, u35, u36, u37, u38, u39, u40, u41, u42, hj, rfl, HI⟩
        obtain ⟨i1, i2, i3, i4, i5, ⟨i6, i7⟩, i8⟩ := HI.out
        obtain ⟨bd, hbd⟩ : ∃ x, decide (canD s') = x := ⟨_, rfl⟩
        have hsb := i3.sa.sb
        rw [← i7] at hsb
        have HC := hide (can_do g 6 h' 74 _ a1 c1 s' bd X hsb hbd)
        have HBD := hide hbd
        clear i1 i2 i3 i4 i5 i6 i7 i8 hsb hbd
        go_wp2_with fail
        refine HC.out.mono ?_
        rintro e X1 ⟨rfl, hb1⟩
        obtain ⟨i1, i2, i3, i4, i5, ⟨i6, i7⟩, i8⟩ := HI.out
        have i3' := i3.down hb1
        have i8' : Tw g gl w X1 := i8.trans (Kept.of_down hb1)
        clear HC
        cases bd with
        | false =>
          have hnc := of_decide_eq_false HBD.out
          have HL := hide (show ∀ tmps, Leaves Try.prog Try.f61 tmps (fun e w' => (e = .returned (.tuple #[]) ∨ Gv e) ∧ (∃ h', RA w' g h' gl c cp B hi (.slice a1 s.nm c1) (fin s 0 fail).s fail (fin s 0 fail).n) ∧ Tw g gl w w') (dfs g s.fm j) .returning X1 from fun tmps => by
            rw [← i6]
            refine leaves_fin g gl c cp B hi _ fail .returning (.inl rfl) j s' n X1 h' i2 hnc i1 (by omega) i3' fun w' h'' H'' hK => ?_
            rw [i4] at H''
            exact ⟨_, results_none rfl _ _ _, .inl rfl, ⟨h'', H''⟩, i8'.trans hK⟩)
          clear i1 i2 i3 i4 i5 i6 i7 i8 i3' i8' HI hnc HBD hb1 HFm
          go_wp2
          exact HL.out _
        | true =>
          have hcd := of_decide_eq_true HBD.out
          have HK1 := hide (show Tw g gl X X1 from Kept.of_down hb1)
          have HRu := hide (run_do g h' gl c cp B hi _ s' fail n X1 i3' i2 hcd (by omega))
          clear i1 i2 i3 i4 i5 i6 i7 i8 i3' i8' hb1
          go_wp2_with fail
          refine HRu.out.mono ?_
          rintro e X2 ⟨hD, hK2⟩
          obtain ⟨i1, i2, i3, i4, i5, ⟨i6, i7⟩, i8⟩ := HI.out
          have i8' : Tw g gl w X2 := (i8.trans HK1.out).trans hK2
          clear HRu
          rcases hD with ⟨hnf, hft, rfl, h2, H2⟩ | ⟨hor, ⟨v, rfl⟩, h2, H2⟩
          · have hst : stepS s' = doS s' := by unfold stepS; rw [if_neg (by rw [hcd.1]; decide), if_pos hft]
            have hfi : fin (doS s') (n + 1) fail = fin s 0 fail := by rw [← i4, ← fin_step i2 (.inl hcd) (fun _ => hnf), hst]
            have hme : n + 1 + mea (doS s') ≤ 41 := by have := mea_step i2 (.inl hcd); rw [hst] at this; omega
            have hgd := i2.ofDo hcd.2 hft
            have hjn : j < s.nm := by have := hcd.2; rw [i7, i1] at this; omega
            have HI2 := hide (show (doS s').dn = ((j + 1 : Nat) : Int) ∧ GoodS (doS s') ∧ RA X2 g h2 gl c cp B hi (.slice a1 s.nm c1) (doS s') fail (n + 1) ∧ fin (doS s') (n + 1) fail = fin s 0 fail ∧ n + 1 + mea (doS s') ≤ 41 ∧ ((doS s').fm = s.fm ∧ (doS s').nm = s.nm) ∧ Tw g gl w X2 from ⟨by show s'.dn + 1 = _; rw [i1]; rfl, hgd, H2, hfi, hme, ⟨i6, i7⟩, i8'⟩)
            obtain ⟨⟨c0, c1', c2, c3⟩, -⟩ := H2.sa.sb.cells
            rw [show (doS s').dn = ((j : Int) + 1) by show s'.dn + 1 = _; rw [i1]] at c2
            have hmo := H2.sa.mov.moves
            rw [show (doS s').fm = s.fm from i6, show (doS s').nm = s.nm from i7] at hmo
            obtain ⟨_, _, ee, hr⟩ := hmo.row
            cases ee
            obtain ⟨bb, off, rfl, hbb, hrow⟩ := hr (by omega)
            obtain ⟨r0, r1, r2⟩ := hrow j hjn
            have hi0 : (0 : Int) ≤ (j : Int) := by omega
            have hi1 : (j : Int) < (s.nm : Int) := by omega
            have hlj := HFm.out j hj
            clear i1 i2 i3 i4 i5 i6 i7 i8 i8' hst hfi hme hgd hft hnf hcd H2 HI HBD hrow hr hmo hK2 HK1
            have k1 := cell_regrown c1'
            have k2 := cell_regrown c2
            have q0 := cell_regrown r0
            have q1 := cell_regrown r1
            have q2 := cell_regrown r2
            have HI3 := hide (show ∀ dd os, (doS s').dn = ((j + 1 : Nat) : Int) ∧ GoodS (doS s') ∧ RA (grow (redrawn X2 dd) os) g h2 gl c cp B hi (.slice (some ⟨bb, off, none⟩) s.nm c1) (doS s') fail (n + 1) ∧ fin (doS s') (n + 1) fail = fin s 0 fail ∧ n + 1 + mea (doS s') ≤ 41 ∧ ((doS s').fm = s.fm ∧ (doS s').nm = s.nm) ∧ Tw g gl w (grow (redrawn X2 dd) os) from fun dd os => by
              obtain ⟨o1, o2, o3, o4, o5, o6, o7⟩ := HI2.out
              exact ⟨o1, o2, o3.down (below_regrown X2 dd os), o4, o5, o6, o7.trans (Kept.of_down (below_regrown X2 dd os))⟩)
            clear HI2 c0 c1' c2 c3 r0 r1 r2
            go_upto_region 7 with fail
            refine region_lastP rfl (by kernel_rfl) (by kernel_rfl) rfl (by kernel_rfl) ?_
            simp only [still, noop, List.dropLast, List.getLast?_cons_cons, List.getLast?_singleton, Option.map_some, Option.toList_some, List.cons_append, List.nil_append, List.getLast_cons_cons, List.getLast_singleton]
            repeat (go_big_quiet_step (fail))
            refine wpQuiet_nil ?_
            rintro _ ⟨⟨dq, osq⟩, rfl⟩
            go_wp2
            exact ⟨⟨j + 1, n + 1, doS s', h2, _, _, _, _, _, _, _, _, _, _, _, _, _, _, _, _, _, _, _, _, hjn, rfl, hide (HI3.out dq osq)⟩, by rw [List.length_cons, hlj]; omega⟩
          · have hfi : fin (failS s') (n + 1) fail = fin s 0 fail := by
              rw [← i4]
              by_cases hnf : (n : Int) = fail
              · exact fin_fail i2 hcd hnf
              · have hft : ¬ fit s'.fa (s'.fm s'.dn.toNat) := by
                  rcases hor with h1 | h1
                  · exact absurd h1 hnf
                  · exact h1
                have hst : stepS s' = failS s' := by unfold stepS; rw [if_neg (by rw [hcd.1]; decide), if_neg hft]
                rw [← hst]; exact fin_step i2 (.inl hcd) (fun _ => hnf)
            have HL := hide (show ∀ tmps, Leaves Try.prog Try.f61 tmps (fun e w' => (e = .returned (.tuple #[]) ∨ Gv e) ∧ (∃ h', RA w' g h' gl c cp B hi (.slice a1 s.nm c1) (fin s 0 fail).s fail (fin s 0 fail).n) ∧ Tw g gl w w') (dfs g s.fm j) (.panicking [{ v := v, recovered := false }]) X2 from fun tmps => by
              rw [← i6]
              refine leaves_fin g gl c cp B hi _ fail _ (.inr ⟨v, rfl⟩) j (failS s') (n + 1) X2 h2 i2.fail (fun hx => by cases hx.1) i1 (by omega) H2 fun w' h'' H'' hK => ?_
              rw [hfi] at H''
              exact ⟨.inr ⟨v, rfl⟩, ⟨h'', H''⟩, i8'.trans hK⟩)
            clear i1 i2 i3 i4 i5 i6 i7 i8 i8' hor hcd H2 HI HBD hK2 HK1 hfi HFm
            go_wp2
            exact HL.out _
end Go.Proofs.Ytmpedadjikmnhaa

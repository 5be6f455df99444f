/-
  The law of ApplyEvent, walked: it returns true and turns nothing that was there.
-/
import Derived.Test.YtglpkikncgdghaaDoorStLB
namespace Go.Proofs.YtglpkikncgdghaaDoor
open Go.RowKit M
open Clk (upd upd_same upd_other)
open Go.Sort (grow)
namespace M
/-- Behind the program's answer: the copy that it was given, and the answer, each with its box. -/
structure LQ (C W : World) (gx : Nat) (z0 z1 : Value) (s : St) (H g hi : Nat) (q0 q1 : Value) (r : St) : Prop where
  low : Below C.heap.size C W
  xb : Blk W gx 6 (sq z0 z1 s) 29
  xa : AnsL W C.heap.size H z0 z1 s.sg s.tm
  gb : Blk W g 6 (sq q0 q1 r) 29
  ga : AnsL W H hi q0 q1 r.sg r.tm
theorem LQ.down {C W W' : World} {gx : Nat} {z0 z1 : Value} {s : St} {H g hi : Nat} {q0 q1 : Value} {r : St} (h : LQ C W gx z0 z1 s H g hi q0 q1 r) (hb : Below W.heap.size W W') : LQ C W' gx z0 z1 s H g hi q0 q1 r :=
  ⟨h.low.trans (hb.mono h.low.size), h.xb.down hb, h.xa.down hb, h.gb.down hb, h.ga.down hb⟩
/-- The answer alone, with lists l0 and l1 in it. -/
structure LU (C W : World) (H g hi : Nat) (q0 q1 : Value) (r : St) (l0 l1 : Txs) : Prop where
  low : Below C.heap.size C W
  gb : Blk W g 6 (sq q0 q1 r) 29
  ga : AnsL W H hi q0 q1 l0 l1
theorem LU.down {C W W' : World} {H g hi : Nat} {q0 q1 : Value} {r : St} {l0 l1 : Txs} (h : LU C W H g hi q0 q1 r l0 l1) (hb : Below W.heap.size W W') : LU C W' H g hi q0 q1 r l0 l1 :=
  ⟨h.low.trans (hb.mono h.low.size), h.gb.down hb, h.ga.down hb⟩
theorem LQ.mark {C W W' : World} {gx : Nat} {z0 z1 : Value} {s : St} {H g hi : Nat} {q0 q1 : Value} {r : St} (h : LQ C W gx z0 z1 s H g hi q0 q1 r) (hm : Mk2 z0 z1 W W') : LU C W' H g hi q0 q1 r r.sg r.tm := by
  refine ⟨h.low.trans (hm.low (fun k hk => (h.xa.o0.lt hk).1) (fun k hk => (h.xa.o1.lt hk).1) h.low.size), hm.blk h.gb (h.xa.o0.ne_blk h.gb (by decide)) (h.xa.o1.ne_blk h.gb (by decide)), ?_⟩
  have hx : ∀ (v : Value) (l : Txs), OwnT W H v l → ∀ k, v.ownBlock = some k → z0.ownBlock ≠ some k ∧ z1.ownBlock ≠ some k := fun v l ho k hk => ⟨fun e => by
    have h1 := (ho.lt hk).1
    have h2 := h.xa.h0 k e
    omega, fun e => by
    have h1 := (ho.lt hk).1
    have h2 := h.xa.h1 k e
    omega⟩
  exact ⟨hm.own h.ga.o0 (hx _ _ h.ga.o0), hm.own h.ga.o1 (hx _ _ h.ga.o1), h.ga.ap, h.ga.h0, h.ga.h1⟩
theorem LU.mark {C W W' : World} {H g hi : Nat} {q0 q1 : Value} {r : St} {l0 l1 m0 m1 : Txs} (h : LU C W H g hi q0 q1 r l0 l1) (hH : C.heap.size ≤ H) (hm : Mk2 q0 q1 W W') (ha : AnsL W' H hi q0 q1 m0 m1) : LU C W' H g hi q0 q1 r m0 m1 :=
  ⟨h.low.trans (hm.low (fun k hk => Nat.le_trans hH (h.ga.o0.lt hk).1) (fun k hk => Nat.le_trans hH (h.ga.o1.lt hk).1) h.low.size), hm.blk h.gb (h.ga.o0.ne_blk h.gb (by decide)) (h.ga.o1.ne_blk h.gb (by decide)), ha⟩
theorem LX.lq {C A W : World} {gx g : Nat} {z0 z1 y0 y1 : Value} {s r : St} (h : LX A W g y0 y1 r) (hC : Below C.heap.size C A) (hx : Blk A gx 6 (sq z0 z1 s) 29) (ha : AnsL A C.heap.size A.heap.size z0 z1 s.sg s.tm) : LQ C W gx z0 z1 s A.heap.size g W.heap.size y0 y1 r :=
  ⟨hC.trans (h.low.mono hC.size), hx.down h.low, ha.down h.low, h.box, h.ans⟩
end M
set_option maxRecDepth 20000 in
set_option maxHeartbeats 16000000 in
theorem law_applyEvent (v0 v1 : Value) (s : St) (x : Ev) (w : World) (hv : StQ w v0 v1 s) (hl : LensT s) (hen : x.name.size ≤ maxLen) (hkk : KK w) :
    Calls Tryd.prog 3 #[stv v0 v1 s, ev x.id x.ver x.kind x.name] w fun e w' => e = .returned (.bool true) ∧ Below w.heap.size w w' := by
  obtain ⟨a0, p0, rfl⟩ := hv.1.form
  obtain ⟨a1, p1, rfl⟩ := hv.2.form
  have HLB0 := hide (LB.new w s x (.slice a0 s.sg.length p0) (.slice a1 s.tm.length p1))
  have HV := hide hv
  have HL := hide hl
  have HE := hide hen
  have HK := hide hkk
  clear hv hl hen hkk
  go_enter Tryd.func3, Tryd.ntmps3
  go_wp2_with fail
  refine (sz_state _ _ s _ (HV.out.below HLB0.out.low) HL.out).mono ?_
  rintro e w1 ⟨⟨ri, rfl, hr⟩, hb⟩
  have HLB1 := hide (HLB0.out.down hb)
  clear hb HLB0
  by_cases hrn : ri < 0
  · clear hr HV HL HE HK
    go_wp2
    go_ret
    exact ⟨rfl, HLB1.out.low⟩
  obtain ⟨hr0, hr1, hsh⟩ : 0 ≤ ri ∧ ri ≤ 1048576 ∧ ShortT s := by
    rcases hr with h | h
    · exact absurd h hrn
    · exact h
  have HS := hide hsh
  have HR := hide (And.intro hr0 hr1)
  obtain ⟨d0, d1, d2, d3⟩ := HLB1.out.eb.ev
  clear hr hsh hr0 hr1
  go_wp2_with fail
  by_cases hnm : (x.name.size : Int) ≤ ri
  case neg =>
    refine (sz_no x.id x.ver x.kind x.name ri _ HE.out HR.out.1 HR.out.2 (by omega)).mono ?_
    rintro e w2 ⟨rfl, hb⟩
    have HLB2 := hide (HLB1.out.down hb)
    clear d0 d1 d2 d3 hb HLB1 HV HL HE HK hnm hrn HR HS
    go_wp2
    go_ret
    exact ⟨rfl, HLB2.out.low⟩
  refine (sz_yes x.id x.ver x.kind x.name ri _ HR.out.1 HR.out.2 hnm).mono ?_
  rintro e w2 ⟨rfl, hb⟩
  have HLB := hide (HLB1.out.down hb)
  obtain ⟨b, hbp⟩ := bp_ex (GoodSt s ∧ May s x)
  obtain ⟨r, hrr, hrs⟩ : ∃ r : St, ((b = true → r = raw s x) ∧ (b = false → r = zst)) ∧ ShortT r := by
    rcases b with _ | _
    · exact ⟨zst, ⟨(fun h => by cases h), fun _ => rfl⟩, ⟨by decide, by decide⟩⟩
    · have hg := (hbp.1 rfl).2.2.2.2.2
      exact ⟨raw s x, ⟨fun _ => rfl, (fun h => by cases h)⟩, ⟨by have := hg.2.2.1.1; omega, by have := hg.2.2.2.1.1; omega⟩⟩
  have HRS := hide hrs
  have hnt : NmT s := ⟨HL.out.1.2, HL.out.2.2⟩
  have HSp := hide (show ∀ u0 u1 W, StC W u0 u1 s → Calls Tryd.prog 11 #[stv u0 u1 s, ev x.id x.ver x.kind x.name] W fun e' w' => ApA W w' e' r b ∧ Below W.heap.size W w' from fun u0 u1 W h => spec_apply u0 u1 s x b r W h HS.out hnt HE.out hbp hrr)
  have HIm := hide (show ∀ u0 u1 W, StC W u0 u1 s → KK W → Calls Tryd.prog 14 #[stv u0 u1 s, ev x.id x.ver x.kind x.name] W fun e' w' => ApA W w' e' r b ∧ Below W.heap.size W w' from fun u0 u1 W h hk => impl_apply u0 u1 s x b r W h HS.out hnt HE.out hk hbp hrr)
  have hbb : (b != b) = false := by simp
  obtain ⟨ri2, hri2⟩ : ∃ i : Int, ri - (x.name.size : Int) = i := ⟨_, rfl⟩
  have hrn2 : ¬ ri2 < 0 := by omega
  rw [hri2]
  clear d0 d1 d2 d3 hb HLB1 hnm hrn HR HE HL hbp hrr hrs hnt hri2
  obtain ⟨m1, hm1⟩ : ∃ m, 1 + s.sg.length + s.tm.length = m := ⟨_, rfl⟩
  obtain ⟨m2, hm2⟩ : ∃ m, 1 + r.sg.length + r.tm.length = m := ⟨_, rfl⟩
  have hmn1 : ¬ ((m1 : Int) < 0) := by omega
  have hmn2 : ¬ ((m2 : Int) < 0) := by omega
  have hmm : ((m2 : Int) != (m2 : Int)) = false := by simp
  have HM1 := hide hm1
  have HM2 := hide hm2
  clear hm1 hm2
  go_upto_region 8 with fail
  have hF1 : ST w2 w2 s none none := ⟨Below.refl w2.heap.size w2, fun g e => (by cases e), fun _ e => (by cases e)⟩
  have hF0 : ST w2 w2.drew s none none := ⟨(Below.refl w2.heap.size w2).drew, fun g e => (by cases e), fun _ e => (by cases e)⟩
  have HS0 := hide (show ∀ W, Below w2.heap.size w2 W → W.cell? ⟨w.heap.size, 0, none⟩ = some (.int .i64 s.st) ∧ W.cell? ⟨w.heap.size, 1, none⟩ = some (.int .i64 s.nx) ∧ W.cell? ⟨w.heap.size, 2, none⟩ = some (.bool s.ca) ∧ W.cell? ⟨w.heap.size, 3, none⟩ = some (.int .i64 s.dn) ∧ W.cell? ⟨w.heap.size, 4, none⟩ = some (.slice a0 s.sg.length p0) ∧ W.cell? ⟨w.heap.size, 5, none⟩ = some (.slice a1 s.tm.length p1) ∧ W.cell? ⟨w.heap.size + 1, 0, none⟩ = some (.int .i64 x.id) ∧ W.cell? ⟨w.heap.size + 1, 1, none⟩ = some (.int .i64 x.ver) ∧ W.cell? ⟨w.heap.size + 1, 2, none⟩ = some (.int .i64 x.kind) ∧ W.cell? ⟨w.heap.size + 1, 3, none⟩ = some (.string x.name) from fun W hW => ⟨(HLB.out.down hW).sb.hex.1.1, (HLB.out.down hW).sb.hex.1.2.1, (HLB.out.down hW).sb.hex.1.2.2.1, (HLB.out.down hW).sb.hex.1.2.2.2.1, (HLB.out.down hW).sb.hex.1.2.2.2.2.1, (HLB.out.down hW).sb.hex.1.2.2.2.2.2, (HLB.out.down hW).eb.ev⟩)
  have HT1 := hide (show ∀ W o c, ST w2 W s o c → Calls Tryd.prog 12 #[.agg #[.int .i64 s.st, .int .i64 s.nx, .bool s.ca, .int .i64 s.dn, .slice a0 s.sg.length p0, .slice a1 s.tm.length p1]] W fun e W' => ∃ a c a' c', e = .returned (.agg #[.int .i64 s.st, .int .i64 s.nx, .bool s.ca, .int .i64 s.dn, .slice a s.sg.length c, .slice a' s.tm.length c']) ∧ ST w2 W' s o (some (.slice a s.sg.length c, .slice a' s.tm.length c')) from fun W o c hW => (to_state _ _ s W ((HV.out.below HLB.out.low).below hW.low) HS.out).mono (by
    rintro e W' ⟨⟨u0, u1, rfl, hA⟩, hb⟩
    obtain ⟨a, c, rfl⟩ := hA.o0.form
    obtain ⟨a', c', rfl⟩ := hA.o1.form
    have h := hW.down hb
    exact ⟨a, c, a', c', rfl, h.low, h.box, fun u e => by cases e; exact hA.c⟩))
  have HT2 := hide (show ∀ W o c, ST w2 W s o c → Calls Tryd.prog 13 #[.agg #[.int .i64 x.id, .int .i64 x.ver, .int .i64 x.kind, .string x.name]] W fun e W' => e = .returned (.agg #[.int .i64 x.id, .int .i64 x.ver, .int .i64 x.kind, .string x.name]) ∧ ST w2 W' s o c from fun W o c hW => (to_event x.id x.ver x.kind x.name W).mono (by
    rintro e W' ⟨rfl, hb⟩
    exact ⟨rfl, hW.down hb⟩))
  have HF := hide (show ∀ W o u0 u1, ST w2 W s o (some (u0, u1)) → Calls Tryd.prog 11 #[.agg #[.int .i64 s.st, .int .i64 s.nx, .bool s.ca, .int .i64 s.dn, u0, u1], .agg #[.int .i64 x.id, .int .i64 x.ver, .int .i64 x.kind, .string x.name]] W fun e W' => ∃ a c a' c', e = .returned (.tuple #[.agg #[.int .i64 r.st, .int .i64 r.nx, .bool r.ca, .int .i64 r.dn, .slice a r.sg.length c, .slice a' r.tm.length c'], .bool b]) ∧ SV w2 W' o (.slice a r.sg.length c) (.slice a' r.tm.length c') r from fun W o u0 u1 hW => (HSp.out u0 u1 W (hW.cp (u0, u1) rfl)).mono (by
    rintro e W' ⟨⟨y0, y1, rfl, hA⟩, hb⟩
    obtain ⟨a, c, rfl⟩ := hA.o0.form
    obtain ⟨a', c', rfl⟩ := hA.o1.form
    have h := hW.down hb
    exact ⟨a, c, a', c', rfl, h.low, h.box, hA.mono hW.low.size (Nat.le_refl _)⟩))
  go_cut [6, 7] from 26 (fun p bb wx => ∃ (g : Nat) (a3 : Option Addr) (c3 : Nat) (a4 : Option Addr) (c4 : Nat), p = .pointer (some ⟨g, 0, none⟩) ∧ bb = .bool b ∧ Hid (LX w2 wx g (.slice a3 r.sg.length c3) (.slice a4 r.tm.length c4) r))
  case first =>
    go_region_held3 (fun W => W.cell? ⟨w.heap.size, 0, none⟩ = some (.int .i64 s.st) ∧ W.cell? ⟨w.heap.size, 1, none⟩ = some (.int .i64 s.nx) ∧ W.cell? ⟨w.heap.size, 2, none⟩ = some (.bool s.ca) ∧ W.cell? ⟨w.heap.size, 3, none⟩ = some (.int .i64 s.dn) ∧ W.cell? ⟨w.heap.size, 4, none⟩ = some (.slice a0 s.sg.length p0) ∧ W.cell? ⟨w.heap.size, 5, none⟩ = some (.slice a1 s.tm.length p1) ∧ W.cell? ⟨w.heap.size + 1, 0, none⟩ = some (.int .i64 x.id) ∧ W.cell? ⟨w.heap.size + 1, 1, none⟩ = some (.int .i64 x.ver) ∧ W.cell? ⟨w.heap.size + 1, 2, none⟩ = some (.int .i64 x.kind) ∧ W.cell? ⟨w.heap.size + 1, 3, none⟩ = some (.string x.name)) (first
      | (with_reducible exact HS0.out _ (by with_reducible assumption))
      | (with_reducible exact HS0.out _ (ST.down (by with_reducible assumption) (Below.refl _ _)).low)
      | (with_reducible exact HS0.out _ (ST.alloc (by with_reducible assumption)).low)
      | (with_reducible exact HS0.out _ (ST.alloc1 (by with_reducible assumption)).low)
      | (with_reducible exact HS0.out _ (show SV _ _ _ _ _ _ from (by with_reducible assumption)).low)
      | (with_reducible exact HS0.out _ ((show SV _ _ _ _ _ _ from (by with_reducible assumption)).low.alloc (show SV _ _ _ _ _ _ from (by with_reducible assumption)).low.size _))
      | (with_reducible exact HS0.out _ (SV.fresh (by with_reducible assumption)).low)
      | (with_reducible exact HS0.out _ (SV.set (by with_reducible assumption)).low)) (first
      | (go_at_call 12; with_reducible refine Calls.mono (HT1.out _ _ _ (by first | assumption | exact ST.alloc1 (by assumption) | exact ST.alloc (by assumption))) ?_; rintro e wo ⟨ao, co, ao', co', rfl, hSo⟩)
      | (go_at_call 13; with_reducible refine Calls.mono (HT2.out _ _ _ (by first | assumption | exact ST.alloc1 (by assumption) | exact ST.alloc (by assumption))) ?_; rintro e wt ⟨rfl, hSt⟩)
      | (go_at_call 11; with_reducible refine Calls.mono (HF.out _ _ _ _ (by first | assumption | exact ST.alloc1 (by assumption) | exact ST.alloc (by assumption))) ?_; rintro e wf ⟨af, cf, af', cf', rfl, hSf⟩; first | (obtain ⟨⟨k0, k1, k2, k3, k4, k5⟩, f0, f1, f2, f3, f4, f5⟩ := (hSf.box _ rfl).1.hex; have hBs := (SV.set hSf).low) | skip))
    all_goals
      go_wp2_with fail
      go_meet
      first
        | (have hz := hSf.set; exact ⟨_, af, cf, af', cf', rfl, rfl, hide hz⟩)
        | (have hz := hSf.fresh; exact ⟨_, af, cf, af', cf', rfl, rfl, hide hz⟩)
  case rest =>
    rename World => wC
    obtain ⟨g, a3, c3, a4, c4, rfl, rfl, HLX⟩ := hcut
    have HLC := hide (HLB.out.down HLX.out.low)
    have HX4 := hide HLX.out.box
    have HC4 := hide HLX.out.ans.q
    clear hF0 hF1 HS0 HT1 HT2 HF HLX HLB HSp
    obtain ⟨⟨d0, d1, d2, d3, d4, d5⟩, -⟩ := HLC.out.sb.hex
    go_wp2_with fail
    refine (to_state _ _ s _ (HV.out.below HLC.out.low) HS.out).mono ?_
    rintro e w5 ⟨⟨u0, u1, rfl, hA5⟩, hb5⟩
    obtain ⟨a5, c5, rfl⟩ := hA5.o0.form
    obtain ⟨a6, c6, rfl⟩ := hA5.o1.form
    have hd6 := (Below.refl w5.heap.size w5).alloc (Nat.le_refl _) (.cells (sarr (.slice a5 s.sg.length c5) (.slice a6 s.tm.length c6) s) 29)
    have hx6 : Blk (w5.alloc (.cells (sarr (.slice a5 s.sg.length c5) (.slice a6 s.tm.length c6) s) 29)) w5.heap.size 6 (sq (.slice a5 s.sg.length c5) (.slice a6 s.tm.length c6) s) 29 := new6 w5 _ _ _ _ _ _ 29
    clear d0 d1 d2 d3 d4 d5
    go_upto_region 10 with fail
    obtain ⟨w6, hw6⟩ : ∃ w6, w5.alloc (.cells (sarr (.slice a5 s.sg.length c5) (.slice a6 s.tm.length c6) s) 29) = w6 := ⟨_, rfl⟩
    rw [hw6]
    rw [hw6] at hd6 hx6
    have HB6 := hide (hb5.trans (hd6.mono hb5.size))
    have HA6 := hide ((hA5.down hd6).mono (Nat.le_refl _) hd6.size)
    have HX6 := hide hx6
    have HCP := hide (hA5.down hd6).c
    clear hb5 hd6 hx6 hA5 hw6
    have hF1 : ST w6 w6 s none (some (.slice a5 s.sg.length c5, .slice a6 s.tm.length c6)) := ⟨Below.refl w6.heap.size w6, fun g e => (by cases e), fun _ e => (by cases e; exact HCP.out)⟩
    have hF0 : ST w6 w6.drew s none (some (.slice a5 s.sg.length c5, .slice a6 s.tm.length c6)) := ⟨(Below.refl w6.heap.size w6).drew, fun g e => (by cases e), fun _ e => (by cases e; exact StC.below HCP.out (Below.refl _ _).drew)⟩
    have HS0 := hide (show ∀ W, Below w6.heap.size w6 W → W.cell? ⟨w5.heap.size, 0, none⟩ = some (.int .i64 s.st) ∧ W.cell? ⟨w5.heap.size, 1, none⟩ = some (.int .i64 s.nx) ∧ W.cell? ⟨w5.heap.size, 2, none⟩ = some (.bool s.ca) ∧ W.cell? ⟨w5.heap.size, 3, none⟩ = some (.int .i64 s.dn) ∧ W.cell? ⟨w5.heap.size, 4, none⟩ = some (.slice a5 s.sg.length c5) ∧ W.cell? ⟨w5.heap.size, 5, none⟩ = some (.slice a6 s.tm.length c6) ∧ W.cell? ⟨w.heap.size + 1, 0, none⟩ = some (.int .i64 x.id) ∧ W.cell? ⟨w.heap.size + 1, 1, none⟩ = some (.int .i64 x.ver) ∧ W.cell? ⟨w.heap.size + 1, 2, none⟩ = some (.int .i64 x.kind) ∧ W.cell? ⟨w.heap.size + 1, 3, none⟩ = some (.string x.name) from fun W hW => ⟨(HX6.out.down hW).hex.1.1, (HX6.out.down hW).hex.1.2.1, (HX6.out.down hW).hex.1.2.2.1, (HX6.out.down hW).hex.1.2.2.2.1, (HX6.out.down hW).hex.1.2.2.2.2.1, (HX6.out.down hW).hex.1.2.2.2.2.2, ((HLC.out.down HB6.out).down hW).eb.ev⟩)
    have HT2 := hide (show ∀ W o c, ST w6 W s o c → Calls Tryd.prog 13 #[.agg #[.int .i64 x.id, .int .i64 x.ver, .int .i64 x.kind, .string x.name]] W fun e W' => e = .returned (.agg #[.int .i64 x.id, .int .i64 x.ver, .int .i64 x.kind, .string x.name]) ∧ ST w6 W' s o c from fun W o c hW => (to_event x.id x.ver x.kind x.name W).mono (by
      rintro e W' ⟨rfl, hb⟩
      exact ⟨rfl, hW.down hb⟩))
    have HF := hide (show ∀ W o u0 u1, ST w6 W s o (some (u0, u1)) → Calls Tryd.prog 14 #[.agg #[.int .i64 s.st, .int .i64 s.nx, .bool s.ca, .int .i64 s.dn, u0, u1], .agg #[.int .i64 x.id, .int .i64 x.ver, .int .i64 x.kind, .string x.name]] W fun e W' => ∃ a c a' c', e = .returned (.tuple #[.agg #[.int .i64 r.st, .int .i64 r.nx, .bool r.ca, .int .i64 r.dn, .slice a r.sg.length c, .slice a' r.tm.length c'], .bool b]) ∧ SV w6 W' o (.slice a r.sg.length c) (.slice a' r.tm.length c') r from fun W o u0 u1 hW => (HIm.out u0 u1 W (hW.cp (u0, u1) rfl) (HK.out.below (((HLC.out.down HB6.out).low).trans (hW.low.mono ((HLC.out.down HB6.out).low).size)))).mono (by
      rintro e W' ⟨⟨y0, y1, rfl, hA⟩, hb⟩
      obtain ⟨a, c, rfl⟩ := hA.o0.form
      obtain ⟨a', c', rfl⟩ := hA.o1.form
      have h := hW.down hb
      exact ⟨a, c, a', c', rfl, h.low, h.box, hA.mono hW.low.size (Nat.le_refl _)⟩))
    go_cut [9, 10] from 36 (fun p bb wx => ∃ (g : Nat) (a3 : Option Addr) (c3 : Nat) (a4 : Option Addr) (c4 : Nat), p = .pointer (some ⟨g, 0, none⟩) ∧ bb = .bool b ∧ Hid (LX w6 wx g (.slice a3 r.sg.length c3) (.slice a4 r.tm.length c4) r))
    case first =>
      go_region_held3 (fun W => W.cell? ⟨w5.heap.size, 0, none⟩ = some (.int .i64 s.st) ∧ W.cell? ⟨w5.heap.size, 1, none⟩ = some (.int .i64 s.nx) ∧ W.cell? ⟨w5.heap.size, 2, none⟩ = some (.bool s.ca) ∧ W.cell? ⟨w5.heap.size, 3, none⟩ = some (.int .i64 s.dn) ∧ W.cell? ⟨w5.heap.size, 4, none⟩ = some (.slice a5 s.sg.length c5) ∧ W.cell? ⟨w5.heap.size, 5, none⟩ = some (.slice a6 s.tm.length c6) ∧ W.cell? ⟨w.heap.size + 1, 0, none⟩ = some (.int .i64 x.id) ∧ W.cell? ⟨w.heap.size + 1, 1, none⟩ = some (.int .i64 x.ver) ∧ W.cell? ⟨w.heap.size + 1, 2, none⟩ = some (.int .i64 x.kind) ∧ W.cell? ⟨w.heap.size + 1, 3, none⟩ = some (.string x.name)) (first
        | (with_reducible exact HS0.out _ (by with_reducible assumption))
        | (with_reducible exact HS0.out _ (ST.down (by with_reducible assumption) (Below.refl _ _)).low)
        | (with_reducible exact HS0.out _ (ST.alloc (by with_reducible assumption)).low)
        | (with_reducible exact HS0.out _ (ST.alloc1 (by with_reducible assumption)).low)
        | (with_reducible exact HS0.out _ (show SV _ _ _ _ _ _ from (by with_reducible assumption)).low)
        | (with_reducible exact HS0.out _ ((show SV _ _ _ _ _ _ from (by with_reducible assumption)).low.alloc (show SV _ _ _ _ _ _ from (by with_reducible assumption)).low.size _))
        | (with_reducible exact HS0.out _ (SV.fresh (by with_reducible assumption)).low)
        | (with_reducible exact HS0.out _ (SV.set (by with_reducible assumption)).low)) (first
        | (go_at_call 13; with_reducible refine Calls.mono (HT2.out _ _ _ (by first | assumption | exact ST.alloc1 (by assumption) | exact ST.alloc (by assumption))) ?_; rintro e wt ⟨rfl, hSt⟩)
        | (go_at_call 14; with_reducible refine Calls.mono (HF.out _ _ _ _ (by first | assumption | exact ST.alloc1 (by assumption) | exact ST.alloc (by assumption))) ?_; rintro e wf ⟨af, cf, af', cf', rfl, hSf⟩; first | (obtain ⟨⟨k0, k1, k2, k3, k4, k5⟩, f0, f1, f2, f3, f4, f5⟩ := (hSf.box _ rfl).1.hex; have hBs := (SV.set hSf).low) | skip))
      all_goals
        go_wp2_with fail
        go_meet
        first
          | (have hz := hSf.set; exact ⟨_, af, cf, af', cf', rfl, rfl, hide hz⟩)
          | (have hz := hSf.fresh; exact ⟨_, af, cf, af', cf', rfl, rfl, hide hz⟩)
    case rest =>
      rename World => wD
      obtain ⟨g', a7, c7, a8, c8, rfl, rfl, HLX⟩ := hcut
      have HQ := hide (show LQ wC wD w5.heap.size (.slice a5 s.sg.length c5) (.slice a6 s.tm.length c6) s w6.heap.size g' wD.heap.size (.slice a7 r.sg.length c7) (.slice a8 r.tm.length c8) r from HLX.out.lq HB6.out HX6.out HA6.out)
      have HG6 := hide HB6.out.size
      clear hF0 hF1 HS0 HT2 HF HLX HB6 HX6 HA6 HCP
      obtain ⟨⟨d0, d1, d2, d3, d4, d5⟩, -⟩ := HQ.out.gb.hex
      obtain ⟨⟨e0, e1, e2, e3, e4, e5⟩, -⟩ := (HX4.out.down HQ.out.low).hex
      go_wp2_with fail
      refine (eq_state _ _ _ _ r _ HQ.out.ga.q (HC4.out.below HQ.out.low) HRS.out).mono ?_
      rintro e w7 ⟨rfl, hb7⟩
      have hLa := HQ.out.down hb7
      clear hb7 HQ d0 d1 d2 d3 d4 d5 e0 e1 e2 e3 e4 e5
      go_upto_region 13 with fail
      have hLad := hLa.down (Below.refl w7.heap.size w7).drew
      have HTo := hide (show ∀ W, LQ wC W w5.heap.size (.slice a5 s.sg.length c5) (.slice a6 s.tm.length c6) s w6.heap.size g' wD.heap.size (.slice a7 r.sg.length c7) (.slice a8 r.tm.length c8) r → Calls Tryd.prog 12 #[.agg #[.int .i64 s.st, .int .i64 s.nx, .bool s.ca, .int .i64 s.dn, .slice a0 s.sg.length p0, .slice a1 s.tm.length p1]] W fun e w' => (∃ u0 u1, e = .returned (stv u0 u1 s) ∧ AnsL w' W.heap.size w'.heap.size u0 u1 s.sg s.tm) ∧ LQ wC w' w5.heap.size (.slice a5 s.sg.length c5) (.slice a6 s.tm.length c6) s w6.heap.size g' wD.heap.size (.slice a7 r.sg.length c7) (.slice a8 r.tm.length c8) r from fun W hW => by
        refine (to_state _ _ s W ((HV.out.below HLC.out.low).below hW.low) HS.out).mono ?_
        rintro e w' ⟨hu, hb⟩
        exact ⟨hu, hW.down hb⟩)
      have HSS := hide (show ∀ W, LQ wC W w5.heap.size (.slice a5 s.sg.length c5) (.slice a6 s.tm.length c6) s w6.heap.size g' wD.heap.size (.slice a7 r.sg.length c7) (.slice a8 r.tm.length c8) r → W.cell? ⟨w5.heap.size, 0, none⟩ = some (.int .i64 s.st) ∧ W.cell? ⟨w5.heap.size, 1, none⟩ = some (.int .i64 s.nx) ∧ W.cell? ⟨w5.heap.size, 2, none⟩ = some (.bool s.ca) ∧ W.cell? ⟨w5.heap.size, 3, none⟩ = some (.int .i64 s.dn) ∧ W.cell? ⟨w5.heap.size, 4, none⟩ = some (.slice a5 s.sg.length c5) ∧ W.cell? ⟨w5.heap.size, 5, none⟩ = some (.slice a6 s.tm.length c6) ∧ W.cell? ⟨w.heap.size, 0, none⟩ = some (.int .i64 s.st) ∧ W.cell? ⟨w.heap.size, 1, none⟩ = some (.int .i64 s.nx) ∧ W.cell? ⟨w.heap.size, 2, none⟩ = some (.bool s.ca) ∧ W.cell? ⟨w.heap.size, 3, none⟩ = some (.int .i64 s.dn) ∧ W.cell? ⟨w.heap.size, 4, none⟩ = some (.slice a0 s.sg.length p0) ∧ W.cell? ⟨w.heap.size, 5, none⟩ = some (.slice a1 s.tm.length p1) from fun W hW => ⟨hW.xb.hex.1.1, hW.xb.hex.1.2.1, hW.xb.hex.1.2.2.1, hW.xb.hex.1.2.2.2.1, hW.xb.hex.1.2.2.2.2.1, hW.xb.hex.1.2.2.2.2.2, (HLC.out.down hW.low).sb.hex.1.1, (HLC.out.down hW.low).sb.hex.1.2.1, (HLC.out.down hW.low).sb.hex.1.2.2.1, (HLC.out.down hW.low).sb.hex.1.2.2.2.1, (HLC.out.down hW.low).sb.hex.1.2.2.2.2.1, (HLC.out.down hW.low).sb.hex.1.2.2.2.2.2⟩)
      go_cut [56] from 52 (fun bb wx => bb = .bool false ∧ Hid (LQ wC wx w5.heap.size (.slice a5 s.sg.length c5) (.slice a6 s.tm.length c6) s w6.heap.size g' wD.heap.size (.slice a7 r.sg.length c7) (.slice a8 r.tm.length c8) r))
      case first =>
        go_region_held3 (fun W => W.cell? ⟨w5.heap.size, 0, none⟩ = some (.int .i64 s.st) ∧ W.cell? ⟨w5.heap.size, 1, none⟩ = some (.int .i64 s.nx) ∧ W.cell? ⟨w5.heap.size, 2, none⟩ = some (.bool s.ca) ∧ W.cell? ⟨w5.heap.size, 3, none⟩ = some (.int .i64 s.dn) ∧ W.cell? ⟨w5.heap.size, 4, none⟩ = some (.slice a5 s.sg.length c5) ∧ W.cell? ⟨w5.heap.size, 5, none⟩ = some (.slice a6 s.tm.length c6) ∧ W.cell? ⟨w.heap.size, 0, none⟩ = some (.int .i64 s.st) ∧ W.cell? ⟨w.heap.size, 1, none⟩ = some (.int .i64 s.nx) ∧ W.cell? ⟨w.heap.size, 2, none⟩ = some (.bool s.ca) ∧ W.cell? ⟨w.heap.size, 3, none⟩ = some (.int .i64 s.dn) ∧ W.cell? ⟨w.heap.size, 4, none⟩ = some (.slice a0 s.sg.length p0) ∧ W.cell? ⟨w.heap.size, 5, none⟩ = some (.slice a1 s.tm.length p1)) (first | exact HSS.out _ hFe | exact HSS.out _ hFj | exact HSS.out _ hLad) (first
          | (go_at_call 12; with_reducible refine Calls.mono (HTo.out _ (by assumption)) ?_; rintro e wj ⟨⟨uj, uk, rfl, hAj⟩, hFj⟩; have HAj := hide hAj; obtain ⟨aj, cj, rfl⟩ := hAj.o0.form; obtain ⟨ak, ck, rfl⟩ := hAj.o1.form; clear hAj)
          | (go_at_call 15; refine Calls.mono (eq_state _ _ _ _ s _ hFj.xa.q HAj.out.q HS.out) ?_; rintro e we ⟨rfl, hbe⟩; have hFe := hFj.down hbe))
        all_goals
          go_wp2_with fail
          go_meet
          exact ⟨rfl, hide hFe⟩
      case rest =>
        rename World => wE
        obtain ⟨rfl, HLa⟩ := hcut
        clear hLa hLad HTo HSS
        obtain ⟨⟨d0, d1, d2, d3, d4, d5⟩, -⟩ := HLa.out.xb.hex
        go_wp2_with fail
        refine (mark_state2 wC.heap.size w6.heap.size _ _ s _ HLa.out.xa HS.out).mono ?_
        rintro e w8 ⟨rfl, -, hm⟩
        have HU8 := hide (HLa.out.mark hm)
        rw [HM1.out]
        clear hm HLa d0 d1 d2 d3 d4 d5
        obtain ⟨⟨d0, d1, d2, d3, d4, d5⟩, -⟩ := HU8.out.gb.hex
        obtain ⟨⟨e0, e1, e2, e3, e4, e5⟩, -⟩ := (HX4.out.down HU8.out.low).hex
        go_wp2_with fail
        refine (eq_state _ _ _ _ r _ HU8.out.ga.q (HC4.out.below HU8.out.low) HRS.out).mono ?_
        rintro e w9 ⟨rfl, hb⟩
        have HU9 := hide (HU8.out.down hb)
        clear hb HU8 d0 d1 d2 d3 d4 d5 e0 e1 e2 e3 e4 e5
        obtain ⟨⟨d0, d1, d2, d3, d4, d5⟩, -⟩ := HU9.out.gb.hex
        go_wp2_with fail
        refine (mark_state2 w6.heap.size wD.heap.size _ _ r _ HU9.out.ga HRS.out).mono ?_
        rintro e w10 ⟨rfl, ha, hm⟩
        have HU10 := hide (HU9.out.mark HG6.out hm ha)
        rw [HM2.out]
        clear hm ha HU9 d0 d1 d2 d3 d4 d5
        obtain ⟨⟨d0, d1, d2, d3, d4, d5⟩, -⟩ := HU10.out.gb.hex
        go_wp2_with fail
        refine (held_state w6.heap.size wD.heap.size _ _ r _ HU10.out.ga HRS.out).mono ?_
        rintro e w11 ⟨rfl, hb⟩
        have HU11 := hide (HU10.out.down hb)
        rw [HM2.out]
        have HLB := hide (HLC.out.down HU11.out.low)
        clear hb HU10 d0 d1 d2 d3 d4 d5 HLC
        go_upto_region 27 with fail
        have hF1 : ST w11 w11 s none none := ⟨Below.refl w11.heap.size w11, fun g e => (by cases e), fun _ e => (by cases e)⟩
        have hF0 : ST w11 w11.drew s none none := ⟨(Below.refl w11.heap.size w11).drew, fun g e => (by cases e), fun _ e => (by cases e)⟩
        have HS0 := hide (show ∀ W, Below w11.heap.size w11 W → W.cell? ⟨w.heap.size, 0, none⟩ = some (.int .i64 s.st) ∧ W.cell? ⟨w.heap.size, 1, none⟩ = some (.int .i64 s.nx) ∧ W.cell? ⟨w.heap.size, 2, none⟩ = some (.bool s.ca) ∧ W.cell? ⟨w.heap.size, 3, none⟩ = some (.int .i64 s.dn) ∧ W.cell? ⟨w.heap.size, 4, none⟩ = some (.slice a0 s.sg.length p0) ∧ W.cell? ⟨w.heap.size, 5, none⟩ = some (.slice a1 s.tm.length p1) ∧ W.cell? ⟨w.heap.size + 1, 0, none⟩ = some (.int .i64 x.id) ∧ W.cell? ⟨w.heap.size + 1, 1, none⟩ = some (.int .i64 x.ver) ∧ W.cell? ⟨w.heap.size + 1, 2, none⟩ = some (.int .i64 x.kind) ∧ W.cell? ⟨w.heap.size + 1, 3, none⟩ = some (.string x.name) from fun W hW => ⟨(HLB.out.down hW).sb.hex.1.1, (HLB.out.down hW).sb.hex.1.2.1, (HLB.out.down hW).sb.hex.1.2.2.1, (HLB.out.down hW).sb.hex.1.2.2.2.1, (HLB.out.down hW).sb.hex.1.2.2.2.2.1, (HLB.out.down hW).sb.hex.1.2.2.2.2.2, (HLB.out.down hW).eb.ev⟩)
        have HT1 := hide (show ∀ W o c, ST w11 W s o c → Calls Tryd.prog 12 #[.agg #[.int .i64 s.st, .int .i64 s.nx, .bool s.ca, .int .i64 s.dn, .slice a0 s.sg.length p0, .slice a1 s.tm.length p1]] W fun e W' => ∃ a c a' c', e = .returned (.agg #[.int .i64 s.st, .int .i64 s.nx, .bool s.ca, .int .i64 s.dn, .slice a s.sg.length c, .slice a' s.tm.length c']) ∧ ST w11 W' s o (some (.slice a s.sg.length c, .slice a' s.tm.length c')) from fun W o c hW => (to_state _ _ s W ((HV.out.below HLB.out.low).below hW.low) HS.out).mono (by
          rintro e W' ⟨⟨u0, u1, rfl, hA⟩, hb⟩
          obtain ⟨a, c, rfl⟩ := hA.o0.form
          obtain ⟨a', c', rfl⟩ := hA.o1.form
          have h := hW.down hb
          exact ⟨a, c, a', c', rfl, h.low, h.box, fun u e => by cases e; exact hA.c⟩))
        have HT2 := hide (show ∀ W o c, ST w11 W s o c → Calls Tryd.prog 13 #[.agg #[.int .i64 x.id, .int .i64 x.ver, .int .i64 x.kind, .string x.name]] W fun e W' => e = .returned (.agg #[.int .i64 x.id, .int .i64 x.ver, .int .i64 x.kind, .string x.name]) ∧ ST w11 W' s o c from fun W o c hW => (to_event x.id x.ver x.kind x.name W).mono (by
          rintro e W' ⟨rfl, hb⟩
          exact ⟨rfl, hW.down hb⟩))
        have HF := hide (show ∀ W o u0 u1, ST w11 W s o (some (u0, u1)) → Calls Tryd.prog 14 #[.agg #[.int .i64 s.st, .int .i64 s.nx, .bool s.ca, .int .i64 s.dn, u0, u1], .agg #[.int .i64 x.id, .int .i64 x.ver, .int .i64 x.kind, .string x.name]] W fun e W' => ∃ a c a' c', e = .returned (.tuple #[.agg #[.int .i64 r.st, .int .i64 r.nx, .bool r.ca, .int .i64 r.dn, .slice a r.sg.length c, .slice a' r.tm.length c'], .bool b]) ∧ SV w11 W' o (.slice a r.sg.length c) (.slice a' r.tm.length c') r from fun W o u0 u1 hW => (HIm.out u0 u1 W (hW.cp (u0, u1) rfl) (HK.out.below (HLB.out.low.trans (hW.low.mono HLB.out.low.size)))).mono (by
          rintro e W' ⟨⟨y0, y1, rfl, hA⟩, hb⟩
          obtain ⟨a, c, rfl⟩ := hA.o0.form
          obtain ⟨a', c', rfl⟩ := hA.o1.form
          have h := hW.down hb
          exact ⟨a, c, a', c', rfl, h.low, h.box, hA.mono hW.low.size (Nat.le_refl _)⟩))
        go_cut [14, 15] from 84 (fun p bb wx => ∃ (g : Nat) (a3 : Option Addr) (c3 : Nat) (a4 : Option Addr) (c4 : Nat), p = .pointer (some ⟨g, 0, none⟩) ∧ bb = .bool b ∧ Hid (LX w11 wx g (.slice a3 r.sg.length c3) (.slice a4 r.tm.length c4) r))
        case first =>
          go_region_held3 (fun W => W.cell? ⟨w.heap.size, 0, none⟩ = some (.int .i64 s.st) ∧ W.cell? ⟨w.heap.size, 1, none⟩ = some (.int .i64 s.nx) ∧ W.cell? ⟨w.heap.size, 2, none⟩ = some (.bool s.ca) ∧ W.cell? ⟨w.heap.size, 3, none⟩ = some (.int .i64 s.dn) ∧ W.cell? ⟨w.heap.size, 4, none⟩ = some (.slice a0 s.sg.length p0) ∧ W.cell? ⟨w.heap.size, 5, none⟩ = some (.slice a1 s.tm.length p1) ∧ W.cell? ⟨w.heap.size + 1, 0, none⟩ = some (.int .i64 x.id) ∧ W.cell? ⟨w.heap.size + 1, 1, none⟩ = some (.int .i64 x.ver) ∧ W.cell? ⟨w.heap.size + 1, 2, none⟩ = some (.int .i64 x.kind) ∧ W.cell? ⟨w.heap.size + 1, 3, none⟩ = some (.string x.name)) (first
            | (with_reducible exact HS0.out _ (by with_reducible assumption))
            | (with_reducible exact HS0.out _ (ST.down (by with_reducible assumption) (Below.refl _ _)).low)
            | (with_reducible exact HS0.out _ (ST.alloc (by with_reducible assumption)).low)
            | (with_reducible exact HS0.out _ (ST.alloc1 (by with_reducible assumption)).low)
            | (with_reducible exact HS0.out _ (show SV _ _ _ _ _ _ from (by with_reducible assumption)).low)
            | (with_reducible exact HS0.out _ ((show SV _ _ _ _ _ _ from (by with_reducible assumption)).low.alloc (show SV _ _ _ _ _ _ from (by with_reducible assumption)).low.size _))
            | (with_reducible exact HS0.out _ (SV.fresh (by with_reducible assumption)).low)
            | (with_reducible exact HS0.out _ (SV.set (by with_reducible assumption)).low)) (first
            | (go_at_call 12; with_reducible refine Calls.mono (HT1.out _ _ _ (by first | assumption | exact ST.alloc1 (by assumption) | exact ST.alloc (by assumption))) ?_; rintro e wo ⟨ao, co, ao', co', rfl, hSo⟩)
            | (go_at_call 13; with_reducible refine Calls.mono (HT2.out _ _ _ (by first | assumption | exact ST.alloc1 (by assumption) | exact ST.alloc (by assumption))) ?_; rintro e wt ⟨rfl, hSt⟩)
            | (go_at_call 14; with_reducible refine Calls.mono (HF.out _ _ _ _ (by first | assumption | exact ST.alloc1 (by assumption) | exact ST.alloc (by assumption))) ?_; rintro e wf ⟨af, cf, af', cf', rfl, hSf⟩; first | (obtain ⟨⟨k0, k1, k2, k3, k4, k5⟩, f0, f1, f2, f3, f4, f5⟩ := (hSf.box _ rfl).1.hex; have hBs := (SV.set hSf).low) | skip))
          all_goals
            go_wp2_with fail
            go_meet
            first
              | (have hz := hSf.set; exact ⟨_, af, cf, af', cf', rfl, rfl, hide hz⟩)
              | (have hz := hSf.fresh; exact ⟨_, af, cf, af', cf', rfl, rfl, hide hz⟩)
        case rest =>
          rename World => wF
          obtain ⟨gh, a9, c9, a10, c10, rfl, rfl, HLX⟩ := hcut
          have HU12 := hide (HU11.out.down HLX.out.low)
          have HLZ := hide (HLB.out.down HLX.out.low)
          have HXh := hide HLX.out.box
          have HAh := hide HLX.out.ans.q
          clear hF0 hF1 HS0 HT1 HT2 HF HLX HLB HIm HU11
          obtain ⟨⟨d0, d1, d2, d3, d4, d5⟩, -⟩ := HXh.out.hex
          obtain ⟨⟨e0, e1, e2, e3, e4, e5⟩, -⟩ := (HX4.out.down HU12.out.low).hex
          go_wp2_with fail
          refine (eq_state _ _ _ _ r _ HAh.out (HC4.out.below HU12.out.low) HRS.out).mono ?_
          rintro e w13 ⟨rfl, hb⟩
          have HU13 := hide (HU12.out.down hb)
          have HLZ2 := hide (HLZ.out.down hb)
          clear hb HU12 HLZ HXh HAh d0 d1 d2 d3 d4 d5 e0 e1 e2 e3 e4 e5
          obtain ⟨⟨d0, d1, d2, d3, d4, d5⟩, -⟩ := HU13.out.gb.hex
          go_wp2_with fail
          refine (held_state w6.heap.size wD.heap.size _ _ r _ HU13.out.ga HRS.out).mono ?_
          rintro e w14 ⟨rfl, hb⟩
          have HZ := hide (HLZ2.out.down hb).low
          rw [HM2.out]
          clear hb HU13 HLZ2 d0 d1 d2 d3 d4 d5 HX4 HC4 HV HS HRS HK
          go_wp2
          go_ret
          exact ⟨rfl, HZ.out⟩
end Go.Proofs.YtglpkikncgdghaaDoor

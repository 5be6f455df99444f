/-
  Texts that follow one another, joined: QuDl, QuDe.
-/
import Derived.Test.YtfjdbenbiakbbaaJoin34
import Derived.Test.YtfjdbenbiakbbaaJoin37
import Derived.Test.YtfjdbenbiakbbaaJoin36
import Derived.Test.YtfjdbenbiakbbaaJoin14
import Derived.Deep.RegionWith
import Derived.Laws.StructEq
/-
  When the line is good for long enough all comes: FnDrained, walked.
-/
namespace Go.Proofs.Ytfjdbenbiakbbaa
open Go.RowKit M
set_option maxHeartbeats 1000000 in
theorem same_txs (v u : Value) (l : Txs) (w : World) (hv : TxsOf w v l) (hu : TxsOf w u l) (hn : l.length ≤ 1048576) :
    Calls Try.prog 33 #[v, u] w fun e w' => e = .returned (.bool true) ∧ Below w.heap.size w w' := by
  obtain ⟨a, cap, rfl, hr⟩ := hv
  obtain ⟨a2, cap2, rfl, hr2⟩ := hu
  have HR := hide hr
  have HR2 := hide hr2
  clear hr hr2
  go_enter Try.func33, Try.ntmps33
  go_wp2
  go_loopw [13] (fun i wr => ∃ k : Nat, k ≤ l.length ∧ i = .int .i64 k ∧ Below w.heap.size w wr) (fun i _ => l.length - (intOf i).toNat)
  case atStart => exact ⟨0, Nat.zero_le _, rfl, Below.refl _ _⟩
  case round =>
    obtain ⟨k, hk, rfl, hbw⟩ := hrel
    by_cases hlt : k < l.length
    · obtain ⟨b, off, rfl, hb, hrow⟩ := HR.out (by omega)
      obtain ⟨b2, off2, rfl, hb2, hrow2⟩ := HR2.out (by omega)
      obtain ⟨x, hx⟩ : ∃ x, l[k]? = some x := ⟨l[k], List.getElem?_eq_getElem hlt⟩
      have k0 := cell_regrown ((hbw.cell (p := ⟨b, off + k, none⟩) hb).trans (hrow k x hx))
      have k1 := cell_regrown ((hbw.cell (p := ⟨b2, off2 + k, none⟩) hb2).trans (hrow2 k x hx))
      have hi0 : (0 : Int) ≤ (k : Int) := by omega
      have hi1 : (k : Int) < (l.length : Int) := by omega
      clear hrow hrow2 HR HR2 hx
      go_wp2
      refine wp_region_quiet_below (by kernel_rfl) (by kernel_rfl) ?_
      repeat (go_big_quiet_step (fail))
      refine wpQuiet_nil ?_
      intro _ hw'
      obtain ⟨⟨dq, osq⟩, hw''⟩ := hw'
      subst hw''
      have hbw2 := hbw.trans ((below_regrown wr dq osq).mono hbw.size)
      go_wp2
      go_roundw
      case rel => exact ⟨k + 1, by omega, by go_num, hbw2⟩
      case measure => simp [intOf]; omega
    · clear HR HR2
      go_wp2
      go_ret
      exact ⟨rfl, hbw⟩
namespace M
theorem cur_new {w : World} {a : Option Addr} {n cap : Nat} {f : Nat → Nat} (hv : OctetsOf w (.slice a n cap) n f) (hn : n ≤ 1048576) : CurAt (w.alloc (.cells #[.slice a n cap, .int .i64 0, .int .u64 0] 84)) w.heap.size w.heap.size 0 := by
  have hb := Blk.fresh w #[.slice a n cap, .int .i64 0, .int .u64 0] 3 (cu (.slice a n cap) (0 : Nat) 0) 84 rfl
  exact ⟨_, n, f, 0, 0, Nat.le_refl _, hn, Nat.le_refl _, hb, w, rfl, hv, (Below.refl _ w).alloc (Nat.le_refl _) _⟩
/-- A queue in its box, read. -/
structure QB (W : World) (g : Nat) (v1 v3 v4 : Value) (q : Qu) : Prop where
  bx : Blk W g 5 (qf v1 v3 v4 q) 32
  rd : QuQ W v1 v3 v4 q
  t1 : TxC W v1 q.sent
  rc : QuC W v1 v3 v4 q
theorem QB.down {W W' : World} {g : Nat} {v1 v3 v4 : Value} {q : Qu} (h : QB W g v1 v3 v4 q) (hb : Below W.heap.size W W') : QB W' g v1 v3 v4 q := ⟨h.bx.down hb, h.rd.below hb, h.t1.below hb, h.rc.below hb⟩
theorem QB.new {W : World} {lo : Nat} {v1 v3 v4 : Value} {q : Qu} (h : AnsQ W lo W.heap.size v1 v3 v4 q.sent q.got q.line) : QB (W.alloc (.cells (qarr v1 v3 v4 q) 32)) W.heap.size v1 v3 v4 q := by
  have hd := (Below.refl W.heap.size W).alloc (Nat.le_refl _) (.cells (qarr v1 v3 v4 q) 32)
  have h2 := h.down hd
  exact ⟨newW5 W _ _ _ _ _ 32, h2.q, h2.o1.c, h2.c⟩
theorem drn_good2 : ∀ (f : Nat) (q : Qu), GoodQ q → GoodQ (drn f q).1
  | 0, _, h => h
  | f + 1, q, h => by
    cases ht : q.sent[q.base.toNat]? with
    | none => rw [show drn (f + 1) q = (q, 0) from by conv => lhs; unfold drn
                                                      simp only [ht]]; exact h
    | some t => rw [drn_step ht]; exact drn_good2 f _ ((Drg.zero h).succ ht).good
end M
namespace M
theorem ans_fin {W : World} {g lo : Nat} {v1 v3 v4 : Value} {q : Qu} (hr : Blk W g 5 (w5 (.int .i64 0) (.slice none 0 0) (.int .i64 0) (.slice none 0 0) (.slice none 0 0)) 32) (ha : AnsQ W lo W.heap.size v1 v3 v4 q.sent q.got q.line) (hg : g < lo) : ∀ WZ, (((((W.setCell ⟨g, 0, none⟩ (.int .i64 q.win)).setCell ⟨g, 1, none⟩ v1).setCell ⟨g, 2, none⟩ (.int .i64 q.base)).setCell ⟨g, 3, none⟩ v3).setCell ⟨g, 4, none⟩ v4) = WZ →
    Blk WZ g 5 (qf v1 v3 v4 q) 32 ∧ AnsQ WZ lo WZ.heap.size v1 v3 v4 q.sent q.got q.line ∧ Below g W WZ := by
  intro WZ hWZ
  obtain ⟨j1, j2, j3⟩ := putW5 (w := W) hr (Below.refl g W) (Nat.le_refl _) _ _ _ _ _ WZ hWZ
  refine ⟨j1, AnsQ.of (ha.o1.other j3 (fun k hk e => ?_)) (ha.o3.other j3 (fun k hk e => ?_)) (ha.o4.other j3 (fun k hk e => ?_)) ha.a13 ha.a14 ha.a34, j2⟩
  · have := (ha.o1.lt hk).1; simp only [Option.some.injEq] at e; omega
  · have := (ha.o3.lt hk).1; simp only [Option.some.injEq] at e; omega
  · have := (ha.o4.lt hk).1; simp only [Option.some.injEq] at e; omega
end M
set_option maxRecDepth 20000 in
set_option maxHeartbeats 2000000 in
theorem draw_goodq (v : Value) (n : Nat) (f : Nat → Nat) (w : World) (hv : OctetsOf w v n f) (hn : n ≤ 1048576) :
    Calls Try.prog 66 #[v] w fun e w' => DrawnQ w w' e ∧ Below w.heap.size w w' := by
  obtain ⟨a, cap, rfl⟩ := hv.form
  obtain ⟨A, hA0⟩ : ∃ A, w.alloc (.cells #[.int .i64 0, .slice none 0 0, .int .i64 0, .slice none 0 0, .slice none 0 0] 32) = A := ⟨_, rfl⟩
  have hal : Below w.heap.size w A := hA0 ▸ (Below.refl w.heap.size w).alloc (Nat.le_refl _) _
  have hsz : A.heap.size = w.heap.size + 1 := by rw [← hA0]; simp
  have hal2 := (Below.refl A.heap.size A).alloc (Nat.le_refl _) (.cells #[.slice a n cap, .int .i64 0, .int .u64 0] 84)
  have HC := hide (cur_new (hv.below hal) hn)
  have HB := hide (And.intro hal hal2)
  have HR0 := hide (show Blk A w.heap.size 5 (w5 (.int .i64 0) (.slice none 0 0) (.int .i64 0) (.slice none 0 0) (.slice none 0 0)) 32 from hA0 ▸ newW5 w (.int .i64 0) (.slice none 0 0) (.int .i64 0) (.slice none 0 0) (.slice none 0 0) 32)
  have HA0 := hide hA0
  have HSZ := hide hsz
  clear hv hal hal2 hA0 hsz
  go_enter Try.func66, Try.ntmps66
  go_upto_region 1 with fail
  rw [HA0.out]
  clear HA0
  go_wp2_with fail
  refine (cur_queue A.heap.size A.heap.size 0 _ HC.out (by omega)).mono ?_
  rintro e w1 ⟨⟨v1, v3, v4, q, rfl, hA, hs, hm⟩, hc1, ho1⟩
  have hr := ho1.blk (HR0.out.down HB.out.2) (by have := HSZ.out; omega)
  have hb1 := HB.out.1.trans ((HB.out.2.trans (ho1.below (Nat.le_refl _) HB.out.2.size)).mono HB.out.1.size)
  have hlo : w.heap.size < (A.alloc (.cells #[.slice a n cap, .int .i64 0, .int .u64 0] 84)).heap.size := by have := HSZ.out; rw [World.size_alloc]; omega
  clear hc1 ho1 HC HB HR0 HSZ
  obtain ⟨a1, c1, rfl⟩ := hA.o1.form
  obtain ⟨a3, c3, rfl⟩ := hA.o3.form
  obtain ⟨a4, c4, rfl⟩ := hA.o4.form
  obtain ⟨WZ, hWZ⟩ : ∃ WZ, (((((w1.setCell ⟨w.heap.size, 0, none⟩ (.int .i64 q.win)).setCell ⟨w.heap.size, 1, none⟩ (.slice a1 q.sent.length c1)).setCell ⟨w.heap.size, 2, none⟩ (.int .i64 q.base)).setCell ⟨w.heap.size, 3, none⟩ (.slice a3 q.got.length c3)).setCell ⟨w.heap.size, 4, none⟩ (.slice a4 q.line.length c4)) = WZ := ⟨_, rfl⟩
  obtain ⟨j1, j2, j3⟩ := ans_fin hr hA hlo WZ hWZ
  obtain ⟨⟨e0, e1, e2, e3, e4⟩, f0, f1, f2, f3, f4⟩ := hr.pen
  have HF := hide (And.intro j1 (And.intro (j2.mono (Nat.le_of_lt hlo) (Nat.le_refl _)) (And.intro hs (And.intro hm (hb1.trans (j3.mono (Nat.le_refl _)))))))
  have HWZ := hide hWZ
  clear hA hs hm hr hlo hb1 j1 j2 j3 hWZ
  go_wp2
  rw [HWZ.out]
  clear e0 e1 e2 e3 e4 f0 f1 f2 f3 f4
  obtain ⟨⟨e0, e1, e2, e3, e4⟩, -⟩ := HF.out.1.pen
  exact bodyPost_ret (v := qv (.slice a1 q.sent.length c1) (.slice a3 q.got.length c3) (.slice a4 q.line.length c4) q) (by simp [results, Try.results66, go_sem, e0, e1, e2, e3, e4]) rfl ⟨⟨_, _, _, q, rfl, HF.out.2.1, HF.out.2.2.1, HF.out.2.2.2.1⟩, HF.out.2.2.2.2⟩
set_option maxRecDepth 20000 in
set_option maxHeartbeats 2000000 in
theorem draw_drain (v : Value) (n : Nat) (f : Nat → Nat) (w : World) (hv : OctetsOf w v n f) (hn : n ≤ 1048576) :
    Calls Try.prog 37 #[v] w fun e w' => DrawnQ w w' e ∧ Below w.heap.size w w' := by
  have hal := (Below.refl w.heap.size w).alloc (Nat.le_refl _) (.cells #[.int .i64 0, .slice none 0 0, .int .i64 0, .slice none 0 0, .slice none 0 0] 32)
  have HV := hide (hv.below hal)
  have HR0 := hide (newW5 w (.int .i64 0) (.slice none 0 0) (.int .i64 0) (.slice none 0 0) (.slice none 0 0) 32)
  have HB := hide hal
  clear hv hal
  go_enter Try.func37, Try.ntmps37
  go_wp2_with fail
  refine (draw_goodq v n f _ HV.out hn).mono ?_
  rintro e w1 ⟨⟨v1, v3, v4, q, rfl, hA, hs, hm⟩, hb1⟩
  have hr := HR0.out.down hb1
  have hb1 := HB.out.trans (hb1.mono HB.out.size)
  have hlo : w.heap.size < (w.alloc (.cells #[.int .i64 0, .slice none 0 0, .int .i64 0, .slice none 0 0, .slice none 0 0] 32)).heap.size := by rw [World.size_alloc]; omega
  clear HV HB HR0
  obtain ⟨a1, c1, rfl⟩ := hA.o1.form
  obtain ⟨a3, c3, rfl⟩ := hA.o3.form
  obtain ⟨a4, c4, rfl⟩ := hA.o4.form
  obtain ⟨WZ, hWZ⟩ : ∃ WZ, (((((w1.setCell ⟨w.heap.size, 0, none⟩ (.int .i64 q.win)).setCell ⟨w.heap.size, 1, none⟩ (.slice a1 q.sent.length c1)).setCell ⟨w.heap.size, 2, none⟩ (.int .i64 q.base)).setCell ⟨w.heap.size, 3, none⟩ (.slice a3 q.got.length c3)).setCell ⟨w.heap.size, 4, none⟩ (.slice a4 q.line.length c4)) = WZ := ⟨_, rfl⟩
  obtain ⟨j1, j2, j3⟩ := ans_fin hr hA hlo WZ hWZ
  obtain ⟨⟨e0, e1, e2, e3, e4⟩, f0, f1, f2, f3, f4⟩ := hr.pen
  have HF := hide (And.intro j1 (And.intro (j2.mono (Nat.le_of_lt hlo) (Nat.le_refl _)) (And.intro hs (And.intro hm (hb1.trans (j3.mono (Nat.le_refl _)))))))
  have HWZ := hide hWZ
  clear hA hs hm hr hlo hb1 j1 j2 j3 hWZ
  go_wp2
  rw [HWZ.out]
  clear e0 e1 e2 e3 e4 f0 f1 f2 f3 f4
  obtain ⟨⟨e0, e1, e2, e3, e4⟩, -⟩ := HF.out.1.pen
  exact bodyPost_ret (v := qv (.slice a1 q.sent.length c1) (.slice a3 q.got.length c3) (.slice a4 q.line.length c4) q) (by simp [results, Try.results37, go_sem, e0, e1, e2, e3, e4]) rfl ⟨⟨_, _, _, q, rfl, HF.out.2.1, HF.out.2.2.1, HF.out.2.2.2.1⟩, HF.out.2.2.2.2⟩
set_option maxRecDepth 20000 in
set_option maxHeartbeats 8000000 in
theorem law_fnDrained (v0 : Value) (n0 : Nat) (f0 : Nat → Nat) (w : World) (hv0 : OctetsOf w v0 n0 f0) (_hz0 : n0 < 2 ^ 47) :
    Calls Try.prog 8 #[v0] w fun e w' => e = .returned (.bool true) ∧ Below w.heap.size w w' := by
  obtain ⟨a0, cap0, rfl⟩ := hv0.form
  have HV := hide hv0
  clear hv0
  by_cases hn : 1048576 < n0
  · have hn' : (1048576 : Int) < (n0 : Int) := by omega
    go_enter Try.func8, Try.ntmps8
    go_wp2
    go_ret
    exact ⟨rfl, Below.refl _ _⟩
  have hn' : ¬ (1048576 : Int) < (n0 : Int) := by omega
  go_enter Try.func8, Try.ntmps8
  go_wp2_with fail
  refine (draw_drain _ n0 f0 _ HV.out (by omega)).mono ?_
  rintro e w1 ⟨⟨v1, v3, v4, q, rfl, hA, hsh, hsm⟩, hb1⟩
  obtain ⟨a1, c1, rfl⟩ := hA.o1.form
  obtain ⟨a3, c3, rfl⟩ := hA.o3.form
  obtain ⟨a4, c4, rfl⟩ := hA.o4.form
  have hqb := QB.new hA
  have hbl := hb1.trans (((Below.refl w1.heap.size w1).alloc (Nat.le_refl _) (.cells (qarr (.slice a1 q.sent.length c1) (.slice a3 q.got.length c3) (.slice a4 q.line.length c4) q) 32)).mono hb1.size)
  have HS := hide hsh
  have HM := hide hsm.1
  obtain ⟨gb, hgb⟩ := bp_ex (GoodQ q)
  obtain ⟨r, n, hrb, hrs⟩ : ∃ (r : Qu) (n : Int), ((if gb = true then (drn 40 q).1 else qu0) = r ∧ (if gb = true then ((drn 40 q).2 : Int) else 0) = n) ∧ ShortQ r := by
    refine ⟨_, _, ⟨rfl, rfl⟩, ?_⟩
    cases gb with
    | false => exact (show ShortQ qu0 from ⟨by decide, by decide, by decide⟩)
    | true => exact (drn_good2 40 q (hgb.1 rfl)).short
  have HGB := hide hgb
  have HRB := hide hrb
  have hbb : (gb != gb) = false := by simp
  have hnn : (n != n) = false := by simp
  clear hA hb1 hsh hsm hgb hrb HV
  go_upto_region 4 with fail
  obtain ⟨gq, hg⟩ : ∃ g, w1.heap.size = g := ⟨_, rfl⟩
  obtain ⟨w2, hW⟩ : ∃ W, w1.alloc (.cells (qarr (.slice a1 q.sent.length c1) (.slice a3 q.got.length c3) (.slice a4 q.line.length c4) q) 32) = W := ⟨_, rfl⟩
  rw [hg] at hqb ⊢
  rw [hW] at hqb hbl ⊢
  have HQ := hide hqb
  have HBl := hide hbl
  clear hg hW hqb hbl
  obtain ⟨⟨d0, d1, d2, d3, d4⟩, -⟩ := HQ.out.bx.pen
  go_wp2_with fail
  refine (impl_drain _ _ _ q gb _ HQ.out.rd HQ.out.t1 HS.out HM.out HGB.out).mono ?_
  rw [HRB.out.1, HRB.out.2]
  rintro e w3 ⟨⟨u1, u3, u4, rfl, hA⟩, hb⟩
  obtain ⟨x1, k1, rfl⟩ := hA.o1.form
  obtain ⟨x3, k3, rfl⟩ := hA.o3.form
  obtain ⟨x4, k4, rfl⟩ := hA.o4.form
  have hqb := QB.new hA
  have hd := (Below.refl w3.heap.size w3).alloc (Nat.le_refl _) (.cells (qarr (.slice x1 r.sent.length k1) (.slice x3 r.got.length k3) (.slice x4 r.line.length k4) r) 32)
  have hQ2 := (HQ.out.down hb).down hd
  have hbl := HBl.out.trans ((hb.trans (hd.mono hb.size)).mono HBl.out.size)
  clear HQ HBl hb hd hA d0 d1 d2 d3 d4
  go_upto_region 5 with fail
  obtain ⟨gx, hg⟩ : ∃ g, w3.heap.size = g := ⟨_, rfl⟩
  obtain ⟨w4, hW⟩ : ∃ W, w3.alloc (.cells (qarr (.slice x1 r.sent.length k1) (.slice x3 r.got.length k3) (.slice x4 r.line.length k4) r) 32) = W := ⟨_, rfl⟩
  rw [hg] at hqb ⊢
  rw [hW] at hqb hQ2 hbl ⊢
  have HQ := hide hQ2
  have HX := hide hqb
  have HBl := hide hbl
  clear hg hW hqb hQ2 hbl
  obtain ⟨⟨d0, d1, d2, d3, d4⟩, -⟩ := HQ.out.bx.pen
  go_wp2_with fail
  refine (spec_drain _ _ _ q gb _ HQ.out.rc HS.out HM.out HGB.out).mono ?_
  rw [HRB.out.1, HRB.out.2]
  rintro e w5 ⟨⟨u1, u3, u4, rfl, hA⟩, hb⟩
  obtain ⟨z1, l1, rfl⟩ := hA.o1.form
  obtain ⟨z3, l3, rfl⟩ := hA.o3.form
  obtain ⟨z4, l4, rfl⟩ := hA.o4.form
  have hd := (Below.refl w5.heap.size w5).alloc (Nat.le_refl _) (.cells (qarr (.slice z1 r.sent.length l1) (.slice z3 r.got.length l3) (.slice z4 r.line.length l4) r) 32)
  have hQ2 := (HQ.out.down hb).down hd
  have hX2 := (HX.out.down hb).down hd
  have hbl := HBl.out.trans ((hb.trans (hd.mono hb.size)).mono HBl.out.size)
  clear HQ HX HBl hb hd hA d0 d1 d2 d3 d4
  go_upto_region 6 with fail
  obtain ⟨w6, hW⟩ : ∃ W, w5.alloc (.cells (qarr (.slice z1 r.sent.length l1) (.slice z3 r.got.length l3) (.slice z4 r.line.length l4) r) 32) = W := ⟨_, rfl⟩
  rw [hW] at hX2 hQ2 hbl ⊢
  have HQ := hide hQ2
  have HX := hide hX2
  have HBl := hide hbl
  clear hW hX2 hQ2 hbl
  obtain ⟨⟨d0, d1, d2, d3, d4⟩, -⟩ := HQ.out.bx.pen
  go_wp2_with fail
  refine (impl_goodQ _ _ _ q gb _ HQ.out.rd HQ.out.t1 HS.out HM.out HGB.out).mono ?_
  rintro e w7 ⟨rfl, hb⟩
  have HQ7 := hide (HQ.out.down hb)
  have HX7 := hide (HX.out.down hb)
  have HB7 := hide (HBl.out.trans (hb.mono HBl.out.size))
  clear hb HQ HX HBl d0 d1 d2 d3 d4
  cases gb with
  | false =>
    have hn0 : n = 0 := by have := HRB.out.2; simpa using this.symm
    subst hn0
    clear HQ7 HX7
    go_wp2
    go_ret
    exact ⟨rfl, HB7.out⟩
  | true =>
    have hgq := HGB.out.1 rfl
    have hr1 : (drn 40 q).1 = r := by simpa using HRB.out.1
    have hr2 : ((drn 40 q).2 : Int) = n := by simpa using HRB.out.2
    have hb0 := hgq.b0
    have hs40 := hgq.s40
    have hbg := hgq.bg
    have hgs := hgq.gs
    have hf : (q.sent.length : Int) - q.base ≤ (40 : Nat) := by omega
    have hgot : r.got = q.sent := by rw [← hr1]; exact drained hgq hf
    have hsent : r.sent = q.sent := by rw [← hr1]; exact (drn_sent 40 q).1
    have hgr : GoodQ r := by rw [← hr1]; exact drn_good2 40 q hgq
    have hle : n ≤ (q.sent.length : Int) - q.base := by rw [← hr2]; exact (drn_end 40 q hgq hf).2.2
    have hn0 : 0 ≤ n := by rw [← hr2]; omega
    have hled : decide (n ≤ (q.sent.length : Int) - q.base) = true := decide_eq_true hle
    have HGR := hide (show BP true (GoodQ r) from ⟨fun _ => hgr, fun _ => rfl⟩)
    have HRM := hide (show ∀ x ∈ r.sent, x.size ≤ maxLen from hgr.small)
    have HRS := hide hgr.short
    have HW := hide (show (r.sent.length : Int) - r.got.length = 0 from by rw [hgot, hsent]; omega)
    have HT := hide (And.intro hgot hsent)
    clear hgq hr1 hr2 hgot hsent hgr hf hgs hbg
    obtain ⟨⟨d0, d1, d2, d3, d4⟩, -⟩ := HX7.out.bx.pen
    go_wp2_with fail
    refine (impl_waiting _ _ _ r true _ HX7.out.rd HX7.out.t1 HRS.out HRM.out HGR.out).mono ?_
    rw [if_pos rfl, HW.out]
    rintro e w8 ⟨rfl, hb⟩
    have HQ8 := hide (HQ7.out.down hb)
    have HX8 := hide (HX7.out.down hb)
    have HB8 := hide (HB7.out.trans (hb.mono HB7.out.size))
    clear hb HQ7 HX7 HB7 d0 d1 d2 d3 d4
    obtain ⟨⟨-, d1, -, d3, -⟩, -⟩ := HX8.out.bx.pen
    obtain ⟨⟨-, e1, e2, -, -⟩, -⟩ := HQ8.out.bx.pen
    go_wp2_with fail
    refine (same_txs _ _ q.sent _ (by have := HX8.out.rd.g; rw [HT.out.1] at this ⊢; exact this) HQ8.out.rd.s (by omega)).mono ?_
    rintro e w9 ⟨rfl, hb⟩
    have HQ9 := hide (HQ8.out.down hb)
    have HX9 := hide (HX8.out.down hb)
    have HB9 := hide (HB8.out.trans (hb.mono HB8.out.size))
    clear hb HQ8 HX8 HB8 d1 d3 e1 e2
    obtain ⟨⟨-, d1, -, d3, -⟩, -⟩ := HX9.out.bx.pen
    obtain ⟨⟨-, e1, e2, -, -⟩, -⟩ := HQ9.out.bx.pen
    go_wp2_with fail
    refine (same_txs _ _ q.sent _ (by have := HX9.out.rd.s; rw [HT.out.2] at this ⊢; exact this) HQ9.out.rd.s (by omega)).mono ?_
    rintro e w10 ⟨rfl, hb⟩
    have HQ10 := hide (HQ9.out.down hb)
    have HX10 := hide (HX9.out.down hb)
    have HB10 := hide (HB9.out.trans (hb.mono HB9.out.size))
    clear hb HQ9 HX9 HB9 d1 d3 e1 e2
    obtain ⟨⟨d0, d1, d2, d3, d4⟩, -⟩ := HX10.out.bx.pen
    obtain ⟨⟨-, e1, e2, -, -⟩, -⟩ := HQ10.out.bx.pen
    go_wp2_with fail
    refine (impl_goodQ _ _ _ r true _ HX10.out.rd HX10.out.t1 HRS.out HRM.out HGR.out).mono ?_
    rintro e w11 ⟨rfl, hb⟩
    have HZ := hide (HB10.out.trans (hb.mono HB10.out.size))
    clear hb HQ10 HX10 HB10 d0 d1 d2 d3 d4 e1 e2
    go_wp2
    go_ret
    exact ⟨rfl, HZ.out⟩
end Go.Proofs.Ytfjdbenbiakbbaa

/-
  What FnQueue draws and compares: bools and packets that are the same, a window with steps.
-/
namespace Go.Proofs.Ytfjdbenbiakbbaa
open Go.RowKit M
set_option maxHeartbeats 1000000 in
theorem same_bools (v u : Value) (l : List Bool) (w : World) (hv : BL w v l) (hu : BL w u l) (hn : l.length ≤ 1048576) :
    Calls Try.prog 32 #[v, u] w fun e w' => e = .returned (.bool true) ∧ Below w.heap.size w w' := by
  obtain ⟨a, cap, rfl, hr⟩ := hv
  obtain ⟨a2, cap2, rfl, hr2⟩ := hu
  have HR := hide hr
  have HR2 := hide hr2
  clear hr hr2
  go_enter Try.func32, Try.ntmps32
  go_wp2
  go_loopw [13] (fun i wr => ∃ k : Nat, k ≤ l.length ∧ i = .int .i64 k ∧ Below w.heap.size w wr) (fun i _ => l.length - (intOf i).toNat)
  case atStart => exact ⟨0, Nat.zero_le _, rfl, Below.refl _ _⟩
  case round =>
    obtain ⟨k, hk, rfl, hbw⟩ := hrel
    by_cases hlt : k < l.length
    · obtain ⟨b, off, rfl, hb, hrow⟩ := HR.out (by omega)
      obtain ⟨b2, off2, rfl, hb2, hrow2⟩ := HR2.out (by omega)
      obtain ⟨x, hx⟩ : ∃ x, l[k]? = some x := ⟨l[k], List.getElem?_eq_getElem hlt⟩
      have k0 := cell_regrown ((hbw.cell (p := ⟨b, off + k, none⟩) hb).trans (hrow k x hx))
      have k1 := cell_regrown ((hbw.cell (p := ⟨b2, off2 + k, none⟩) hb2).trans (hrow2 k x hx))
      have hi0 : (0 : Int) ≤ (k : Int) := by omega
      have hi1 : (k : Int) < (l.length : Int) := by omega
      have hxx : (x != x) = false := by simp
      clear hrow hrow2 HR HR2 hx
      go_wp2
      refine wp_region_quiet_below (by kernel_rfl) (by kernel_rfl) ?_
      repeat (go_big_quiet_step (fail))
      refine wpQuiet_nil ?_
      intro _ hw'
      obtain ⟨⟨dq, osq⟩, hw''⟩ := hw'
      subst hw''
      have hbw2 := hbw.trans ((below_regrown wr dq osq).mono hbw.size)
      go_wp2
      go_roundw
      case rel => exact ⟨k + 1, by omega, by go_num, hbw2⟩
      case measure => simp [intOf]; omega
    · clear HR HR2
      go_wp2
      go_ret
      exact ⟨rfl, hbw⟩
theorem neq_pk (x : Pk) (w : World) : (binOp .neq 88 (.agg #[.bool x.ack, .int .i64 x.no, .string x.tx]) (.agg #[.bool x.ack, .int .i64 x.no, .string x.tx])).run Try.prog w = .ok (.bool false) w := by
  have u9 := Try.underlying9
  have a9 := Try.isAgg9
  have z9 := Try.sizeOf9
  have u3 := Try.underlying3
  have a3 := Try.isAgg3
  have z3 := Try.sizeOf3
  have u4 := Try.underlying4
  have a4 := Try.isAgg4
  have z4 := Try.sizeOf4
  have hS : Try.prog.underlying 88 = some (.struct (Try.prog.fieldsOf 88)) := by kernel_rfl
  have hp : Try.prog.stoodInHeld 88 = false := by kernel_rfl
  rw [run_neq_struct, show (10000 : Nat) = 9999 + 1 from rfl, run_equalIn_agg w 9999 88 _ _ hS hp]
  simp only [Program.fieldsOf, Try.underlying88]
  go_simp
theorem guard_pk (op : BinOp) (a b : Operand) (x y : Array Value) (w : World) : (eqGuard op 88 a b (.agg x) (.agg y)).run Try.prog w = .ok () w := run_eqGuard_agg w op 88 a b _ _ (by kernel_rfl)
set_option maxHeartbeats 1000000 in
theorem same_pks (v u : Value) (l : Pks) (w : World) (hv : PksOf w v l) (hu : PksOf w u l) (hn : l.length ≤ 1048576) :
    Calls Try.prog 34 #[v, u] w fun e w' => e = .returned (.bool true) ∧ Below w.heap.size w w' := by
  obtain ⟨a, cap, rfl, hr⟩ := hv
  obtain ⟨a2, cap2, rfl, hr2⟩ := hu
  have HR := hide hr
  have HR2 := hide hr2
  clear hr hr2
  go_enter Try.func34, Try.ntmps34
  go_wp2
  go_loopw [13] (fun i wr => ∃ k : Nat, k ≤ l.length ∧ i = .int .i64 k ∧ Below w.heap.size w wr) (fun i _ => l.length - (intOf i).toNat)
  case atStart => exact ⟨0, Nat.zero_le _, rfl, Below.refl _ _⟩
  case round =>
    obtain ⟨k, hk, rfl, hbw⟩ := hrel
    by_cases hlt : k < l.length
    · obtain ⟨b, off, rfl, hb, hrow⟩ := HR.out (by omega)
      obtain ⟨b2, off2, rfl, hb2, hrow2⟩ := HR2.out (by omega)
      obtain ⟨x, hx⟩ : ∃ x, l[k]? = some x := ⟨l[k], List.getElem?_eq_getElem hlt⟩
      obtain ⟨q0, q1, q2⟩ := (hrow k x hx).below hbw hb
      obtain ⟨r0, r1, r2⟩ := (hrow2 k x hx).below hbw hb2
      have k0 := cell_regrown q0
      have k1 := cell_regrown q1
      have k2 := cell_regrown q2
      have k3 := cell_regrown r0
      have k4 := cell_regrown r1
      have k5 := cell_regrown r2
      have hi0 : (0 : Int) ≤ (k : Int) := by omega
      have hi1 : (k : Int) < (l.length : Int) := by omega
      have hN := fun W => neq_pk x W
      have hG := fun a b W => guard_pk .neq a b #[.bool x.ack, .int .i64 x.no, .string x.tx] #[.bool x.ack, .int .i64 x.no, .string x.tx] W
      clear hrow hrow2 HR HR2 hx q0 q1 q2 r0 r1 r2
      go_wp2
      refine wp_region_quiet_below (by kernel_rfl) (by kernel_rfl) ?_
      repeat (go_big_quiet_step (simp only [hN, hG]))
      refine wpQuiet_nil ?_
      intro _ hw'
      obtain ⟨⟨dq, osq⟩, hw''⟩ := hw'
      subst hw''
      have hbw2 := hbw.trans ((below_regrown wr dq osq).mono hbw.size)
      go_wp2
      go_roundw
      case rel => exact ⟨k + 1, by omega, by go_num, hbw2⟩
      case measure => simp [intOf]; omega
    · clear HR HR2
      go_wp2
      go_ret
      exact ⟨rfl, hbw⟩
set_option maxHeartbeats 1000000 in
theorem draw_play (v : Value) (n : Nat) (f : Nat → Nat) (w : World) (hv : OctetsOf w v n f) (hn : n ≤ 1048576) :
    Calls Try.prog 31 #[v] w fun e w' => (∃ (x : Nat) (u : Value) (l : Lsts), e = .returned (.tuple #[.int .i64 (1 + (x : Int)), u]) ∧ x < 4 ∧ OwnL w' w.heap.size u l ∧ l.length ≤ 201 ∧ S12 l) ∧ Below w.heap.size w w' := by
  obtain ⟨a, cap, rfl⟩ := hv.form
  have hal := (Below.refl w.heap.size w).alloc (Nat.le_refl _) (.cells #[.slice a n cap, .int .i64 0, .int .u64 0] 84)
  have HC := hide (cur_new hv hn)
  have HB := hide hal
  clear hv hal
  go_enter Try.func31, Try.ntmps31
  go_wp2_with fail
  refine (cur_pick w.heap.size w.heap.size 0 4 _ HC.out (by omega) (by omega)).mono ?_
  rintro e w1 ⟨⟨x, hx, rfl⟩, hc1, ho1⟩
  have hx4 : x < 4 := by omega
  have hb1 := HB.out.trans (ho1.below (Nat.le_refl _) HB.out.size)
  have HC1 := hide hc1
  have HB1 := hide hb1
  clear hc1 ho1 HC HB hb1 hx
  go_wp2_with fail
  refine (cur_steps w.heap.size w.heap.size (0 + 1) _ HC1.out (by omega)).mono ?_
  rintro e w2 ⟨⟨u, l, rfl, ho, hl, hs⟩, hc2, ho2⟩
  have HF := hide (And.intro (ho.mono HB1.out.size) (And.intro hs (HB1.out.trans (ho2.below (Nat.le_refl _) HB1.out.size))))
  clear ho hs hc2 ho2 HC1 HB1
  go_wp2
  go_ret2
  exact ⟨⟨x, u, l, rfl, hx4, HF.out.1, hl, HF.out.2.1⟩, HF.out.2.2⟩
end Go.Proofs.Ytfjdbenbiakbbaa

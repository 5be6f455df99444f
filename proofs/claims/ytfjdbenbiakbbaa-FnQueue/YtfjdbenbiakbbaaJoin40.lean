/-
  What has come is a beginning of what was sent: FnQueue, walked.
-/
import Derived.Test.YtfjdbenbiakbbaaJoin39
namespace Go.Proofs.Ytfjdbenbiakbbaa
open Go.RowKit M
open Go.Sort (grow)
namespace M
theorem plQ_short2 (n : Int) (l : Lsts) : ShortQ (plQ n l) := by
  unfold plQ
  split
  · rename_i hp
    have hin : inB n 1 10 = true := by unfold plB at hp; rw [Bool.and_eq_true] at hp; exact hp.1
    exact (good_ply _ _ (good_new ((inB_iff _ _ _).1 hin).1 ((inB_iff _ _ _).1 hin).2)).short
  · exact ⟨by decide, by decide, by decide⟩
theorem plD_len2 (n : Int) (l : Lsts) : (plD n l).length ≤ 200 := by
  unfold plD
  split
  · rename_i hp
    rw [ply_len]
    unfold plB at hp; rw [Bool.and_eq_true] at hp; exact of_decide_eq_true hp.2
  · simp
end M
set_option maxRecDepth 20000 in
set_option maxHeartbeats 4000000 in
theorem law_fnQueue (v0 : Value) (n0 : Nat) (f0 : Nat → Nat) (v1 : Value) (n1 : Nat) (f1 : Nat → Nat) (w : World) (hv0 : OctetsOf w v0 n0 f0) (_hz0 : n0 < 2 ^ 47) (hv1 : OctetsOf w v1 n1 f1) (_hz1 : n1 < 2 ^ 47) :
    Calls Try.prog 7 #[v0, v1] w fun e w' => e = .returned (.bool true) ∧ Below w.heap.size w w' := by
  obtain ⟨a0, cap0, rfl⟩ := hv0.form
  obtain ⟨a1, cap1, rfl⟩ := hv1.form
  have HV0 := hide hv0
  have HV1 := hide hv1
  clear hv0 hv1
  by_cases hn : 1048576 < n0 + n1
  · have hn' : (1048576 : Int) < (n0 : Int) + (n1 : Int) := by omega
    go_enter Try.func7, Try.ntmps7
    go_wp2
    go_ret
    exact ⟨rfl, Below.refl _ _⟩
  have hn' : ¬ (1048576 : Int) < (n0 : Int) + (n1 : Int) := by omega
  go_enter Try.func7, Try.ntmps7
  go_wp2_with fail
  refine (draw_play _ n0 f0 _ HV0.out (by omega)).mono ?_
  rintro e w1 ⟨⟨x, u, l, rfl, hx, hO, hl, hs⟩, hb1⟩
  obtain ⟨au, cu', rfl⟩ := hO.form
  have HU := hide hO.lsts
  have HLN := hide (show LenL l from ⟨by unfold maxLen; omega, fun d hd => by have := hs d hd; unfold maxLen; omega⟩)
  have HB1 := hide hb1
  obtain ⟨q, ds, ok, hrb⟩ : ∃ (q : Qu) (ds : List Bool) (ok : Bool), plQ (1 + (x : Int)) l = q ∧ plD (1 + (x : Int)) l = ds ∧ plB (1 + (x : Int)) l = ok := ⟨_, _, _, rfl, rfl, rfl⟩
  have HRB := hide hrb
  have HRS := hide (show ShortQ q from hrb.1 ▸ plQ_short2 _ _)
  have hds : ds.length ≤ 200 := hrb.2.1 ▸ plD_len2 _ _
  have hoo : (ok != ok) = false := by simp
  have hbb : (q.base != q.base) = false := by simp
  clear hO hs hb1 hrb HV0
  go_wp2_with fail
  refine (impl_play _ _ l _ HU.out HLN.out).mono ?_
  rw [HRB.out.1, HRB.out.2.1, HRB.out.2.2]
  rintro e w2 ⟨⟨u1, u3, u4, ub, rfl, hA, hO, -⟩, hb⟩
  obtain ⟨x1, k1, rfl⟩ := hA.o1.form
  obtain ⟨x3, k3, rfl⟩ := hA.o3.form
  obtain ⟨x4, k4, rfl⟩ := hA.o4.form
  obtain ⟨xb, kb, rfl⟩ := hO.form
  have hqb := QB.new hA
  have hd := (Below.refl w2.heap.size w2).alloc (Nat.le_refl _) (.cells (qarr (.slice x1 q.sent.length k1) (.slice x3 q.got.length k3) (.slice x4 q.line.length k4) q) 32)
  have hbo := hO.bls.below hd
  have hu := (HU.out.below hb).below hd
  have hbl := HB1.out.trans ((hb.trans (hd.mono hb.size)).mono HB1.out.size)
  clear hb hd hA hO HU HB1
  go_upto_region 5 with fail
  obtain ⟨gx, hg⟩ : ∃ g, w2.heap.size = g := ⟨_, rfl⟩
  obtain ⟨w3, hW⟩ : ∃ W, w2.alloc (.cells (qarr (.slice x1 q.sent.length k1) (.slice x3 q.got.length k3) (.slice x4 q.line.length k4) q) 32) = W := ⟨_, rfl⟩
  rw [hg] at hqb ⊢
  rw [hW] at hqb hbo hu hbl ⊢
  have HX := hide hqb
  have HXB := hide hbo
  have HU := hide hu
  have HB := hide hbl
  clear hg hW hqb hbo hu hbl
  go_wp2_with fail
  refine (spec_play _ _ l _ HU.out HLN.out).mono ?_
  rw [HRB.out.1, HRB.out.2.1, HRB.out.2.2]
  rintro e w4 ⟨⟨u1, u3, u4, ub, rfl, hA, hO, -⟩, hb⟩
  obtain ⟨z1, l1, rfl⟩ := hA.o1.form
  obtain ⟨z3, l3, rfl⟩ := hA.o3.form
  obtain ⟨z4, l4, rfl⟩ := hA.o4.form
  obtain ⟨zb, lb, rfl⟩ := hO.form
  have hqb := QB.new hA
  have hd := (Below.refl w4.heap.size w4).alloc (Nat.le_refl _) (.cells (qarr (.slice z1 q.sent.length l1) (.slice z3 q.got.length l3) (.slice z4 q.line.length l4) q) 32)
  have hbz := hO.bls.below hd
  have hx2 := (HX.out.down hb).down hd
  have hbo := (HXB.out.below hb).below hd
  have hu := (HU.out.below hb).below hd
  have hbl := HB.out.trans ((hb.trans (hd.mono hb.size)).mono HB.out.size)
  clear hb hd hA hO HU HB HX HXB
  go_upto_region 6 with fail
  obtain ⟨gz, hg⟩ : ∃ g, w4.heap.size = g := ⟨_, rfl⟩
  obtain ⟨w5, hW⟩ : ∃ W, w4.alloc (.cells (qarr (.slice z1 q.sent.length l1) (.slice z3 q.got.length l3) (.slice z4 q.line.length l4) q) 32) = W := ⟨_, rfl⟩
  rw [hg] at hqb ⊢
  rw [hW] at hqb hbo hbz hx2 hu hbl ⊢
  have HZ := hide (And.intro hqb hbz)
  have HX := hide (And.intro hx2 hbo)
  have HU := hide hu
  have HB := hide hbl
  clear hg hW hqb hbo hbz hx2 hu hbl
  go_wp2_with fail
  refine (same_bools _ _ ds _ HX.out.2 HZ.out.2 (by omega)).mono ?_
  rintro e w6 ⟨rfl, hb⟩
  have HZ6 := hide (And.intro (HZ.out.1.down hb) (HZ.out.2.below hb))
  have HX6 := hide (And.intro (HX.out.1.down hb) (HX.out.2.below hb))
  have HU6 := hide (HU.out.below hb)
  have HB6 := hide (HB.out.trans (hb.mono HB.out.size))
  clear hb HZ HX HU HB
  obtain ⟨⟨-, -, d2, d3, d4⟩, -⟩ := HX6.out.1.bx.pen
  obtain ⟨⟨-, -, e2, e3, e4⟩, -⟩ := HZ6.out.1.bx.pen
  go_wp2_with fail
  refine (same_txs _ _ q.got _ HX6.out.1.rd.g HZ6.out.1.rd.g HRS.out.g).mono ?_
  rintro e w7 ⟨rfl, hb⟩
  have HZ7 := hide (HZ6.out.1.down hb)
  have HX7 := hide (And.intro (HX6.out.1.down hb) (HX6.out.2.below hb))
  have HU7 := hide (HU6.out.below hb)
  have HB7 := hide (HB6.out.trans (hb.mono HB6.out.size))
  clear hb HZ6 HX6 HU6 HB6 d2 d3 d4 e2 e3 e4
  obtain ⟨⟨-, -, d2, d3, d4⟩, -⟩ := HX7.out.1.bx.pen
  obtain ⟨⟨-, -, e2, e3, e4⟩, -⟩ := HZ7.out.bx.pen
  go_wp2_with fail
  refine (same_pks _ _ q.line _ HX7.out.1.rd.l HZ7.out.rd.l HRS.out.l).mono ?_
  rintro e w8 ⟨rfl, hb⟩
  have HZ8 := hide (HZ7.out.down hb)
  have HX8 := hide (And.intro (HX7.out.1.down hb) (HX7.out.2.below hb))
  have HU8 := hide (HU7.out.below hb)
  have HB8 := hide (HB7.out.trans (hb.mono HB7.out.size))
  clear hb HZ7 HX7 HU7 HB7 d2 d3 d4 e2 e3 e4
  obtain ⟨⟨-, -, d2, -, -⟩, -⟩ := HX8.out.1.bx.pen
  obtain ⟨⟨-, -, e2, -, -⟩, -⟩ := HZ8.out.bx.pen
  go_upto_region 8 with fail
  clear HZ8 d2 e2
  go_upto_if 81 with fail
  go_cut [13, 14, 15, 16, 17] from 82 (fun _ _ _ _ _ wx => Hid (Below w.heap.size w wx))
  case first =>
    cases ok with
    | false =>
      go_wp2_with fail
      go_meet
      exact HB8
    | true =>
      have hpb := HRB.out.2.2
      have hq : (ply (newQ (1 + (x : Int))) l).1 = q := by have := HRB.out.1; unfold plQ at this; rwa [if_pos hpb] at this
      have hdsq : (ply (newQ (1 + (x : Int))) l).2 = ds := by have := HRB.out.2.1; unfold plD at this; rwa [if_pos hpb] at this
      have HGQ := hide (show GoodQ q from hq ▸ good_ply _ _ (good_new (by omega) (by omega)))
      have hdl : ds.length = l.length := by rw [← hdsq, ply_len]
      have HSENT := hide (show q.sent = putsOf l ds from by
        have := ply_sent l (newQ (1 + (x : Int)))
        rw [hq, hdsq] at this; simpa [newQ] using this)
      have HDL := hide hdl
      clear hq hdsq hpb hdl
      go_wp2_with fail
      go_loopw [13, 84] (fun o i wr => ∃ (k an ac : Nat) (ao : Option Addr), k ≤ l.length ∧ i = .int .i64 k ∧ o = .slice ao an ac ∧ Hid (OwnT wr w8.heap.size (.slice ao an ac) (putsOf (l.take k) (ds.take k))) ∧ Below w8.heap.size w8 wr) (fun _ i _ => l.length - (intOf i).toNat)
      case atStart => exact ⟨0, 0, 0, none, Nat.zero_le _, rfl, rfl, hide (by simpa [putsOf] using OwnT.nil _ _), Below.refl _ _⟩
      case round =>
        obtain ⟨k, an, ac, ao, hk, rfl, rfl, HO, hbw⟩ := hrel
        by_cases hlt : k < l.length
        · obtain ⟨s, hs⟩ : ∃ s, l[k]? = some s := ⟨l[k], List.getElem?_eq_getElem hlt⟩
          obtain ⟨d, hd⟩ : ∃ d, ds[k]? = some d := ⟨ds[k]'(by have := HDL.out; omega), List.getElem?_eq_getElem _⟩
          obtain ⟨a', c', he, hr⟩ := HU8.out
          simp only [Value.slice.injEq, true_and] at he
          obtain ⟨rfl, rfl⟩ := he
          obtain ⟨b, off, rfl, hb, hrow⟩ := hr (by omega)
          obtain ⟨c0, c1, c2⟩ := (hrow k s hs).below hbw hb
          obtain ⟨a2, cc2, he2, hr2⟩ := HX8.out.2
          simp only [Value.slice.injEq, true_and] at he2
          obtain ⟨rfl, rfl⟩ := he2
          obtain ⟨b2, off2, rfl, hb2, hrow2⟩ := hr2 (by have := HDL.out; omega)
          have HN := hide (show putsOf (l.take (k + 1)) (ds.take (k + 1)) = putsOf (l.take k) (ds.take k) ++ (if d = true ∧ s.kind = 1 then [s.tx] else []) from by
            rw [List.take_add_one, List.take_add_one, hs, hd]
            exact puts_snoc _ _ _ _ (by rw [List.length_take, List.length_take]; have := HDL.out; omega))
          have hpl : (putsOf (l.take k) (ds.take k)).length ≤ 300 := by have := puts_len (l.take k) (ds.take k); rw [List.length_take] at this; omega
          have hal := (Below.refl wr.heap.size wr).alloc (Nat.le_refl _) (.cells #[.int .i64 s.kind, .int .i64 s.k, .string s.tx] 36)
          have HO2 := hide (HO.out.down hal)
          have hbw2 := hbw.trans (hal.mono hbw.size)
          have k0 := (hbw2.cell (p := ⟨b2, off2 + k, none⟩) hb2).trans (hrow2 k d hd)
          obtain ⟨⟨y0, y1, y2⟩, -⟩ := (newT3 wr (.int .i64 s.kind) (.int .i64 s.k) (.string s.tx) 36).trp
          have hi0 : (0 : Int) ≤ (k : Int) := by omega
          have hi1 : (k : Int) < (l.length : Int) := by omega
          have hi2 : (k : Int) < (ds.length : Int) := by have := HDL.out; omega
          clear hrow hrow2 hr hr2 hs hd HO hal
          by_cases hy : d = true ∧ s.kind = 1
          · obtain ⟨rfl, hk1⟩ := hy
            have hkb : (s.kind == 1) = true := by simp [hk1]
            rw [if_pos ⟨rfl, hk1⟩] at HN
            clear hk1
            have hal3 := (Below.refl (wr.alloc (.cells #[.int .i64 s.kind, .int .i64 s.k, .string s.tx] 36)).heap.size (wr.alloc (.cells #[.int .i64 s.kind, .int .i64 s.k, .string s.tx] 36))).alloc (Nat.le_refl _) (.cells #[.string s.tx] 9)
            have HP4 := hide (HO2.out.down hal3)
            have hb4 := hbw2.trans (hal3.mono hbw2.size)
            have hlit := lit_txc (heap_alloc_new (wr.alloc (.cells #[.int .i64 s.kind, .int .i64 s.k, .string s.tx] 36)) (.cells #[.string s.tx] 9))
            rw [World.size_alloc] at hlit
            clear HO2 hbw2 hal3
            go_wp2_with (at_builtin; refine wpList_app _ rfl _ _ rfl w8.heap.size _ [s.tx] _ _ rfl HP4.out rfl hlit (by simp; omega) hb4.size ?_)
            intro a6 n6 c6 w9 hO6 hg6 hy6
            have HP6 := hide hO6
            have hb6 : Below w8.heap.size w8 w9 := ⟨hg6.os.trans hb4.os, hg6.tape.trans hb4.tape, hg6.output.trans hb4.output, Nat.le_trans hb4.size hg6.size, fun j hj => (hg6.block j (Nat.lt_of_lt_of_le hj hb4.size) (fun e => by have := (HP4.out.lt e.symm).1; omega)).trans (hb4.block j hj)⟩
            clear hO6 hg6 hy6 HP4 hlit hb4
            go_wp2
            go_roundw
            case rel =>
              exact ⟨k + 1, _, _, _, by omega, by go_num, rfl, by rw [HN.out]; exact HP6, hb6⟩
            case measure => simp [intOf]; omega
          · rw [if_neg hy, List.append_nil] at HN
            cases d with
            | false =>
              go_wp2
              go_roundw
              case rel => exact ⟨k + 1, _, _, _, by omega, by go_num, rfl, by rw [HN.out]; exact HO2, hbw2⟩
              case measure => simp [intOf]; omega
            | true =>
              have hkb : (s.kind == 1) = false := by
                have : ¬ s.kind = 1 := fun e => hy ⟨rfl, e⟩
                simp [this]
              go_wp2
              go_roundw
              case rel => exact ⟨k + 1, _, _, _, by omega, by go_num, rfl, by rw [HN.out]; exact HO2, hbw2⟩
              case measure => simp [intOf]; omega
        · have hke : k = l.length := by omega
          subst hke
          have hS : putsOf (l.take l.length) (ds.take l.length) = q.sent := by rw [HSENT.out, List.take_length, ← HDL.out, List.take_length]
          have hO : OwnT wr w8.heap.size (.slice ao an ac) q.sent := by rw [← hS]; exact HO.out
          have han := hO.len
          subst han
          have HXr := hide (HX8.out.1.down hbw)
          have HBr := hide (HB8.out.trans (hbw.mono HB8.out.size))
          have HOr := hide hO
          have HSM := hide (show ∀ x ∈ q.sent, x.size ≤ maxLen from HGQ.out.small)
          have HBQ := hide (show BP true (GoodQ q) from ⟨fun _ => HGQ.out, fun _ => rfl⟩)
          obtain ⟨⟨d0, d1, d2, d3, d4⟩, -⟩ := HXr.out.bx.pen
          clear HX8 HU8 HB8 HO hO hS hbw HSENT
          go_wp2_with fail
          refine (impl_waiting _ _ _ q true _ HXr.out.rd HXr.out.t1 HRS.out HSM.out HBQ.out).mono ?_
          rw [if_pos rfl]
          rintro e wi ⟨rfl, hb⟩
          have HX9 := hide (HXr.out.down hb)
          have HO9 := hide (HOr.out.down hb)
          have HB9 := hide (HBr.out.trans (hb.mono HBr.out.size))
          clear hb HXr HOr HBr d0 d1 d2 d3 d4
          have hg := HGQ.out
          have hgl : decide (List.length q.sent < List.length q.got) = false := by have := hg.gs; simp; omega
          have hgb : decide ((q.got.length : Int) < q.base) = false := by have := hg.bg; simp; omega
          have hgn : (((q.sent.length : Int) - (q.got.length : Int)) != ((q.sent.length : Int) - (q.got.length : Int))) = false := by simp
          have hw : IntKind.i64.wrap ((q.sent.length : Int) - (q.got.length : Int)) = (q.sent.length : Int) - (q.got.length : Int) := by have := hg.s40; have := hg.gs; rw [IntKind.wrap_i64]; omega
          have h40 := hg.s40
          have hgs := hg.gs
          have HTK := hide (got_take2 hg)
          clear hg HGQ
          obtain ⟨⟨c0, c1, c2, c3, c4⟩, -⟩ := HX9.out.bx.pen
          have d0 := cell_regrown c0
          have d1 := cell_regrown c1
          have d2 := cell_regrown c2
          have d3 := cell_regrown c3
          have d4 := cell_regrown c4
          have HE1 := hide (show ∀ d os, Calls Try.prog 33 #[.slice x1 q.sent.length k1, .slice ao q.sent.length ac] (grow (redrawn wi d) os) fun e w'' => e = .returned (.bool true) ∧ ∃ p : Regrown, w'' = grow (redrawn wi p.d) p.os from fun d os => Calls.regrown_of (same_txs _ _ q.sent _ (HX9.out.rd.s.below (below_regrown wi d os)) (HO9.out.txs.below (below_regrown wi d os)) (by omega)))
          have HE3 := hide (show ∀ d os, Calls Try.prog 35 #[qv (.slice x1 q.sent.length k1) (.slice x3 q.got.length k3) (.slice x4 q.line.length k4) q] (grow (redrawn wi d) os) fun e w'' => e = .returned (.bool true) ∧ ∃ p : Regrown, w'' = grow (redrawn wi p.d) p.os from fun d os => Calls.regrown_of (impl_goodQ _ _ _ q true _ (HX9.out.rd.below (below_regrown wi d os)) (HX9.out.t1.below (below_regrown wi d os)) HRS.out HSM.out HBQ.out))
          clear c0 c1 c2 c3 c4
          go_upto_region 17 with fail
          rcases HO9.out.split with ⟨he, hn⟩ | ⟨g, cap, he, hB, hgl2, hcap⟩
          · simp only [Value.slice.injEq] at he
            obtain ⟨rfl, hn0, rfl⟩ := he
            have hgn : q.got = [] := List.length_eq_zero_iff.1 (by omega)
            have hm0 : q.got.length ≤ 0 := by omega
            have HE2 := hide (show ∀ d os, Calls Try.prog 33 #[.slice x3 q.got.length k3, .slice none 0 0] (grow (redrawn wi d) os) fun e w'' => e = .returned (.bool true) ∧ ∃ p : Regrown, w'' = grow (redrawn wi p.d) p.os from fun d os => Calls.regrown_of (same_txs _ _ q.got _ (HX9.out.rd.g.below (below_regrown wi d os)) (by rw [hgn]; exact TxsOf.nil _ _ _) (by omega)))
            clear hn hgn hn0
            refine wp_region_quiet_below (by kernel_rfl) (by kernel_rfl) ?_
            repeat (go_big_quiet_step (first | with_reducible exact HE1.out _ _ | with_reducible exact HE2.out _ _ | with_reducible exact HE3.out _ _))
            refine wpQuiet_nil ?_
            intro _ hw'
            obtain ⟨⟨dq, osq⟩, hw''⟩ := hw'
            subst hw''
            have HZ := hide (HB9.out.trans ((below_regrown wi dq osq).mono HB9.out.size))
            clear HE1 HE2 HE3 HX9 HO9 HB9 d0 d1 d2 d3 d4 hgl hgb hw
            go_wp2_with fail
            go_meet
            exact HZ
          · simp only [Value.slice.injEq] at he
            obtain ⟨rfl, -, rfl⟩ := he
            have hTG : TxsOf wi (.slice (some ⟨g, 0, none⟩) q.got.length ac) q.got := ⟨_, ac, rfl, fun h0 => ⟨g, 0, rfl, hgl2, fun i y hy => by
              rw [Nat.zero_add]
              refine HO9.out.cell ?_
              rw [← HTK.out, List.getElem?_take] at hy
              split at hy
              · exact hy
              · cases hy⟩⟩
            have HE2 := hide (show ∀ d os, Calls Try.prog 33 #[.slice x3 q.got.length k3, .slice (some ⟨g, 0, none⟩) q.got.length ac] (grow (redrawn wi d) os) fun e w'' => e = .returned (.bool true) ∧ ∃ p : Regrown, w'' = grow (redrawn wi p.d) p.os from fun d os => Calls.regrown_of (same_txs _ _ q.got _ (HX9.out.rd.g.below (below_regrown wi d os)) (hTG.below (below_regrown wi d os)) (by omega)))
            have hga : q.got.length ≤ ac := by omega
            clear hTG hB hgl2 hcap
            refine wp_region_quiet_below (by kernel_rfl) (by kernel_rfl) ?_
            repeat (go_big_quiet_step (first | with_reducible exact HE1.out _ _ | with_reducible exact HE2.out _ _ | with_reducible exact HE3.out _ _))
            refine wpQuiet_nil ?_
            intro _ hw'
            obtain ⟨⟨dq, osq⟩, hw''⟩ := hw'
            subst hw''
            have HZ := hide (HB9.out.trans ((below_regrown wi dq osq).mono HB9.out.size))
            clear HE1 HE2 HE3 HX9 HO9 HB9 d0 d1 d2 d3 d4 hgl hgb hw
            go_wp2_with fail
            go_meet
            exact HZ
  case rest =>
  rename World => w9
  have HL := hcut
  clear hcut HX8 HU8 HB8 HLN HRB HRS
  go_wp2_with fail
  refine (draw_step _ n1 f1 _ (HV1.out.below HL.out) (by omega)).mono ?_
  rintro e wa ⟨⟨v1, v3, v4, p, s, rfl, hA, hsh, hsm, hst⟩, hb⟩
  obtain ⟨p1, c1, rfl⟩ := hA.o1.form
  obtain ⟨p3, c3, rfl⟩ := hA.o3.form
  obtain ⟨p4, c4, rfl⟩ := hA.o4.form
  have hqb := QB.new hA
  have hd1 := (Below.refl wa.heap.size wa).alloc (Nat.le_refl _) (.cells (qarr (.slice p1 p.sent.length c1) (.slice p3 p.got.length c3) (.slice p4 p.line.length c4) p) 32)
  have hd2 := (Below.refl (wa.alloc (.cells (qarr (.slice p1 p.sent.length c1) (.slice p3 p.got.length c3) (.slice p4 p.line.length c4) p) 32)).heap.size (wa.alloc (.cells (qarr (.slice p1 p.sent.length c1) (.slice p3 p.got.length c3) (.slice p4 p.line.length c4) p) 32))).alloc (Nat.le_refl _) (.cells #[.int .i64 s.kind, .int .i64 s.k, .string s.tx] 36)
  have hu := hqb.down hd2
  have hsb := newT3 (wa.alloc (.cells (qarr (.slice p1 p.sent.length c1) (.slice p3 p.got.length c3) (.slice p4 p.line.length c4) p) 32)) (.int .i64 s.kind) (.int .i64 s.k) (.string s.tx) 36
  rw [World.size_alloc] at hsb
  have hbl := HL.out.trans ((hb.trans ((hd1.trans (hd2.mono hd1.size)).mono hb.size)).mono HL.out.size)
  have HS := hide hsh
  have HM := hide hsm
  have HT := hide hst
  obtain ⟨gb, hgb⟩ := bp_ex (GoodQ p)
  obtain ⟨r, b, hrb, hrs, hbt⟩ : ∃ (r : Qu) (b : Bool), ((stepO p s gb).getD qu0 = r ∧ (stepO p s gb).isSome = b) ∧ ShortQ r ∧ (b = true → GoodQ r ∧ p.got.length ≤ r.got.length ∧ p.base ≤ r.base) := by
    refine ⟨_, _, ⟨rfl, rfl⟩, ?_, ?_⟩
    · cases gb with
      | false => exact (show ShortQ qu0 from ⟨by decide, by decide, by decide⟩)
      | true =>
        show ShortQ ((stp p s).getD qu0)
        cases h : stp p s with
        | none => exact (show ShortQ qu0 from ⟨by decide, by decide, by decide⟩)
        | some r => exact (good_stp (hgb.1 rfl) h).1.short
    · cases gb with
      | false => intro h; cases h
      | true =>
        show (stp p s).isSome = true → GoodQ ((stp p s).getD qu0) ∧ p.got.length ≤ ((stp p s).getD qu0).got.length ∧ p.base ≤ ((stp p s).getD qu0).base
        cases h : stp p s with
        | none => intro h; cases h
        | some r => intro _; exact good_stp (hgb.1 rfl) h
  have HGB := hide hgb
  have HRB := hide hrb
  have HRS := hide hrs
  have HBT := hide hbt
  have hbb2 : (b != b) = false := by simp
  clear hA hb hsh hsm hst hqb hd1 hd2 hgb hrb hrs hbt HL
  go_upto_region 20 with fail
  obtain ⟨gu, hg⟩ : ∃ g, wa.heap.size = g := ⟨_, rfl⟩
  obtain ⟨wB, hW⟩ : ∃ W, (wa.alloc (.cells (qarr (.slice p1 p.sent.length c1) (.slice p3 p.got.length c3) (.slice p4 p.line.length c4) p) 32)).alloc (.cells #[.int .i64 s.kind, .int .i64 s.k, .string s.tx] 36) = W := ⟨_, rfl⟩
  rw [hg] at hu hsb ⊢
  rw [hW] at hu hsb hbl ⊢
  have HU := hide hu
  have HSB := hide hsb
  have HB := hide hbl
  clear hg hW hu hsb hbl
  obtain ⟨⟨d0, d1, d2, d3, d4⟩, -⟩ := HU.out.bx.pen
  obtain ⟨⟨s0, s1, s2⟩, -⟩ := HSB.out.trp
  go_wp2_with fail
  refine (impl_step _ _ _ p s gb _ HU.out.rd HU.out.t1 HS.out HM.out HT.out HGB.out).mono ?_
  rw [HRB.out.1, HRB.out.2]
  rintro e wc ⟨⟨u1, u3, u4, rfl, hA⟩, hb⟩
  obtain ⟨m1, n1, rfl⟩ := hA.o1.form
  obtain ⟨m3, n3, rfl⟩ := hA.o3.form
  obtain ⟨m4, n4, rfl⟩ := hA.o4.form
  have hqb := QB.new hA
  have hd := (Below.refl wc.heap.size wc).alloc (Nat.le_refl _) (.cells (qarr (.slice m1 r.sent.length n1) (.slice m3 r.got.length n3) (.slice m4 r.line.length n4) r) 32)
  have hu := (HU.out.down hb).down hd
  have hsb := (HSB.out.down hb).down hd
  have hbl := HB.out.trans ((hb.trans (hd.mono hb.size)).mono HB.out.size)
  clear HU HSB HB hb hd hA d0 d1 d2 d3 d4 s0 s1 s2
  go_upto_region 21 with fail
  obtain ⟨gv, hg⟩ : ∃ g, wc.heap.size = g := ⟨_, rfl⟩
  obtain ⟨wD, hW⟩ : ∃ W, wc.alloc (.cells (qarr (.slice m1 r.sent.length n1) (.slice m3 r.got.length n3) (.slice m4 r.line.length n4) r) 32) = W := ⟨_, rfl⟩
  rw [hg] at hqb ⊢
  rw [hW] at hqb hu hsb hbl ⊢
  have HV := hide hqb
  have HU := hide hu
  have HSB := hide hsb
  have HB := hide hbl
  clear hg hW hqb hu hsb hbl
  obtain ⟨⟨d0, d1, d2, d3, d4⟩, -⟩ := HU.out.bx.pen
  obtain ⟨⟨s0, s1, s2⟩, -⟩ := HSB.out.trp
  go_wp2_with fail
  refine (spec_step _ _ _ p s gb _ HU.out.rc HS.out HM.out HT.out HGB.out).mono ?_
  rw [HRB.out.1, HRB.out.2]
  rintro e wE ⟨⟨u1, u3, u4, rfl, hA⟩, hb⟩
  obtain ⟨o1, t1, rfl⟩ := hA.o1.form
  obtain ⟨o3, t3, rfl⟩ := hA.o3.form
  obtain ⟨o4, t4, rfl⟩ := hA.o4.form
  have hqb := QB.new hA
  have hd := (Below.refl wE.heap.size wE).alloc (Nat.le_refl _) (.cells (qarr (.slice o1 r.sent.length t1) (.slice o3 r.got.length t3) (.slice o4 r.line.length t4) r) 32)
  have hu := (HU.out.down hb).down hd
  have hv := (HV.out.down hb).down hd
  have hbl := HB.out.trans ((hb.trans (hd.mono hb.size)).mono HB.out.size)
  clear HU HV HSB HB hb hd hA d0 d1 d2 d3 d4 s0 s1 s2
  go_upto_region 22 with fail
  obtain ⟨gw, hg⟩ : ∃ g, wE.heap.size = g := ⟨_, rfl⟩
  obtain ⟨wF, hW⟩ : ∃ W, wE.alloc (.cells (qarr (.slice o1 r.sent.length t1) (.slice o3 r.got.length t3) (.slice o4 r.line.length t4) r) 32) = W := ⟨_, rfl⟩
  rw [hg] at hqb ⊢
  rw [hW] at hqb hu hv hbl ⊢
  have HW := hide hqb
  have HU := hide hu
  have HV := hide hv
  have HB := hide hbl
  clear hg hW hqb hu hv hbl
  obtain ⟨⟨-, -, -, d3, d4⟩, -⟩ := HV.out.bx.pen
  obtain ⟨⟨-, -, -, e3, e4⟩, -⟩ := HW.out.bx.pen
  go_wp2_with fail
  refine (same_txs _ _ r.got _ HV.out.rd.g HW.out.rd.g HRS.out.g).mono ?_
  rintro e wG ⟨rfl, hb⟩
  have HW2 := hide (HW.out.down hb)
  have HU2 := hide (HU.out.down hb)
  have HV2 := hide (HV.out.down hb)
  have HB2 := hide (HB.out.trans (hb.mono HB.out.size))
  clear hb HW HU HV HB d3 d4 e3 e4
  obtain ⟨⟨-, -, -, d3, d4⟩, -⟩ := HV2.out.bx.pen
  obtain ⟨⟨-, -, -, e3, e4⟩, -⟩ := HW2.out.bx.pen
  go_wp2_with fail
  refine (same_pks _ _ r.line _ HV2.out.rd.l HW2.out.rd.l HRS.out.l).mono ?_
  rintro e wH ⟨rfl, hb⟩
  have HU3 := hide (HU2.out.down hb)
  have HV3 := hide (HV2.out.down hb)
  have HB3 := hide (HB2.out.trans (hb.mono HB2.out.size))
  clear hb HW2 HU2 HV2 HB2 d3 d4 e3 e4
  cases b with
  | false =>
    clear HU3 HV3
    go_wp2
    go_ret
    exact ⟨rfl, HB3.out⟩
  | true =>
    obtain ⟨hgr, hgl, hgbs⟩ := HBT.out rfl
    have hl1 : decide ((r.got.length : Int) ≥ (p.got.length : Int)) = true := decide_eq_true (by omega)
    have hl2 : decide ((p.got.length : Int) ≤ (r.got.length : Int)) = true := decide_eq_true (by omega)
    have hl3 : decide (p.base ≤ r.base) = true := decide_eq_true hgbs
    have HGR := hide (show BP true (GoodQ r) from ⟨fun _ => hgr, fun _ => rfl⟩)
    have HRM := hide (show ∀ x ∈ r.sent, x.size ≤ maxLen from hgr.small)
    clear hgr
    obtain ⟨⟨d0, d1, d2, d3, d4⟩, -⟩ := HV3.out.bx.pen
    obtain ⟨⟨-, -, e2, e3, -⟩, -⟩ := HU3.out.bx.pen
    go_wp2_with fail
    refine (impl_goodQ _ _ _ r true _ HV3.out.rd HV3.out.t1 HRS.out HRM.out HGR.out).mono ?_
    rintro e wI ⟨rfl, hb⟩
    have HU4 := hide (HU3.out.down hb)
    have HV4 := hide (HV3.out.down hb)
    have HZ := hide (HB3.out.trans (hb.mono HB3.out.size))
    clear hb HU3 HV3 HB3 d0 d1 d2 d3 d4 e2 e3
    obtain ⟨⟨-, -, d2, d3, -⟩, -⟩ := HV4.out.bx.pen
    obtain ⟨⟨-, -, e2, e3, -⟩, -⟩ := HU4.out.bx.pen
    clear HU4 HV4
    go_wp2
    go_ret
    exact ⟨rfl, HZ.out⟩
end Go.Proofs.Ytfjdbenbiakbbaa

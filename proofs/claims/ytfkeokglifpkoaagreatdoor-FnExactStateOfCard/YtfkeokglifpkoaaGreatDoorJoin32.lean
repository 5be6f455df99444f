/-
  Texts that follow one another, joined: RgF, BrYs, BrU.
-/
import Derived.Test.YtfkeokglifpkoaaGreatDoorJoin31
import Derived.Test.YtfkeokglifpkoaaGreatDoorJoin23
import Derived.Test.YtfkeokglifpkoaaGreatDoorJoin27
/-
  TakeCall in the program's text. Condition: the table knownKinds reads as its text lays it.
-/
namespace Go.Proofs.YtfkeokglifpkoaaGreatDoor
open Go.RowKit M
open Go.Sort (grow)
namespace M
theorem R2.chg {S : Nat → Prop} {w W W' : World} {id ver : Int} {v : Value} (h : R2 w W id ver v) (hc : Chg S W W') (hS : ∀ k, S k → w.heap.size + 2 ≤ k) : R2 w W' id ver v :=
  ⟨h.low.trans (hc.low (fun k hk => by have := hS k hk; omega) h.low.size), h.arg.chg hc (fun e => by have := hS _ e; omega), h.res.chg hc (fun e => by have := hS _ e; omega), Nat.le_trans h.big hc.size⟩
end M
set_option maxRecDepth 20000 in
set_option maxHeartbeats 4000000 in
theorem impl_call_no (id ver : Int) (v : Value) (bs : Brs) (k : Int) (x : ByteArray) (w : World) (hv : BrsOf w v bs) (hf : FineS bs) (hkk : KK w) (hb : BP false (GdR ⟨id, ver, bs⟩)) :
    Calls Tryz.prog 18 #[rv id ver v, .int .i64 k, .string x] w fun e w' => (∃ v ps, e = .returned (.tuple #[rv 0 0 v, .int .i64 1]) ∧ OwnP w' w.heap.size v ps ∧ bsP ps = []) ∧ Below w.heap.size w w' := by
  have HF := hide hf
  have HB := hide hb
  have HK := hide hkk
  obtain ⟨a1, c1, rfl⟩ := hv.form
  obtain ⟨W, hW⟩ : ∃ W, (w.alloc (.cells #[.int .i64 id, .int .i64 ver, .slice a1 bs.length c1] 34)).alloc (.cells #[.int .i64 0, .int .i64 0, .slice none 0 0] 34) = W := ⟨_, rfl⟩
  have HR := hide (show R2 w W id ver (.slice a1 bs.length c1) from by rw [← hW]; exact R2.new w _ _ _)
  have HV := hide (hv.below HR.out.low)
  have HW := hide hW
  obtain ⟨⟨d0, d1, d2⟩, -⟩ := HR.out.arg.tri
  rw [← hW] at d0 d1 d2
  clear hv hf hb hkk hW
  have HBX := hide HB.out
  go_enter Tryz.func18, Tryz.ntmps18
  go_wp2_with fail
  rw [HW.out]
  clear HW d0 d1 d2
  refine (impl_goodR id ver _ bs false _ HV.out HF.out (HK.out.below HR.out.low) HBX.out).mono ?_
  rintro e w1 ⟨rfl, hb1⟩
  have HR1 := hide (HR.out.down hb1)
  obtain ⟨WZ, hWZ⟩ : ∃ WZ, ((w1.setCell ⟨w.heap.size + 1, 0, none⟩ (.int .i64 0)).setCell ⟨w.heap.size + 1, 1, none⟩ (.int .i64 0)).setCell ⟨w.heap.size + 1, 2, none⟩ (.slice none 0 0) = WZ := ⟨_, rfl⟩
  obtain ⟨hz, hzb, -⟩ := HR1.out.fin (.int .i64 0) (.int .i64 0) (.slice none 0 0) WZ hWZ
  obtain ⟨⟨e0, e1, e2⟩, f0, f1, f2⟩ := HR1.out.res.tri
  have HWZ := hide hWZ
  have HZ := hide hz
  clear hz hWZ
  go_wp2
  rw [HWZ.out]
  clear e0 e1 e2 f0 f1 f2
  obtain ⟨⟨e0, e1, e2⟩, -⟩ := HZ.out.tri
  exact bodyPost_ret (v := .tuple #[rv 0 0 (.slice none 0 0), .int .i64 1]) (by simp [results, Tryz.results18, go_sem, e0, e1, e2]) rfl ⟨⟨_, [], rfl, OwnP.nil _ _, rfl⟩, hzb⟩
set_option maxRecDepth 20000 in
set_option maxHeartbeats 4000000 in
theorem impl_call_ok (my : St → Ev → Bool) (hmy : ∀ s e, BP (my s e) (May s e)) (id ver : Int) (v : Value) (bs : Brs) (k : Int) (x : ByteArray) (w : World) (hv : BrsOf w v bs) (hf : FineS bs) (hkk : KK w) (hb : GdR ⟨id, ver, bs⟩) (hx : x.size ≤ maxLen) :
    Calls Tryz.prog 18 #[rv id ver v, .int .i64 k, .string x] w fun e w' => (∃ v ps, e = .returned (.tuple #[rv id ver v, .int .i64 (tkc my ⟨id, ver, bs⟩ k x)]) ∧ OwnP w' w.heap.size v ps ∧ bsP ps = tkb my ⟨id, ver, bs⟩ k x) ∧ Below w.heap.size w w' := by
  have HF := hide hf
  have HB := hide hb
  have HK := hide hkk
  obtain ⟨a1, c1, rfl⟩ := hv.form
  obtain ⟨W, hW⟩ : ∃ W, (w.alloc (.cells #[.int .i64 id, .int .i64 ver, .slice a1 bs.length c1] 34)).alloc (.cells #[.int .i64 0, .int .i64 0, .slice none 0 0] 34) = W := ⟨_, rfl⟩
  have HR := hide (show R2 w W id ver (.slice a1 bs.length c1) from by rw [← hW]; exact R2.new w _ _ _)
  have HV := hide (hv.below HR.out.low)
  have HW := hide hW
  obtain ⟨⟨d0, d1, d2⟩, -⟩ := HR.out.arg.tri
  rw [← hW] at d0 d1 d2
  clear hv hf hb hkk hW
  have HBX := hide (show BP true (GdR ⟨id, ver, bs⟩) from ⟨fun _ => HB.out, fun _ => rfl⟩)
  have HMY := hide hmy
  clear hmy
  go_enter Tryz.func18, Tryz.ntmps18
  go_wp2_with fail
  rw [HW.out]
  clear HW d0 d1 d2
  refine (impl_goodR id ver _ bs true _ HV.out HF.out (HK.out.below HR.out.low) HBX.out).mono ?_
  rintro e w1 ⟨rfl, hb1⟩
  have HR1 := hide (HR.out.down hb1)
  have HV1 := hide (HV.out.below hb1)
  obtain ⟨⟨d0, d1, d2⟩, -⟩ := HR1.out.arg.tri
  clear hb1 HR HV
  go_wp2_with fail
  refine (keeper_of id ver _ bs _ HV1.out HF.out HB.out.2.2.1.2.1).mono ?_
  rintro e w3 ⟨⟨g, u, ps, rfl, hKP, hps⟩, hb3⟩
  subst hps
  have HR3 := hide (HR1.out.down hb3)
  have HKP := hide hKP
  have HB1 := hide HR1.out.big
  have hB13 := hb3.size
  clear hb3 hKP d0 d1 d2 HR1 HV1
  go_wp2_with fail
  refine (keeper_take my HMY.out id ver g w1.heap.size u ps k x _ HKP.out hB13 HB.out hx (HK.out.below HR3.out.low)).mono ?_
  rintro e w4 ⟨rfl, u4, ps4, hKP4, hps4, hch⟩
  have HR4 := hide (HR3.out.chg hch (fun q hq => Nat.le_trans HB1.out (HKP.out.ks q hq)))
  have HKP4 := hide hKP4
  have HPS4 := hide hps4
  clear hKP4 hps4 hch HR3 HKP
  go_wp2_with fail
  refine (keeper_region id ver g w1.heap.size u4 ps4 _ HKP4.out).mono ?_
  rintro e w5 ⟨rfl, hb5⟩
  obtain ⟨au, cu, rfl⟩ := HKP4.out.own.form
  have HR5 := hide (HR4.out.down hb5)
  have HO5 := hide (HKP4.out.own.down hb5)
  obtain ⟨WZ, hWZ⟩ : ∃ WZ, ((w5.setCell ⟨w.heap.size + 1, 0, none⟩ (.int .i64 id)).setCell ⟨w.heap.size + 1, 1, none⟩ (.int .i64 ver)).setCell ⟨w.heap.size + 1, 2, none⟩ (.slice au ps4.length cu) = WZ := ⟨_, rfl⟩
  obtain ⟨hz, hzb, hzo⟩ := HR5.out.fin (.int .i64 id) (.int .i64 ver) (.slice au ps4.length cu) WZ hWZ
  have HZO := hide (hzo _ _ _ HO5.out HB1.out)
  obtain ⟨⟨e0, e1, e2⟩, f0, f1, f2⟩ := HR5.out.res.tri
  have HWZ := hide hWZ
  have HZ := hide hz
  clear hz hWZ hzo hb5 HKP4 HR4 HR5 HO5
  go_wp2
  rw [HWZ.out]
  clear e0 e1 e2 f0 f1 f2
  obtain ⟨⟨e0, e1, e2⟩, -⟩ := HZ.out.tri
  exact bodyPost_ret (v := .tuple #[rv id ver (.slice au ps4.length cu), .int .i64 (tkc my ⟨id, ver, bsP ps⟩ k x)]) (by simp [results, Tryz.results18, go_sem, e0, e1, e2]) rfl ⟨⟨_, ps4, rfl, HZO.out, HPS4.out⟩, hzb⟩
end Go.Proofs.YtfkeokglifpkoaaGreatDoor

/-
  CurrentOf of the specification.
-/
namespace Go.Proofs.YtfkeokglifpkoaaGreatDoor
open Go.RowKit M
open Go.Sort (grow)
namespace M
theorem btr_gt {b o : Evs} (h : lv o < lv b) : btr b o = true := by unfold btr; rw [decide_eq_true h]; rfl
theorem btr_eq {b o : Evs} (h : lv o = lv b) : btr b o = decide (o.length ≤ b.length) := by
  unfold btr; rw [decide_eq_false (by omega), decide_eq_true h]; simp
theorem btr_lt {b o : Evs} (h : lv b < lv o) : btr b o = false := by
  unfold btr; rw [decide_eq_false (by omega), decide_eq_false (by omega)]; rfl
theorem cur_btr {bs : Brs} {k : Nat} {o b : Evs} (hb : bs[k]? = some b) (ho : bs[cur bs k]? = some o) : cur bs (k + 1) = if btr b o = true then k else cur bs k := by
  rw [cur, getD_at hb, getD_at ho]
def curI (bs : Brs) (k : Nat) : Int := if k = 0 then -1 else (cur bs k : Int)
end M
set_option maxRecDepth 20000 in
set_option maxHeartbeats 4000000 in
theorem spec_current (v : Value) (bs : Brs) (w : World) (hv : BrsOf w v bs) (hf : FineS bs) (hg : GdT bs) :
    Calls Tryz.prog 124 #[v] w fun e w' => e = .returned (.int .i64 (curI bs bs.length)) ∧ Below w.heap.size w w' := by
  have HV := hide hv
  have HF := hide hf
  have HG := hide hg
  have hn := hf.1
  obtain ⟨a, cap, rfl⟩ := hv.form
  clear hv hf hg
  go_enter Tryz.func124, Tryz.ntmps124
  go_wp2
  go_loopw [3, 11] (fun x i wr => ∃ (k : Nat) (z : Int), k ≤ bs.length ∧ i = .int .i64 k ∧ x = .int .i64 z ∧ Hid (z = curI bs k) ∧ Below w.heap.size w wr) (fun _ i _ => bs.length - (intOf i).toNat)
  case atStart => exact ⟨0, -1, Nat.zero_le _, rfl, rfl, hide rfl, Below.refl _ _⟩
  case round =>
    obtain ⟨k, z, hk, rfl, rfl, HZ, hbw⟩ := hrel
    by_cases hlt : k < bs.length
    · obtain ⟨es, he⟩ : ∃ e, bs[k]? = some e := ⟨bs[k], List.getElem?_eq_getElem hlt⟩
      obtain ⟨g, off, rfl, hlg, a2, c2, hc, hs⟩ := HV.out.at he
      have hcw := (hbw.cell (p := ⟨g, off + k, none⟩) hlg).trans hc
      have hal := (Below.refl wr.heap.size wr).alloc (Nat.le_refl _) (.cells #[.slice a2 es.length c2] 81)
      have hbq := hbw.trans (hal.mono hbw.size)
      by_cases hk0 : k = 0
      · have hz := HZ.out
        unfold curI at hz
        rw [if_pos hk0] at hz
        have hzl : z < 0 := by omega
        have HN := hide (show (k : Int) = curI bs (k + 1) by unfold curI; rw [if_neg (by omega), hk0, cur_one])
        clear HZ hk0 hz hc hs he hal
        go_wp2
        exact ⟨⟨k + 1, k, by omega, by go_num, rfl, HN, hbq⟩, by simp [intOf]; omega⟩
      · have hz := HZ.out
        unfold curI at hz
        rw [if_neg hk0] at hz
        obtain ⟨q, hq⟩ : ∃ q, cur bs k = q := ⟨_, rfl⟩
        rw [hq] at hz
        subst hz
        obtain ⟨o, ho⟩ := cur_at hk (by omega)
        have HCB := hide (cur_btr he ho)
        rw [hq] at ho
        obtain ⟨g', off', hgg, -, a3, c3, hc3, hs3⟩ := HV.out.at ho
        simp only [Option.some.injEq, Addr.mk.injEq, and_true] at hgg
        obtain ⟨rfl, rfl⟩ := hgg
        have hql := (List.getElem?_eq_some_iff.1 ho).1
        have hzl : ¬ ((q : Int) < 0) := by omega
        have hi0 : (0 : Int) ≤ (q : Int) := by omega
        have hi1 : (q : Int) < (bs.length : Int) := by omega
        have q1 := (hbq.cell (p := ⟨g, off + q, none⟩) hlg).trans hc3
        have hpe := (HG.out.2.1 es (List.mem_of_getElem? he)).pos
        have hpo := (HG.out.2.1 o (List.mem_of_getElem? ho)).pos
        have hle := (HF.out.at he).1
        have hlo := (HF.out.at ho).1
        obtain ⟨je, hje⟩ : ∃ j, es.length - 1 = j := ⟨_, rfl⟩
        obtain ⟨jo, hjo⟩ : ∃ j, o.length - 1 = j := ⟨_, rfl⟩
        obtain ⟨x, hx⟩ : ∃ x, es[je]? = some x := ⟨es[je]'(by omega), List.getElem?_eq_getElem _⟩
        obtain ⟨y, hy⟩ : ∃ y, o[jo]? = some y := ⟨o[jo]'(by omega), List.getElem?_eq_getElem _⟩
        obtain ⟨a2', c2', hv2, hr2⟩ := hs
        obtain ⟨a3', c3', hv3, hr3⟩ := hs3
        simp only [Value.slice.injEq, true_and] at hv2 hv3
        obtain ⟨rfl, rfl⟩ := hv2
        obtain ⟨rfl, rfl⟩ := hv3
        obtain ⟨g1, o1, rfl, hl1, hrow1⟩ := hr2 (by intro h; subst h; simp at hpe)
        obtain ⟨g2, o2, rfl, hl2, hrow2⟩ := hr3 (by intro h; subst h; simp at hpo)
        have e1 := ((hrow1 je x hx).below hbq hl1).2.1
        have e2 := ((hrow2 jo y hy).below hbq hl2).2.1
        have hse : (es.length : Int) - 1 = (je : Int) := by omega
        have hso : (o.length : Int) - 1 = (jo : Int) := by omega
        have hj0 : (0 : Int) ≤ (je : Int) := by omega
        have hj1 : (je : Int) < (es.length : Int) := by omega
        have hj2 : (0 : Int) ≤ (jo : Int) := by omega
        have hj3 : (jo : Int) < (o.length : Int) := by omega
        have hlve := lv_at (show es[es.length - 1]? = some x by rw [hje]; exact hx)
        have hlvo := lv_at (show o[o.length - 1]? = some y by rw [hjo]; exact hy)
        have HQ := hide hq
        rcases (show y.ver < x.ver ∨ y.ver = x.ver ∨ x.ver < y.ver by omega) with h | h | h
        · have hg1 : x.ver > y.ver := h
          have HN := hide (show (k : Int) = curI bs (k + 1) by
            unfold curI
            rw [if_neg (by omega), HCB.out, btr_gt (by omega), if_pos rfl])
          clear HZ hk0 hc hc3 hr2 hr3 hrow1 hrow2 hx hy he ho hal hq hje hjo hlve hlvo HCB hpe hpo
          go_wp2
          exact ⟨⟨k + 1, k, by omega, by go_num, rfl, HN, hbq⟩, by simp [intOf]; omega⟩
        · have hg1 : ¬ x.ver > y.ver := by omega
          have hg2 : (x.ver == y.ver) = true := by simp [h]
          by_cases hll : o.length ≤ es.length
          · have hg3 : (es.length : Int) ≥ (o.length : Int) := by omega
            have HN := hide (show (k : Int) = curI bs (k + 1) by
              unfold curI
              rw [if_neg (by omega), HCB.out, btr_eq (by omega), decide_eq_true hll, if_pos rfl])
            clear HZ hk0 hc hc3 hr2 hr3 hrow1 hrow2 hx hy he ho hal hq hje hjo hlve hlvo HCB hpe hpo h
            go_wp2
            exact ⟨⟨k + 1, k, by omega, by go_num, rfl, HN, hbq⟩, by simp [intOf]; omega⟩
          · have hg3 : ¬ (es.length : Int) ≥ (o.length : Int) := by omega
            have HN := hide (show (q : Int) = curI bs (k + 1) by
              unfold curI
              rw [if_neg (by omega), HCB.out, btr_eq (by omega), decide_eq_false hll, if_neg (by simp), HQ.out])
            clear HZ hk0 hc hc3 hr2 hr3 hrow1 hrow2 hx hy he ho hal hq hje hjo hlve hlvo HCB hpe hpo h
            go_wp2
            exact ⟨⟨k + 1, q, by omega, by go_num, rfl, HN, hbq⟩, by simp [intOf]; omega⟩
        · have hg1 : ¬ x.ver > y.ver := by omega
          have hg2 : (x.ver == y.ver) = false := by simp; omega
          have HN := hide (show (q : Int) = curI bs (k + 1) by
            unfold curI
            rw [if_neg (by omega), HCB.out, btr_lt (by omega), if_neg (by simp), HQ.out])
          clear HZ hk0 hc hc3 hr2 hr3 hrow1 hrow2 hx hy he ho hal hq hje hjo hlve hlvo HCB hpe hpo h
          go_wp2
          exact ⟨⟨k + 1, q, by omega, by go_num, rfl, HN, hbq⟩, by simp [intOf]; omega⟩
    · obtain rfl : k = bs.length := by omega
      have HZ2 := hide HZ.out
      clear HV HZ
      go_wp2
      go_ret
      exact ⟨ret_int (by rw [HZ2.out]), hbw⟩
end Go.Proofs.YtfkeokglifpkoaaGreatDoor

/-
  AddBranch and MergeTellings of the program. Condition: the table knownKinds reads as its text lays it.
-/
namespace Go.Proofs.YtfkeokglifpkoaaGreatDoor
open Go.RowKit M
open Go.Sort (grow)
namespace M
theorem OwnP.ans {w : World} {B : Nat} {v : Value} {ps : Prs} {ok : Bool} {l bs : Brs} (h : OwnP w B v ps) (hb : bsP ps = bs) (hl : (ok = true → l = bs) ∧ (ok = false → l = [])) : ∃ ps', OwnP w B (if ok = true then v else .slice none 0 0) ps' ∧ bsP ps' = l := by
  cases ok
  · exact ⟨[], OwnP.nil _ _, by rw [hl.2 rfl]; rfl⟩
  · exact ⟨ps, h, by rw [hl.1 rfl]; exact hb⟩
end M
set_option maxRecDepth 20000 in
set_option maxHeartbeats 4000000 in
theorem impl_mge (v u : Value) (ls bs : Brs) (ok : Bool) (l : Brs) (w : World) (hv : BrsOf w v ls) (hu : BrsOf w u bs) (hf : FineS ls) (hf2 : FineS bs) (hkk : KK w) (hb : BP ok (GdT ls ∧ GdT bs ∧ (mge ls bs).length ≤ 12)) (hl : (ok = true → l = mge ls bs) ∧ (ok = false → l = [])) :
    Calls Tryz.prog 68 #[.agg #[v], .agg #[u]] w fun e w' => TlA w' w.heap.size e ok l ∧ Below w.heap.size w w' := by
  obtain ⟨a1, c1, rfl⟩ := hv.form
  obtain ⟨a2, c2, rfl⟩ := hu.form
  obtain ⟨W, hW⟩ : ∃ W, ((w.alloc (.cells #[.slice a1 ls.length c1] 32)).alloc (.cells #[.slice a2 bs.length c2] 32)).alloc (.cells #[.slice none 0 0] 32) = W := ⟨_, rfl⟩
  obtain ⟨m0, m1, m2, hal, hsz⟩ := three1 w _ _ _ _ _ _ W hW.symm
  have HV := hide (hv.below hal)
  have HU := hide (hu.below hal)
  have HF := hide hf
  have HF2 := hide hf2
  have HB := hide hb
  have HL := hide hl
  have HK := hide (hkk.below hal)
  have HAL := hide hal
  have HM0 := hide m0
  have HM1 := hide m1
  have HM2 := hide m2
  have HW := hide hW
  have HSZ := hide hsz
  have d0 : (((w.alloc (.cells #[.slice a1 ls.length c1] 32)).alloc (.cells #[.slice a2 bs.length c2] 32)).alloc (.cells #[.slice none 0 0] 32)).cell? ⟨w.heap.size, 0, none⟩ = some (.slice a1 ls.length c1) := by rw [hW]; exact m0.cell
  obtain ⟨gb, hgb⟩ := bp_ex (GdT ls)
  have HGB := hide hgb
  obtain ⟨tb, htb⟩ := bp_ex (GdT bs)
  have HTB := hide htb
  clear hv hu hf hf2 hkk hb hl hgb htb hW hal m0 m1 m2 hsz
  cases gb
  · have HN := hide (show ok = false from HB.out.no (fun h => by have := HGB.out.yes h.1; cases this))
    have HN2 := hide (HL.out.2 HN.out)
    go_enter Tryz.func68, Tryz.ntmps68
    go_wp2_with fail
    rw [HW.out]
    refine (impl_gt _ ls false _ HV.out HF.out HK.out HGB.out).mono ?_
    rintro e w2 ⟨rfl, hb2⟩
    have r1 := (HM2.out.down hb2).cell
    have r2 := (HM2.out.down hb2).thaw
    have hbw := HAL.out.trans (hb2.mono HAL.out.size)
    clear hb2 d0
    go_wp2
    exact bodyPost_ret (v := .tuple #[.agg #[.slice none 0 0], .bool false]) (by simp [results, Tryz.results68, go_sem, r1]) rfl ⟨⟨_, [], by rw [HN.out], OwnP.nil _ _, HN2.out.symm⟩, hbw.setCell (by simp; omega) _⟩
  · have HG := hide (HGB.out.1 rfl)
    cases tb
    · have HN := hide (show ok = false from HB.out.no (fun h => by have := HTB.out.yes h.2.1; cases this))
      have HN2 := hide (HL.out.2 HN.out)
      go_enter Tryz.func68, Tryz.ntmps68
      go_wp2_with fail
      rw [HW.out]
      refine (impl_gt _ ls true _ HV.out HF.out HK.out HGB.out).mono ?_
      rintro e w2 ⟨rfl, hb2⟩
      clear d0
      have d1 := (HM1.out.down hb2).cell
      go_wp2_with fail
      refine (impl_gt _ bs false _ (HU.out.below hb2) HF2.out (HK.out.below hb2) HTB.out).mono ?_
      rintro e w3 ⟨rfl, hb3⟩
      have hba := hb2.trans (hb3.mono hb2.size)
      have r1 := (HM2.out.down hba).cell
      have r2 := (HM2.out.down hba).thaw
      have hbw := HAL.out.trans (hba.mono HAL.out.size)
      clear hb2 hb3 hba d1
      go_wp2
      exact bodyPost_ret (v := .tuple #[.agg #[.slice none 0 0], .bool false]) (by simp [results, Tryz.results68, go_sem, r1]) rfl ⟨⟨_, [], by rw [HN.out], OwnP.nil _ _, HN2.out.symm⟩, hbw.setCell (by simp; omega) _⟩
    · have HT := hide (HTB.out.1 rfl)
      have h12 := HT.out.1
      have h13 := HG.out.1
      have HLN := hide (show ok = decide ((mge ls bs).length ≤ 12) from by
        rw [Bool.eq_iff_iff, decide_eq_true_eq]
        exact ⟨fun h => (HB.out.1 h).2.2, fun h => HB.out.2 ⟨HG.out, HT.out, h⟩⟩)
      go_enter Tryz.func68, Tryz.ntmps68
      go_wp2_with fail
      rw [HW.out]
      refine (impl_gt _ ls true _ HV.out HF.out HK.out HGB.out).mono ?_
      rintro e w2 ⟨rfl, hb2⟩
      clear d0
      have d1 := (HM1.out.down hb2).cell
      go_wp2_with fail
      refine (impl_gt _ bs true _ (HU.out.below hb2) HF2.out (HK.out.below hb2) HTB.out).mono ?_
      rintro e w3 ⟨rfl, hb3⟩
      have hba := hb2.trans (hb3.mono hb2.size)
      have hW3 := hba.size
      clear hb2 hb3 d1
      have d0 := (HM0.out.down hba).cell
      go_wp2_with fail
      refine (copy_brs _ ls _ (HV.out.below hba) HF.out HG.out.2.1).mono ?_
      rintro e w4 ⟨⟨r4, ps, rfl, hO4, hps⟩, hb4⟩
      have hW4 := hba.trans (hb4.mono hba.size)
      have HO4 := hide (hO4.mono hW3)
      have HPS := hide hps
      have HFM := hide hO4.form
      obtain ⟨a4, c4, rfl⟩ := hO4.form
      clear hba hb4 hO4 hps d0 hW3
      have d1 := (HM1.out.down hW4).cell
      go_wp2
      go_loopw [6, 24] (fun x i wr => ∃ (k : Nat) (qs : Prs) (aa : Option Addr) (ca : Nat), k ≤ bs.length ∧ i = .int .i64 k ∧ x = .slice aa qs.length ca ∧ Hid (OwnP wr W.heap.size (.slice aa qs.length ca) qs) ∧ Hid (bsP qs = mge ls (bs.take k)) ∧ Hid (Below W.heap.size W wr)) (fun _ i _ => bs.length - (intOf i).toNat)
      case atStart => exact ⟨0, ps, a4, c4, Nat.zero_le _, rfl, rfl, HO4, hide (by rw [HPS.out]; rfl), hide hW4⟩
      case round =>
        obtain ⟨k, qs, aa, ca, hk, rfl, rfl, HO, HQ, HWr⟩ := hrel
        clear HO4 hW4 HFM d1
        by_cases hlt : k < bs.length
        · obtain ⟨es, he⟩ : ∃ e, bs[k]? = some e := ⟨bs[k], List.getElem?_eq_getElem hlt⟩
          obtain ⟨g, off, rfl, hlg, a3, c3, hc, hs⟩ := HU.out.at he
          have hcw := (HWr.out.cell (p := ⟨g, off + k, none⟩) hlg).trans hc
          have hax := (Below.refl wr.heap.size wr).alloc (Nat.le_refl _) (.cells #[.slice a3 es.length c3] 81)
          have hWx := HWr.out.trans (hax.mono HWr.out.size)
          have hGU : GdU (bsP qs) := by rw [HQ.out]; exact mge_good HG.out.2 (fun x hx => HT.out.2.1 x (List.mem_of_mem_take hx))
          have hql : qs.length ≤ 24 := by
            have h1 := congrArg List.length HQ.out
            rw [bsP_len] at h1
            have h2 := mge_len (a := ls) (b := bs) k hk
            omega
          have HPB := hide (put_branch W W.heap.size _ (.slice a3 es.length c3) qs es _ (HO.out.down hax) hWx (Nat.le_refl _) hWx.size hs (by omega) hGU (HT.out.2.1 es (List.mem_of_getElem? he)))
          have HE := hide he
          clear hc hs he hax hWx hGU hql HO HWr
          go_wp2_with fail
          refine HPB.out.mono ?_
          rintro e w6 ⟨⟨r6, qs6, rfl, hO6, hq6⟩, hW6, -⟩
          have HQ6 := hide (show bsP qs6 = mge ls (bs.take (k + 1)) by rw [hq6, HQ.out, mge_snoc HE.out])
          have HO6 := hide hO6
          have HW6 := hide hW6
          obtain ⟨a6, c6, rfl⟩ := hO6.form
          clear hO6 hq6 hW6 HPB
          go_wp2
          exact ⟨⟨k + 1, qs6, a6, c6, by omega, by go_num, rfl, HO6, HQ6, HW6⟩, by simp [intOf]; omega⟩
        · obtain rfl : k = bs.length := by omega
          have hq := HQ.out
          rw [List.take_length] at hq
          have HPS5 := hide hq
          have hk5 : ok = decide (qs.length ≤ 12) := by
            have := congrArg List.length hq
            rw [bsP_len] at this
            rw [HLN.out, this]
          have HK5 := hide hk5
          have HF5 := hide HO.out.form
          clear hq hk5
          go_wp2_with fail
          refine (tellings_of _ qs ok _ HF5.out HK5.out).mono ?_
          rintro e w6 ⟨rfl, hb6⟩
          have hb7 := HWr.out.trans (hb6.mono HWr.out.size)
          have r1 := (HM2.out.down hb7).cell
          have r2 := (HM2.out.down hb7).thaw
          have HANS := hide (OwnP.ans (HO.out.down hb6) HPS5.out HL.out)
          obtain ⟨q, hq⟩ : ∃ q, (if ok = true then Value.slice aa qs.length ca else .slice none 0 0) = q := ⟨_, rfl⟩
          rw [hq] at HANS ⊢
          have hbw := HAL.out.trans (hb7.mono HAL.out.size)
          have HSZ2 := HSZ.out
          have hqs : ∃ a n c, q = .slice a n c := by rw [← hq]; cases ok <;> exact ⟨_, _, _, rfl⟩
          obtain ⟨qa, qn, qc, rfl⟩ := hqs
          clear hb6 hb7 hq HO HF5 HQ
          go_wp2
          refine bodyPost_ret (v := .tuple #[.agg #[.slice qa qn qc], .bool ok]) (by simp [results, Tryz.results68, go_sem, r1]) rfl ⟨?_, hbw.setCell (by simp; omega) _⟩
          obtain ⟨ps', h1, h2⟩ := HANS.out
          exact ⟨_, ps', rfl, (h1.set_low (by omega) _).mono (by omega), h2⟩
end Go.Proofs.YtfkeokglifpkoaaGreatDoor

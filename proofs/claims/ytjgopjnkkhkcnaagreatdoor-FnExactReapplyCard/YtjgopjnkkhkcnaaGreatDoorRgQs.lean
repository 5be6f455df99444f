/-
  Reapply in the specification's text.
-/
import Derived.Test.YtjgopjnkkhkcnaaGreatDoorRgG3
import Derived.Test.YtjgopjnkkhkcnaaGreatDoorRgQi
import Derived.Test.YtjgopjnkkhkcnaaGreatDoorBrLs
namespace Go.Proofs.YtjgopjnkkhkcnaaGreatDoor
open Go.RowKit M
open Go.Sort (grow)
namespace M
theorem own_low {w : World} {B g i : Nat} {v : Value} {l : Txs} (h : OwnT w B v l) (hg : g < B) (x : Value) : OwnT (w.setCell ⟨g, i, none⟩ x) B v l := own_set_low h hg x
theorem tkb_no {my : St → Ev → Bool} {r : Rg} {k : Int} {x : ByteArray} (h : tkc my r k x ≠ 0) : tkb my r k x = r.bs := by unfold tkb; rw [if_neg h]
/-- While names are put again: the region as it stands in its box, the names. -/
structure QS (my : St → Ev → Bool) (w W : World) (B nB : Nat) (u nv : Value) (ps : Prs) (ns : Txs) (bs : Brs) (id ver : Int) (k : Nat) : Prop where
  own : OwnP W B u ps
  eq : bsP ps = (rpl my id ver (ns.take k) (bs, 0)).1
  nm : OwnT W nB nv ns
  r2 : R2 w W id ver u
theorem QS.down {my : St → Ev → Bool} {w W W' : World} {B nB k : Nat} {u nv : Value} {ps : Prs} {ns : Txs} {bs : Brs} {id ver : Int} (h : QS my w W B nB u nv ps ns bs id ver k) (hb : Below W.heap.size W W') : QS my w W' B nB u nv ps ns bs id ver k :=
  ⟨h.own.down hb, h.eq, h.nm.down hb, h.r2.down hb⟩
end M
set_option maxRecDepth 20000 in
set_option maxHeartbeats 8000000 in
theorem spec_reapL (my : St → Ev → Bool) (hmy : ∀ s e, BP (my s e) (May s e)) (id ver : Int) (v : Value) (ps : Prs) (B : Nat) (w : World) (ho : OwnP w B v ps) (hB : B ≤ w.heap.size) (hg : GdR ⟨id, ver, bsP ps⟩) :
    Calls Tryz.prog 71 #[rv id ver v] w fun e w' => (∃ u ps', e = .returned (.tuple #[rv id ver u, .int .i64 ((rpA my ⟨id, ver, bsP ps⟩).2 : Int)]) ∧ OwnP w' B u ps' ∧ bsP ps' = (rpA my ⟨id, ver, bsP ps⟩).1) ∧ Below w.heap.size w w' := by
  have HG := hide hg
  have HMY := hide hmy
  obtain ⟨a1, c1, rfl⟩ := ho.form
  obtain ⟨W, hW⟩ : ∃ W, (w.alloc (.cells #[.int .i64 id, .int .i64 ver, .slice a1 ps.length c1] 32)).alloc (.cells #[.int .i64 0, .int .i64 0, .slice none 0 0] 32) = W := ⟨_, rfl⟩
  have HR := hide (show R2 w W id ver (.slice a1 ps.length c1) from by rw [← hW]; exact R2.new w _ _ _)
  have HO := hide (ho.down HR.out.low)
  have HW := hide hW
  obtain ⟨⟨d0, d1, d2⟩, -⟩ := HR.out.arg.tri
  rw [← hW] at d0 d1 d2
  obtain ⟨bs, hbs⟩ : ∃ bs, bsP ps = bs := ⟨_, rfl⟩
  obtain ⟨ns, hns⟩ : ∃ ns, lsl bs = ns := ⟨_, rfl⟩
  rw [hbs] at hg HG
  have hln : ns.length ≤ 360 := by rw [← hns]; exact lsl_len hg.2.2.1
  have HNM := hide (show ∀ x ∈ ns, x.size ≤ maxLen from by rw [← hns]; exact lsl_nm hg.2.2.1)
  have HRA := hide (show rpA my ⟨id, ver, bs⟩ = rpl my id ver ns (bs, 0) from by unfold rpA; rw [hns])
  have HNS := hide hns
  have HBS := hide hbs
  have HFB := hide (show FineS bs from hg.2.2.1.2.fine (by exact Nat.le_trans (show bs.length ≤ 12 from hg.2.2.1.1) (by omega)))
  rw [hbs, HRA.out]
  clear ho hg hmy hW hns hbs HRA
  go_enter Tryz.func71, Tryz.ntmps71
  go_wp2_with fail
  rw [HW.out]
  clear HW d0 d1 d2
  refine (spec_lost _ bs _ (by have := HO.out.brs; rwa [HBS.out] at this) HFB.out HG.out.2.2.1).mono ?_
  rintro e w5 ⟨⟨an, nn, cn, rfl, hN⟩, hb5⟩
  obtain ⟨ax, cx, hx3⟩ := hN.form
  simp only [Value.slice.injEq] at hx3
  obtain ⟨rfl, rfl, rfl⟩ := hx3
  rw [HNS.out] at hN ⊢
  have HQ := hide (show QS my w w5 B W.heap.size (.slice a1 ps.length c1) (.slice an ns.length cn) ps ns bs id ver 0 from ⟨HO.out.down hb5, by rw [HBS.out]; rfl, hN, HR.out.down hb5⟩)
  have hWw := HR.out.big
  clear hb5 hN HR HO HNS HBS HFB
  go_wp2_with fail
  go_loopw [4, 14] (fun m' i wr => ∃ (k m : Nat) (u : Value) (ps : Prs), k ≤ ns.length ∧ i = .int .i64 k ∧ m' = .int .i64 m ∧ (rpl my id ver (ns.take k) (bs, 0)).2 = m ∧ Hid (QS my w wr B W.heap.size u (.slice an ns.length cn) ps ns bs id ver k)) (fun _ i _ => ns.length - (intOf i).toNat)
  case atStart => exact ⟨0, 0, _, _, Nat.zero_le _, rfl, rfl, rfl, HQ⟩
  case round =>
    obtain ⟨k, m, u, ps, hk, rfl, rfl, hm, HQ⟩ := hrel
    obtain ⟨au, cu, rfl⟩ := HQ.out.own.form
    by_cases hlt : k < ns.length
    · obtain ⟨x, hx⟩ : ∃ x, ns[k]? = some x := ⟨ns[k], List.getElem?_eq_getElem hlt⟩
      obtain ⟨za, zc, hzv, hzr⟩ := HQ.out.nm.txs
      simp only [Value.slice.injEq, true_and] at hzv
      obtain ⟨hza, hzc'⟩ := hzv
      subst hza
      clear hzc'
      obtain ⟨zb, zo, rfl, hzl, hzc⟩ := hzr (by omega)
      have c0 := hzc k x hx
      have HX := hide hx
      have hxs := HNM.out x (List.mem_of_getElem? hx)
      have hBr : B ≤ wr.heap.size := Nat.le_trans hB HQ.out.r2.low.size
      have hgr : GdR ⟨id, ver, bsP ps⟩ := by rw [HQ.out.eq]; exact rpl_good HMY.out _ _ HG.out
      have HGR := hide hgr
      have hmb : m ≤ 360 := by
        have := rpl_len (my := my) (id := id) (ver := ver) (ns.take k) (bs, 0)
        rw [hm] at this
        simp at this; omega
      obtain ⟨⟨d0, d1, d2⟩, -⟩ := HQ.out.r2.arg.tri
      have HM := hide hm
      clear hzr hzc hx hgr hm
      go_wp2_with fail
      refine (spec_l16 my HMY.out id ver _ ps 2 x B _ HQ.out.own hBr HGR.out hxs).mono ?_
      rintro e w6 ⟨⟨u6, ps6, rfl, hO6, hps6⟩, hb6⟩
      obtain ⟨a6, c6, rfl⟩ := hO6.form
      have hsn := rpl_snoc (my := my) (id := id) (ver := ver) (s := (bs, 0)) HX.out
      obtain ⟨w7, hw7⟩ : ∃ w7, w6.alloc (.cells #[.int .i64 id, .int .i64 ver, .slice a6 ps6.length c6] 32) = w7 := ⟨_, rfl⟩
      have h67 : Below w6.heap.size w6 w7 := by rw [← hw7]; exact low1 _ _
      have HY := hide (show Blk w7 w6.heap.size 3 (q3 (.int .i64 id) (.int .i64 ver) (.slice a6 ps6.length c6)) 32 from by rw [← hw7]; exact new3 _ _ _ _ _)
      have HQ7 := hide ((HQ.out.down hb6).down h67)
      have HO7 := hide (hO6.down h67)
      have HPS := hide hps6
      have HSN := hide hsn
      have HW7 := hide hw7
      clear hb6 h67 hO6 hps6 hsn hw7 d0 d1 d2 c0
      go_upto_region 6 with fail
      rw [HW7.out]
      clear HW7
      by_cases hc : tkc my ⟨id, ver, bsP ps⟩ 2 x = 0
      · have hst := rps_yes (my := my) (id := id) (ver := ver) (s := rpl my id ver (ns.take k) (bs, 0)) (x := x) (by rw [← HQ.out.eq]; exact hc)
        have HST := hide hst
        rw [hc]
        obtain ⟨⟨p0, p1, p2⟩, -⟩ := HY.out.tri
        obtain ⟨⟨d0, d1, d2⟩, f0, f1, f2⟩ := HQ7.out.r2.arg.tri
        have HQ8 := hide (show QS my w (((w7.setCell ⟨w.heap.size, 0, none⟩ (.int .i64 id)).setCell ⟨w.heap.size, 1, none⟩ (.int .i64 ver)).setCell ⟨w.heap.size, 2, none⟩ (.slice a6 ps6.length c6)) B W.heap.size (.slice a6 ps6.length c6) (.slice (some ⟨zb, zo, none⟩) ns.length cn) ps6 ns bs id ver (k + 1) from by
          have hR := HQ7.out.r2
          refine ⟨((HO7.out.set_off hR.arg (by decide) (by decide) _).set_off (hR.arg.tri0 _) (by decide) (by decide) _).set_off ((hR.arg.tri0 _).tri1 _) (by decide) (by decide) _, by rw [HSN.out, HST.out, HPS.out, HQ.out.eq], own_low (own_low (own_low HQ7.out.nm (by omega) _) (by omega) _) (by omega) _, ⟨((hR.low.setCell (p := ⟨w.heap.size, 0, none⟩) (Nat.le_refl _) _).setCell (p := ⟨w.heap.size, 1, none⟩) (Nat.le_refl _) _).setCell (p := ⟨w.heap.size, 2, none⟩) (Nat.le_refl _) _, hR.arg.put3 _ _ _, ((hR.res.off (by omega) _).off (by omega) _).off (by omega) _, by simpa using hR.big⟩⟩)
        have HM8 := hide (show (rpl my id ver (ns.take (k + 1)) (bs, 0)).2 = m + 1 from by rw [HSN.out, HST.out]; simp only; rw [HM.out])
        clear hst HQ HQ7 HO7 HY HGR HX HPS HSN HST HM hc
        go_wp2
        exact ⟨⟨k + 1, m + 1, _, ps6, by omega, by go_num, by go_num, HM8.out, HQ8⟩, by simp [intOf]; omega⟩
      · have hst := rps_no (my := my) (id := id) (ver := ver) (s := rpl my id ver (ns.take k) (bs, 0)) (x := x) (by rw [← HQ.out.eq]; exact hc)
        have HST := hide hst
        have hcb : (tkc my ⟨id, ver, bsP ps⟩ 2 x == 0) = false := by simp [hc]
        have HQ8 := hide (show QS my w w7 B W.heap.size (.slice au ps.length cu) (.slice (some ⟨zb, zo, none⟩) ns.length cn) ps ns bs id ver (k + 1) from
          ⟨HQ7.out.own, by rw [HSN.out, HST.out]; simp only; rw [tkb_no (by rw [← HQ.out.eq]; exact hc)]; exact HQ.out.eq, HQ7.out.nm, HQ7.out.r2⟩)
        have HM8 := hide (show (rpl my id ver (ns.take (k + 1)) (bs, 0)).2 = m from by rw [HSN.out, HST.out]; exact HM.out)
        clear hst HQ HQ7 HO7 HY HGR HX HPS HSN HST HM hc
        go_wp2
        exact ⟨⟨k + 1, m, _, ps, by omega, by go_num, rfl, HM8.out, HQ8⟩, by simp [intOf]; omega⟩
    · obtain rfl : k = ns.length := by omega
      rw [List.take_length] at hm
      have heq := HQ.out.eq
      rw [List.take_length] at heq
      have HM := hide hm
      have HEQ := hide heq
      have HRr := hide HQ.out.r2
      have HOr := hide HQ.out.own
      obtain ⟨WZ, hWZ⟩ : ∃ WZ, ((wr.setCell ⟨w.heap.size + 1, 0, none⟩ (.int .i64 id)).setCell ⟨w.heap.size + 1, 1, none⟩ (.int .i64 ver)).setCell ⟨w.heap.size + 1, 2, none⟩ (.slice au ps.length cu) = WZ := ⟨_, rfl⟩
      obtain ⟨hz, hzb, -⟩ := HRr.out.fin (.int .i64 id) (.int .i64 ver) (.slice au ps.length cu) WZ hWZ
      have HZO := hide (show OwnP WZ B (.slice au ps.length cu) ps from by
        rw [← hWZ]; exact ((HOr.out.set_off HRr.out.res (by decide) (by decide) _).set_off (HRr.out.res.tri0 _) (by decide) (by decide) _).set_off ((HRr.out.res.tri0 _).tri1 _) (by decide) (by decide) _)
      obtain ⟨⟨d0, d1, d2⟩, -⟩ := HRr.out.arg.tri
      obtain ⟨⟨e0, e1, e2⟩, f0, f1, f2⟩ := HRr.out.res.tri
      have HWZ := hide hWZ
      have HZ := hide hz
      clear hz hWZ hm heq HQ HRr HOr
      go_wp2
      rw [HWZ.out]
      clear d0 d1 d2 e0 e1 e2 f0 f1 f2
      obtain ⟨⟨e0, e1, e2⟩, -⟩ := HZ.out.tri
      exact bodyPost_ret (v := .tuple #[rv id ver (.slice au ps.length cu), .int .i64 (m : Int)]) (by simp [results, Tryz.results71, go_sem, e0, e1, e2]) rfl ⟨⟨_, ps, by rw [HM.out], HZO.out, HEQ.out⟩, hzb⟩
set_option maxRecDepth 20000 in
set_option maxHeartbeats 8000000 in
theorem spec_reap_no (id ver : Int) (v : Value) (bs : Brs) (b : Bool) (w : World) (hv : BrsOf w v bs) (hf : FineS bs) (hco : CapOk v) (hb : BP b (GdR ⟨id, ver, bs⟩)) (hno : (b && (rgv ver == id)) = false) :
    Calls Tryz.prog 27 #[rv id ver v] w fun e w' => (∃ v ps, e = .returned (.tuple #[rv 0 0 v, .int .i64 0, .bool false]) ∧ OwnP w' w.heap.size v ps ∧ bsP ps = []) ∧ Below w.heap.size w w' := by
  have HF := hide hf
  have HB := hide hb
  have HCO := hide hco
  obtain ⟨a1, c1, rfl⟩ := hv.form
  obtain ⟨W, hW⟩ : ∃ W, (w.alloc (.cells #[.int .i64 id, .int .i64 ver, .slice a1 bs.length c1] 32)).alloc (.cells #[.int .i64 0, .int .i64 0, .slice none 0 0] 32) = W := ⟨_, rfl⟩
  have HR := hide (show R2 w W id ver (.slice a1 bs.length c1) from by rw [← hW]; exact R2.new w _ _ _)
  have HV := hide (hv.below HR.out.low)
  have HW := hide hW
  obtain ⟨⟨d0, d1, d2⟩, -⟩ := HR.out.arg.tri
  rw [← hW] at d0 d1 d2
  have HN := hide hno
  clear hv hf hb hco hW hno
  cases b
  · go_enter Tryz.func27, Tryz.ntmps27
    go_wp2_with fail
    rw [HW.out]
    clear HW d0 d1 d2
    refine (spec_goodR id ver _ bs false _ HV.out HF.out HCO.out HB.out).mono ?_
    rintro e w1 ⟨rfl, hb1⟩
    have HR1 := hide (HR.out.down hb1)
    obtain ⟨WZ, hWZ⟩ : ∃ WZ, ((w1.setCell ⟨w.heap.size + 1, 0, none⟩ (.int .i64 0)).setCell ⟨w.heap.size + 1, 1, none⟩ (.int .i64 0)).setCell ⟨w.heap.size + 1, 2, none⟩ (.slice none 0 0) = WZ := ⟨_, rfl⟩
    obtain ⟨hz, hzb, -⟩ := HR1.out.fin (.int .i64 0) (.int .i64 0) (.slice none 0 0) WZ hWZ
    obtain ⟨⟨e0, e1, e2⟩, f0, f1, f2⟩ := HR1.out.res.tri
    have HWZ := hide hWZ
    have HZ := hide hz
    clear hz hWZ
    go_wp2
    rw [HWZ.out]
    clear e0 e1 e2 f0 f1 f2
    obtain ⟨⟨e0, e1, e2⟩, -⟩ := HZ.out.tri
    exact bodyPost_ret (v := .tuple #[rv 0 0 (.slice none 0 0), .int .i64 0, .bool false]) (by simp [results, Tryz.results27, go_sem, e0, e1, e2]) rfl ⟨⟨_, [], rfl, OwnP.nil _ _, rfl⟩, hzb⟩
  · have hg : GdR ⟨id, ver, bs⟩ := HB.out.1 rfl
    have HVR := hide hg.2.1
    have HAC := hide (show (ver % 10 == id) = false from by
      have := HN.out
      rw [Bool.true_and, rgv_yes (inB_iff.2 hg.2.1)] at this; exact this)
    clear hg
    go_enter Tryz.func27, Tryz.ntmps27
    go_wp2_with fail
    rw [HW.out]
    clear HW d0 d1 d2
    refine (spec_goodR id ver _ bs true _ HV.out HF.out HCO.out HB.out).mono ?_
    rintro e w1 ⟨rfl, hb1⟩
    have HR1 := hide (HR.out.down hb1)
    have HV1 := hide (HV.out.below hb1)
    obtain ⟨⟨d0, d1, d2⟩, -⟩ := HR1.out.arg.tri
    clear hb1 HR HV
    go_wp2_with fail
    refine (spec_act id ver _ bs _ HV1.out HVR.out.1 HVR.out.2).mono ?_
    rw [HAC.out]
    rintro e w2 ⟨rfl, hb2⟩
    have HR2 := hide (HR1.out.down hb2)
    clear hb2 HR1 HV1 d0 d1 d2
    obtain ⟨WZ, hWZ⟩ : ∃ WZ, ((w2.setCell ⟨w.heap.size + 1, 0, none⟩ (.int .i64 0)).setCell ⟨w.heap.size + 1, 1, none⟩ (.int .i64 0)).setCell ⟨w.heap.size + 1, 2, none⟩ (.slice none 0 0) = WZ := ⟨_, rfl⟩
    obtain ⟨hz, hzb, -⟩ := HR2.out.fin (.int .i64 0) (.int .i64 0) (.slice none 0 0) WZ hWZ
    obtain ⟨⟨e0, e1, e2⟩, f0, f1, f2⟩ := HR2.out.res.tri
    have HWZ := hide hWZ
    have HZ := hide hz
    clear hz hWZ
    go_wp2
    rw [HWZ.out]
    clear e0 e1 e2 f0 f1 f2
    obtain ⟨⟨e0, e1, e2⟩, -⟩ := HZ.out.tri
    exact bodyPost_ret (v := .tuple #[rv 0 0 (.slice none 0 0), .int .i64 0, .bool false]) (by simp [results, Tryz.results27, go_sem, e0, e1, e2]) rfl ⟨⟨_, [], rfl, OwnP.nil _ _, rfl⟩, hzb⟩
set_option maxRecDepth 20000 in
set_option maxHeartbeats 8000000 in
theorem spec_reap_ok (my : St → Ev → Bool) (hmy : ∀ s e, BP (my s e) (May s e)) (id ver : Int) (v : Value) (bs : Brs) (w : World) (hv : BrsOf w v bs) (hf : FineS bs) (hco : CapOk v) (hb : GdR ⟨id, ver, bs⟩) (hact : (rgv ver == id) = true) :
    Calls Tryz.prog 27 #[rv id ver v] w fun e w' => (∃ v ps, e = .returned (.tuple #[rv id ver v, .int .i64 ((rpA my ⟨id, ver, bs⟩).2 : Int), .bool true]) ∧ OwnP w' w.heap.size v ps ∧ bsP ps = (rpA my ⟨id, ver, bs⟩).1) ∧ Below w.heap.size w w' := by
  have HF := hide hf
  have HB := hide hb
  have HCO := hide hco
  obtain ⟨a1, c1, rfl⟩ := hv.form
  obtain ⟨W, hW⟩ : ∃ W, (w.alloc (.cells #[.int .i64 id, .int .i64 ver, .slice a1 bs.length c1] 32)).alloc (.cells #[.int .i64 0, .int .i64 0, .slice none 0 0] 32) = W := ⟨_, rfl⟩
  have HR := hide (show R2 w W id ver (.slice a1 bs.length c1) from by rw [← hW]; exact R2.new w _ _ _)
  have HV := hide (hv.below HR.out.low)
  have HW := hide hW
  obtain ⟨⟨d0, d1, d2⟩, -⟩ := HR.out.arg.tri
  rw [← hW] at d0 d1 d2
  have HBX := hide (show BP true (GdR ⟨id, ver, bs⟩) from ⟨fun _ => HB.out, fun _ => rfl⟩)
  have HVR := hide HB.out.2.1
  have HAC := hide (show (ver % 10 == id) = true from by
    have := hact
    rw [rgv_yes (inB_iff.2 HB.out.2.1)] at this; exact this)
  have HMY := hide hmy
  clear hv hf hb hco hW hact hmy
  go_enter Tryz.func27, Tryz.ntmps27
  go_wp2_with fail
  rw [HW.out]
  clear HW d0 d1 d2
  refine (spec_goodR id ver _ bs true _ HV.out HF.out HCO.out HBX.out).mono ?_
  rintro e w1 ⟨rfl, hb1⟩
  have HR1 := hide (HR.out.down hb1)
  have HV1 := hide (HV.out.below hb1)
  obtain ⟨⟨d0, d1, d2⟩, -⟩ := HR1.out.arg.tri
  clear hb1 HR HV
  go_wp2_with fail
  refine (spec_act id ver _ bs _ HV1.out HVR.out.1 HVR.out.2).mono ?_
  rw [HAC.out]
  rintro e w2 ⟨rfl, hb2⟩
  have HR2 := hide (HR1.out.down hb2)
  have HV2 := hide (HV1.out.below hb2)
  clear hb2 HR1 HV1 d0 d1 d2
  obtain ⟨⟨d0, d1, d2⟩, -⟩ := HR2.out.arg.tri
  go_wp2_with fail
  refine (spec_own16 id ver _ bs _ HV2.out HB.out.2.2.1).mono ?_
  rintro e w4 ⟨⟨r, ps, rfl, hO, hps⟩, hb4⟩
  subst hps
  have HR4 := hide (HR2.out.down hb4)
  have HO4 := hide hO
  have HB1 := hide HR2.out.big
  have hs4 := hb4.size
  clear hO hb4 HR2 d0 d1 d2
  go_wp2_with fail
  refine (spec_reapL my HMY.out id ver r ps w2.heap.size _ HO4.out hs4 HB.out).mono ?_
  rintro e w5 ⟨⟨u, ps5, rfl, hO5, hps5⟩, hb5⟩
  obtain ⟨au, cu, rfl⟩ := hO5.form
  obtain ⟨w6, hw6⟩ : ∃ w6, w5.alloc (.cells #[.int .i64 id, .int .i64 ver, .slice au ps5.length cu] 32) = w6 := ⟨_, rfl⟩
  have h56 : Below w5.heap.size w5 w6 := by rw [← hw6]; exact low1 _ _
  have HY := hide (show Blk w6 w5.heap.size 3 (q3 (.int .i64 id) (.int .i64 ver) (.slice au ps5.length cu)) 32 from by rw [← hw6]; exact new3 _ _ _ _ _)
  have HR6 := hide ((HR4.out.down hb5).down h56)
  have HO6 := hide (hO5.down h56)
  have HPS := hide hps5
  have HW6 := hide hw6
  clear hb5 h56 hO5 hps5 HR4 HO4 hw6
  go_upto_region 4 with fail
  rw [HW6.out]
  clear HW6
  obtain ⟨⟨p0, p1, p2⟩, -⟩ := HY.out.tri
  obtain ⟨WZ, hWZ⟩ : ∃ WZ, ((w6.setCell ⟨w.heap.size + 1, 0, none⟩ (.int .i64 id)).setCell ⟨w.heap.size + 1, 1, none⟩ (.int .i64 ver)).setCell ⟨w.heap.size + 1, 2, none⟩ (.slice au ps5.length cu) = WZ := ⟨_, rfl⟩
  obtain ⟨hz, hzb, hzo⟩ := HR6.out.fin (.int .i64 id) (.int .i64 ver) (.slice au ps5.length cu) WZ hWZ
  have HZO := hide (hzo _ _ _ HO6.out HB1.out)
  obtain ⟨⟨e0, e1, e2⟩, f0, f1, f2⟩ := HR6.out.res.tri
  have HWZ := hide hWZ
  have HZ := hide hz
  clear hz hWZ hzo HR6 HO6 HY
  go_wp2
  rw [HWZ.out]
  clear p0 p1 p2 e0 e1 e2 f0 f1 f2
  obtain ⟨⟨e0, e1, e2⟩, -⟩ := HZ.out.tri
  exact bodyPost_ret (v := .tuple #[rv id ver (.slice au ps5.length cu), .int .i64 ((rpA my ⟨id, ver, bsP ps⟩).2 : Int), .bool true]) (by simp [results, Tryz.results27, go_sem, e0, e1, e2]) rfl ⟨⟨_, ps5, rfl, HZO.out, HPS.out⟩, hzb⟩
end Go.Proofs.YtjgopjnkkhkcnaaGreatDoor

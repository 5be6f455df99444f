/-
  Reapply in the program's text. Condition: the table knownKinds reads as its text lays it.
-/
import Derived.Test.YtjgopjnkkhkcnaaGreatDoorRgQ
import Derived.Test.YtjgopjnkkhkcnaaGreatDoorRgF
import Derived.Test.YtjgopjnkkhkcnaaGreatDoorBrP
namespace Go.Proofs.YtjgopjnkkhkcnaaGreatDoor
open Go.RowKit M
open Go.Sort (grow)
namespace M
theorem lsl_nm {bs : Brs} (hg : GdT bs) : ∀ x ∈ lsl bs, x.size ≤ maxLen := fun x hx => by
  obtain ⟨b, hb, hx'⟩ := lsl_mem hx
  exact nm12 ((hg.2.1 b hb).2.2.1.2.1.good (Nat.le_refl _)).2.2.1 x hx'
theorem one_blk (w : World) (v : Value) (t : TypeId) : Blk (w.alloc (.cells #[v] t)) w.heap.size 1 (fun _ => v) t := Blk.fresh _ _ _ _ _ rfl
theorem Blk.set1 {w : World} {g : Nat} {v : Value} {t : TypeId} (h : Blk w g 1 (fun _ => v) t) (u : Value) : Blk (w.setCell ⟨g, 0, none⟩ u) g 1 (fun _ => u) t :=
  (h.set 0 u).ext fun i hi => by
    obtain rfl : i = 0 := by omega
    rfl
theorem rps_yes {my : St → Ev → Bool} {id ver : Int} {s : Brs × Nat} {x : ByteArray} (h : tkc my ⟨id, ver, s.1⟩ 2 x = 0) : rps my id ver s x = (tkb my ⟨id, ver, s.1⟩ 2 x, s.2 + 1) := by unfold rps; rw [if_pos h]
theorem rps_no {my : St → Ev → Bool} {id ver : Int} {s : Brs × Nat} {x : ByteArray} (h : tkc my ⟨id, ver, s.1⟩ 2 x ≠ 0) : rps my id ver s x = (tkb my ⟨id, ver, s.1⟩ 2 x, s.2) := by unfold rps; rw [if_neg h]; rfl
/-- While names are put again: the keeper, the tally, the names. -/
structure QI (my : St → Ev → Bool) (w W : World) (B g tb nB : Nat) (nv v : Value) (ns : Txs) (bs : Brs) (id ver : Int) (k : Nat) : Prop where
  ex : ∃ u ps, KP W B g u ps id ver ∧ bsP ps = (rpl my id ver (ns.take k) (bs, 0)).1
  ta : Blk W tb 1 (fun _ => .int .i64 ((rpl my id ver (ns.take k) (bs, 0)).2 : Int)) 113
  nm : OwnT W nB nv ns
  r2 : R2 w W id ver v
theorem QI.down {my : St → Ev → Bool} {w W W' : World} {B g tb nB k : Nat} {nv v : Value} {ns : Txs} {bs : Brs} {id ver : Int} (h : QI my w W B g tb nB nv v ns bs id ver k) (hb : Below W.heap.size W W') : QI my w W' B g tb nB nv v ns bs id ver k := by
  obtain ⟨u, ps, h1, h2⟩ := h.ex
  exact ⟨⟨u, ps, h1.down hb, h2⟩, h.ta.down hb, h.nm.down hb, h.r2.down hb⟩
end M
set_option maxRecDepth 20000 in
set_option maxHeartbeats 8000000 in
theorem impl_reap_no (id ver : Int) (v : Value) (bs : Brs) (b : Bool) (w : World) (hv : BrsOf w v bs) (hf : FineS bs) (hkk : KK w) (hb : BP b (GdR ⟨id, ver, bs⟩)) (hno : (b && (rgv ver == id)) = false) :
    Calls Tryz.prog 28 #[rv id ver v] w fun e w' => (∃ v ps, e = .returned (.tuple #[rv 0 0 v, .int .i64 0, .bool false]) ∧ OwnP w' w.heap.size v ps ∧ bsP ps = []) ∧ Below w.heap.size w w' := by
  have HF := hide hf
  have HB := hide hb
  have HK := hide hkk
  obtain ⟨a1, c1, rfl⟩ := hv.form
  obtain ⟨W, hW⟩ : ∃ W, (w.alloc (.cells #[.int .i64 id, .int .i64 ver, .slice a1 bs.length c1] 32)).alloc (.cells #[.int .i64 0, .int .i64 0, .slice none 0 0] 32) = W := ⟨_, rfl⟩
  have HR := hide (show R2 w W id ver (.slice a1 bs.length c1) from by rw [← hW]; exact R2.new w _ _ _)
  have HV := hide (hv.below HR.out.low)
  have HW := hide hW
  obtain ⟨⟨d0, d1, d2⟩, -⟩ := HR.out.arg.tri
  rw [← hW] at d0 d1 d2
  have HN := hide hno
  clear hv hf hb hkk hW hno
  go_enter Tryz.func28, Tryz.ntmps28
  go_wp2_with fail
  rw [HW.out]
  clear HW d0 d1 d2
  refine (impl_active id ver _ bs b _ HV.out HF.out (HK.out.below HR.out.low) HB.out).mono ?_
  rw [HN.out]
  rintro e w1 ⟨rfl, hb1⟩
  have HR1 := hide (HR.out.down hb1)
  obtain ⟨WZ, hWZ⟩ : ∃ WZ, ((w1.setCell ⟨w.heap.size + 1, 0, none⟩ (.int .i64 0)).setCell ⟨w.heap.size + 1, 1, none⟩ (.int .i64 0)).setCell ⟨w.heap.size + 1, 2, none⟩ (.slice none 0 0) = WZ := ⟨_, rfl⟩
  obtain ⟨hz, hzb, -⟩ := HR1.out.fin (.int .i64 0) (.int .i64 0) (.slice none 0 0) WZ hWZ
  obtain ⟨⟨e0, e1, e2⟩, f0, f1, f2⟩ := HR1.out.res.tri
  have HWZ := hide hWZ
  have HZ := hide hz
  clear hz hWZ
  go_wp2
  rw [HWZ.out]
  clear e0 e1 e2 f0 f1 f2
  obtain ⟨⟨e0, e1, e2⟩, -⟩ := HZ.out.tri
  exact bodyPost_ret (v := .tuple #[rv 0 0 (.slice none 0 0), .int .i64 0, .bool false]) (by simp [results, Tryz.results28, go_sem, e0, e1, e2]) rfl ⟨⟨_, [], rfl, OwnP.nil _ _, rfl⟩, hzb⟩
set_option maxRecDepth 20000 in
set_option maxHeartbeats 8000000 in
theorem impl_reap_ok (my : St → Ev → Bool) (hmy : ∀ s e, BP (my s e) (May s e)) (id ver : Int) (v : Value) (bs : Brs) (w : World) (hv : BrsOf w v bs) (hf : FineS bs) (hkk : KK w) (hb : GdR ⟨id, ver, bs⟩) (hact : (rgv ver == id) = true) :
    Calls Tryz.prog 28 #[rv id ver v] w fun e w' => (∃ v ps, e = .returned (.tuple #[rv id ver v, .int .i64 ((rpA my ⟨id, ver, bs⟩).2 : Int), .bool true]) ∧ OwnP w' w.heap.size v ps ∧ bsP ps = (rpA my ⟨id, ver, bs⟩).1) ∧ Below w.heap.size w w' := by
  have HF := hide hf
  have HB := hide hb
  have HK := hide hkk
  obtain ⟨a1, c1, rfl⟩ := hv.form
  obtain ⟨W, hW⟩ : ∃ W, (w.alloc (.cells #[.int .i64 id, .int .i64 ver, .slice a1 bs.length c1] 32)).alloc (.cells #[.int .i64 0, .int .i64 0, .slice none 0 0] 32) = W := ⟨_, rfl⟩
  have HR := hide (show R2 w W id ver (.slice a1 bs.length c1) from by rw [← hW]; exact R2.new w _ _ _)
  have HV := hide (hv.below HR.out.low)
  have HW := hide hW
  obtain ⟨⟨d0, d1, d2⟩, -⟩ := HR.out.arg.tri
  rw [← hW] at d0 d1 d2
  have HBX := hide (show BP true (GdR ⟨id, ver, bs⟩) from ⟨fun _ => HB.out, fun _ => rfl⟩)
  have HACT := hide (show (true && (rgv ver == id)) = true from by rw [hact]; rfl)
  have HMY := hide hmy
  obtain ⟨ns, hns⟩ : ∃ ns, lsl bs = ns := ⟨_, rfl⟩
  have hln : ns.length ≤ 360 := by rw [← hns]; exact lsl_len HB.out.2.2.1
  have HNM := hide (show ∀ x ∈ ns, x.size ≤ maxLen from by rw [← hns]; exact lsl_nm HB.out.2.2.1)
  have HRA := hide (show rpA my ⟨id, ver, bs⟩ = rpl my id ver ns (bs, 0) from by unfold rpA; rw [hns])
  have HNS := hide hns
  rw [HRA.out]
  clear hv hf hb hkk hW hact hmy hns
  go_enter Tryz.func28, Tryz.ntmps28
  go_wp2_with fail
  rw [HW.out]
  clear HW d0 d1 d2
  refine (impl_active id ver _ bs true _ HV.out HF.out (HK.out.below HR.out.low) HBX.out).mono ?_
  rw [HACT.out]
  rintro e w1 ⟨rfl, hb1⟩
  have HR1 := hide (HR.out.down hb1)
  have HV1 := hide (HV.out.below hb1)
  obtain ⟨⟨d0, d1, d2⟩, -⟩ := HR1.out.arg.tri
  clear hb1 HR HV
  go_wp2_with fail
  refine (keeper_of id ver _ bs _ HV1.out HF.out HB.out.2.2.1.2.1).mono ?_
  rintro e w3 ⟨⟨g, u, ps, rfl, hKP, hps⟩, hb3⟩
  have HB1 := hide HR1.out.big
  have hB13 := hb3.size
  have hg3 : g < w3.heap.size := hKP.box.lt
  obtain ⟨W4, hW4⟩ : ∃ W4, w3.alloc (.cells #[.int .i64 0] 113) = W4 := ⟨_, rfl⟩
  have h34 : Below w3.heap.size w3 W4 := by rw [← hW4]; exact low1 _ _
  have HTA := hide (show Blk W4 w3.heap.size 1 (fun _ => .int .i64 0) 113 from by rw [← hW4]; exact one_blk _ _ _)
  have HKP := hide (hKP.down h34)
  have HR4 := hide ((HR1.out.down hb3).down h34)
  have HPS := hide hps
  have HW4 := hide hW4
  have h34s := h34.size
  clear hb3 hKP hps h34 d0 d1 d2 HR1 HV1 hW4
  obtain ⟨⟨y0, y1, y2⟩, -⟩ := HKP.out.box.tri
  go_upto_region 6 with fail
  rw [HW4.out]
  clear HW4
  go_wp2_with fail
  refine (tell_lost u bs _ (by have := HKP.out.own.brs; rwa [HPS.out] at this) HF.out (HK.out.below HR4.out.low) HB.out.2.2.1).mono ?_
  rintro e w5 ⟨⟨an, nn, cn, rfl, hN⟩, hb5⟩
  obtain ⟨ax, cx, hx3⟩ := hN.form
  simp only [Value.slice.injEq] at hx3
  obtain ⟨rfl, rfl, rfl⟩ := hx3
  rw [HNS.out] at hN ⊢
  have htg : g < w3.heap.size := hg3
  have HQ := hide (show QI my w w5 w1.heap.size g w3.heap.size W4.heap.size (.slice an ns.length cn) (.slice a1 bs.length c1) ns bs id ver 0 from
    ⟨⟨u, ps, HKP.out.down hb5, by rw [HPS.out]; rfl⟩, HTA.out.down hb5, hN, HR4.out.down hb5⟩)
  have h45s := hb5.size
  clear hb5 hN HR4 HKP HTA HPS y0 y1 y2 HRA HNS
  go_wp2_with fail
  go_loopw [27] (fun i wr => ∃ k : Nat, k ≤ ns.length ∧ i = .int .i64 k ∧ Hid (QI my w wr w1.heap.size g w3.heap.size W4.heap.size (.slice an ns.length cn) (.slice a1 bs.length c1) ns bs id ver k)) (fun i _ => ns.length - (intOf i).toNat)
  case atStart => exact ⟨0, Nat.zero_le _, rfl, HQ⟩
  case round =>
    obtain ⟨k, hk, rfl, HQ⟩ := hrel
    by_cases hlt : k < ns.length
    · obtain ⟨x, hx⟩ : ∃ x, ns[k]? = some x := ⟨ns[k], List.getElem?_eq_getElem hlt⟩
      obtain ⟨za, zc, hzv, hzr⟩ := HQ.out.nm.txs
      simp only [Value.slice.injEq, true_and] at hzv
      obtain ⟨hza, hzc'⟩ := hzv
      subst hza
      clear hzc'
      obtain ⟨zb, zo, rfl, hzl, hzc⟩ := hzr (by omega)
      have c0 := hzc k x hx
      have HX := hide hx
      have hxs := HNM.out x (List.mem_of_getElem? hx)
      have hws : w1.heap.size ≤ wr.heap.size := Nat.le_trans (by omega) (Nat.le_of_lt HQ.out.ta.lt)
      obtain ⟨u, ps, hKP, hps⟩ := HQ.out.ex
      have HKP := hide hKP
      have HPS := hide hps
      have hgr : GdR ⟨id, ver, bsP ps⟩ := by rw [hps]; exact rpl_good HMY.out _ _ HB.out
      have HGR := hide hgr
      have hkw : Below w.heap.size w wr := HQ.out.r2.low
      have HKK := hide (HK.out.below hkw)
      have hnt : ¬ KS g u w3.heap.size := by
        rintro (e | e)
        · omega
        · exact owns_ne_blk hKP.own.row HQ.out.ta (by decide) e
      have hnn : ∀ q, (Value.slice (some ⟨zb, zo, none⟩) ns.length cn).ownBlock = some q → ¬ KS g u q := fun q hq => by
        rintro (e | e)
        · have := (HQ.out.nm.lt hq).1; omega
        · exact owns_apart HQ.out.nm hKP.own.row (by decide) q hq e.symm
      have HNT := hide hnt
      have HNN := hide hnn
      clear hKP hps hzr hzc hx hgr hnt hnn hkw
      go_wp2_with fail
      refine (keeper_take my HMY.out id ver g w1.heap.size u ps 2 x _ HKP.out hws HGR.out hxs HKK.out).mono ?_
      rintro e w6 ⟨rfl, u6, ps6, hKP6, hps6, hch⟩
      have hsn := rpl_snoc (my := my) (id := id) (ver := ver) (s := (bs, 0)) HX.out
      have hTA6 := HQ.out.ta.chg hch HNT.out
      have hNM6 : OwnT w6 W4.heap.size (.slice (some ⟨zb, zo, none⟩) ns.length cn) ns := owns_chg HQ.out.nm hch HNN.out
      have hR6 := HQ.out.r2.chg hch (fun q hq => Nat.le_trans HB1.out (HKP.out.ks q hq))
      rw [HPS.out] at hps6
      have hmb : (rpl my id ver (ns.take k) (bs, 0)).2 ≤ 360 := by
        have := rpl_len (my := my) (id := id) (ver := ver) (ns.take k) (bs, 0)
        simp at this; omega
      obtain ⟨m, hm⟩ : ∃ m, (rpl my id ver (ns.take k) (bs, 0)).2 = m := ⟨_, rfl⟩
      rw [hm] at hTA6 hmb
      by_cases hc : tkc my ⟨id, ver, bsP ps⟩ 2 x = 0
      · have hst := rps_yes (my := my) (id := id) (ver := ver) (s := rpl my id ver (ns.take k) (bs, 0)) (x := x) (by rw [← HPS.out]; exact hc)
        rw [hst, hm] at hsn
        have HQ7 := hide (show QI my w (w6.setCell ⟨w3.heap.size, 0, none⟩ (.int .i64 ((m : Int) + 1))) w1.heap.size g w3.heap.size W4.heap.size (.slice (some ⟨zb, zo, none⟩) ns.length cn) (.slice a1 bs.length c1) ns bs id ver (k + 1) from by
          refine ⟨⟨u6, ps6, ⟨hKP6.box.off (by omega) _, hKP6.own.set_off hTA6 (by decide) (by decide) _, hKP6.lo⟩, by rw [hsn]; exact hps6⟩, ?_, owns_set hNM6 (owns_ne_blk hNM6 hTA6 (by decide)) 0 _, ⟨hR6.low.setCell (p := ⟨w3.heap.size, 0, none⟩) (by have := HB1.out; simp only; omega) _, hR6.arg.off (by have := HB1.out; omega) _, hR6.res.off (by have := HB1.out; omega) _, by simpa using hR6.big⟩⟩
          have := hTA6.set1 (.int .i64 ((m : Int) + 1))
          rw [hsn]; exact_mod_cast this)
        have HC6 := hide (count_yes w3.heap.size (m : Int) w6 (hTA6.cell (i := 0) (by omega)) (hTA6.thaw 0) (by omega) (by omega))
        rw [hc]
        clear hsn hTA6 hNM6 hR6 hps6 hm hKP6 hch hst c0 HQ HKP HPS HGR HKK HNT HNN
        go_wp2_with fail
        refine HC6.out.mono ?_
        rintro e w7 ⟨rfl, rfl⟩
        go_wp2
        exact ⟨⟨k + 1, by omega, by go_num, HQ7⟩, by simp [intOf]; omega⟩
      · have hst := rps_no (my := my) (id := id) (ver := ver) (s := rpl my id ver (ns.take k) (bs, 0)) (x := x) (by rw [← HPS.out]; exact hc)
        rw [hst, hm] at hsn
        have HQ7 := hide (show QI my w w6 w1.heap.size g w3.heap.size W4.heap.size (.slice (some ⟨zb, zo, none⟩) ns.length cn) (.slice a1 bs.length c1) ns bs id ver (k + 1) from
          ⟨⟨u6, ps6, hKP6, by rw [hsn]; exact hps6⟩, by rw [hsn]; exact hTA6, hNM6, hR6⟩)
        have HC6 := hide (count_no w3.heap.size _ w6 hc)
        clear hsn hTA6 hNM6 hR6 hps6 hm hKP6 hch hst c0 HQ HKP HPS HGR HKK HNT HNN
        go_wp2_with fail
        refine HC6.out.mono ?_
        rintro e w7 ⟨rfl, rfl⟩
        go_wp2
        exact ⟨⟨k + 1, by omega, by go_num, HQ7⟩, by simp [intOf]; omega⟩
    · obtain rfl : k = ns.length := by omega
      obtain ⟨u, ps, hKP, hps⟩ := HQ.out.ex
      rw [List.take_length] at hps
      have HKP := hide hKP
      have HPS := hide hps
      obtain ⟨au, cu, rfl⟩ := hKP.own.form
      have hta := HQ.out.ta
      rw [List.take_length] at hta
      obtain ⟨m, hm⟩ : ∃ m, (rpl my id ver ns (bs, 0)).2 = m := ⟨_, rfl⟩
      rw [hm] at hta
      have HTA := hide hta
      have HM := hide hm
      clear hKP hps hta hm
      go_wp2_with fail
      refine (keeper_region id ver g w1.heap.size _ ps _ HKP.out).mono ?_
      rintro e w6 ⟨rfl, hb6⟩
      have HR6 := hide (HQ.out.r2.down hb6)
      have HO6 := hide (HKP.out.own.down hb6)
      have hm6 := how_many w3.heap.size (m : Int) w6 ((HTA.out.down hb6).cell (i := 0) (by omega))
      have HM6 := hide hm6
      clear hm6 hb6 HKP HTA HQ
      go_wp2_with fail
      refine HM6.out.mono ?_
      rintro e w7 ⟨rfl, hw7⟩
      rw [hw7]
      clear hw7 w7
      obtain ⟨WZ, hWZ⟩ : ∃ WZ, ((w6.setCell ⟨w.heap.size + 1, 0, none⟩ (.int .i64 id)).setCell ⟨w.heap.size + 1, 1, none⟩ (.int .i64 ver)).setCell ⟨w.heap.size + 1, 2, none⟩ (.slice au ps.length cu) = WZ := ⟨_, rfl⟩
      obtain ⟨hz, hzb, hzo⟩ := HR6.out.fin (.int .i64 id) (.int .i64 ver) (.slice au ps.length cu) WZ hWZ
      have HZO := hide (hzo _ _ _ HO6.out HB1.out)
      obtain ⟨⟨e0, e1, e2⟩, f0, f1, f2⟩ := HR6.out.res.tri
      have HWZ := hide hWZ
      have HZ := hide hz
      clear hz hWZ hzo HR6 HO6
      go_wp2
      rw [HWZ.out]
      clear e0 e1 e2 f0 f1 f2
      obtain ⟨⟨e0, e1, e2⟩, -⟩ := HZ.out.tri
      exact bodyPost_ret (v := .tuple #[rv id ver (.slice au ps.length cu), .int .i64 (m : Int), .bool true]) (by simp [results, Tryz.results28, go_sem, e0, e1, e2]) rfl ⟨⟨_, ps, by rw [HM.out], HZO.out, HPS.out⟩, hzb⟩
end Go.Proofs.YtjgopjnkkhkcnaaGreatDoor

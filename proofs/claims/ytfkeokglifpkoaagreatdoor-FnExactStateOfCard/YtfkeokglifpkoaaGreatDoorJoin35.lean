/-
  A call in the specification's text: where its state is looked at.
-/
import Derived.Test.YtfkeokglifpkoaaGreatDoorJoin34
import Derived.Test.YtfkeokglifpkoaaGreatDoorJoin31
import Derived.Test.YtfkeokglifpkoaaGreatDoorJoin19
import Derived.Test.YtfkeokglifpkoaaGreatDoorJoin18
namespace Go.Proofs.YtfkeokglifpkoaaGreatDoor
open Go.RowKit M
open Clk (upd upd_same upd_other)
open Go.Sort (grow)
theorem four_blk {X : World} {b : Nat} {e : Ev} (h : X.heap[b]? = some (.cells (evarr e) 74 (0, 0))) : ∀ j u, (cellsE [e])[j]? = some u → X.cell? ((⟨b, 0, none⟩ : Addr).add j) = some u := by
  refine row_src (fun i y hy => ?_)
  cases i with
  | zero =>
    simp only [List.getElem?_cons_zero, Option.some.injEq] at hy
    subst hy
    exact ⟨by simp [World.cell?, h], by simp [World.cell?, h], by simp [World.cell?, h], by simp [World.cell?, h]⟩
  | succ i => simp at hy
set_option maxRecDepth 20000 in
set_option maxHeartbeats 16000000 in
theorem spec_call_last0 (my : St → Ev → Bool) (hmy : ∀ s e, BP (my s e) (May s e)) (id ver : Int) (v : Value) (ps : Prs) (k : Int) (x : ByteArray) (B : Nat) (w : World) (ho : OwnP w B v ps) (hB : B ≤ w.heap.size) (hg : GdR ⟨id, ver, bsP ps⟩) (hx : x.size ≤ maxLen) (hc : okC k x = true) (ha : ver % 10 = id) (hk : k ≠ 2) :
    Calls Tryz.prog 56 #[rv id ver v, .int .i64 k, .string x] w fun e w' => (∃ u ps', e = .returned (.tuple #[rv id ver u, .int .i64 (tkc my ⟨id, ver, bsP ps⟩ k x)]) ∧ OwnP w' B u ps' ∧ bsP ps' = tkb my ⟨id, ver, bsP ps⟩ k x) ∧ Below w.heap.size w w' := by
  have HG := hide hg
  have HX := hide hx
  have HMY := hide hmy
  obtain ⟨a1, c1, rfl⟩ := ho.form
  have HCO := hide (show ps.length ≤ c1 from ho.capOk)
  obtain ⟨W, hW⟩ : ∃ W, (w.alloc (.cells #[.int .i64 id, .int .i64 ver, .slice a1 ps.length c1] 34)).alloc (.cells #[.int .i64 0, .int .i64 0, .slice none 0 0] 34) = W := ⟨_, rfl⟩
  have HR := hide (show R2 w W id ver (.slice a1 ps.length c1) from by rw [← hW]; exact R2.new w _ _ _)
  have hdn : Below w.heap.size w W := HR.out.low
  have HO0 := hide ho
  have HO := hide (ho.down hdn)
  have HV := hide (show BrsOf W (.slice a1 ps.length c1) (bsP ps) from (ho.down hdn).brs)
  have HFN := hide (show FineS (bsP ps) from hg.2.2.1.2.fine (by exact Nat.le_trans (show (bsP ps).length ≤ 12 from hg.2.2.1.1) (by omega)))
  have HGT := hide (show GdT (bsP ps) from hg.2.2.1)
  have HVR := hide (show 0 ≤ ver ∧ ver ≤ 1000000 from hg.2.1)
  have HW := hide hW
  obtain ⟨⟨d0, d1, d2⟩, -⟩ := HR.out.arg.tri
  obtain ⟨⟨e0, e1, e2⟩, f0, f1, f2⟩ := HR.out.res.tri
  rw [← hW] at d0 d1 d2 e0 e1 e2 f0 f1 f2
  have h1 : inB k 1 6 = true := by unfold okC at hc; rw [Bool.and_eq_true] at hc; exact hc.1
  have h2 : goodName x.data.toList = true := by unfold okC at hc; rw [Bool.and_eq_true] at hc; exact hc.2
  obtain ⟨es, hes⟩ : ∃ es, cB (bsP ps) = es := ⟨_, rfl⟩
  obtain ⟨n, hn⟩ : ∃ n, es.length = n := ⟨_, rfl⟩
  obtain ⟨s, hs⟩ : ∃ s, stB (bsP ps) = s := ⟨_, rfl⟩
  have HES := hide hes
  have HNN := hide hn
  have HSS := hide hs
  have hh := cB_hist HGT.out
  rw [hes] at hh
  have hn60 : n ≤ 60 := by rw [← hn]; exact hh.1
  have hgs := stB_good HGT.out
  rw [hs] at hgs
  have HHI := hide hh
  have HGS := hide hgs
  have HE0 := hide (show evR ⟨id, ver, bsP ps⟩ k x = ⟨s.nx, ver, k, x⟩ from by unfold evR; rw [← hs])
  have HACT := hide (show (ver % 10 == id) = true by simp [ha])
  clear hes hn hs hh hgs
  have hkb : (k == 2) = false := by simp [hk]
  have HN := hide (show ¬ (k = 2 ∧ has (stB (bsP ps)).sg x = true) from fun hh => hk hh.1)
  have HOK := hide hc
  have HACT2 := hide ha
  obtain ⟨bm, hbm⟩ : ∃ bm, my (stB (bsP ps)) (evR ⟨id, ver, bsP ps⟩ k x) = bm := ⟨_, rfl⟩
  have HMYB := hide hbm
  have HBM := hide (show BP bm (May s ⟨s.nx, ver, k, x⟩) from by
    have h1 := hmy (stB (bsP ps)) (evR ⟨id, ver, bsP ps⟩ k x)
    rw [hbm, HE0.out, HSS.out] at h1; exact h1)
  clear ho hg hx hmy hW hc ha hk hbm
  go_enter Tryz.func56, Tryz.ntmps56
  go_wp2_with (first | (go_at_call 93; refine (spec_in _ _ _ _).mono ?_; rintro e w' ⟨rfl, rfl⟩; rw [h1]) | (go_at_call 99; refine (spec_name x _ HX.out).mono ?_; rintro e w' ⟨rfl, rfl⟩; rw [h2]))
  rw [HW.out]
  clear HW d0 d1 d2 e0 e1 e2 f0 f1 f2
  refine (spec_act id ver _ (bsP ps) _ HV.out HVR.out.1 HVR.out.2).mono ?_
  rw [HACT.out]
  rintro e w1 ⟨rfl, hb1⟩
  have HR1 := hide (HR.out.down hb1)
  have HO1 := hide (HO.out.down hb1)
  have HV1 := hide (HV.out.below hb1)
  obtain ⟨⟨d0, d1, d2⟩, -⟩ := HR1.out.arg.tri
  clear hb1 HR HO HV
  go_wp2_with fail
  refine (spec_hist16 id ver _ (bsP ps) _ HV1.out HFN.out HGT.out).mono ?_
  rw [HES.out, HNN.out]
  rintro e w2 ⟨⟨a2, c2, rfl, hsl⟩, hb2⟩
  have HR2 := hide (HR1.out.down hb2)
  have HO2 := hide (HO1.out.down hb2)
  have HS2 := hide hsl
  clear hsl hb2 HR1 HO1 HV1 d0 d1 d2
  go_wp2_with fail
  refine (spec_fold _ es n _ HS2.out (by have := HNN.out; omega) (fun e he => by have := hist_names HHI.out e he; unfold maxLen; omega) (by rw [← HNN.out]; exact HHI.out.2.1)).mono ?_
  rintro e w3 ⟨⟨u0, u1, rfl, hA⟩, hb3⟩
  have hsk : sk es n = s := by rw [← HSS.out]; unfold stB; rw [HES.out, HNN.out]
  rw [hsk] at hA ⊢
  obtain ⟨x0, m0, rfl⟩ := hA.q.1.form
  obtain ⟨x1, m1, rfl⟩ := hA.q.2.form
  have hal4 := low1 w3 (.cells (sarr (.slice x0 s.sg.length m0) (.slice x1 s.tm.length m1) s) 60)
  have HBX := hide (show Blk (w3.alloc (.cells (sarr (.slice x0 s.sg.length m0) (.slice x1 s.tm.length m1) s) 60)) w3.heap.size 6 (sq (.slice x0 s.sg.length m0) (.slice x1 s.tm.length m1) s) 60 from new6 w3 _ _ _ _ _ _ 60)
  obtain ⟨w4, hw4⟩ : ∃ w4, w3.alloc (.cells (sarr (.slice x0 s.sg.length m0) (.slice x1 s.tm.length m1) s) 60) = w4 := ⟨_, rfl⟩
  obtain ⟨sb, hsb⟩ : ∃ sb, w3.heap.size = sb := ⟨_, rfl⟩
  have HA4 := hide (hA.down hal4)
  have HS4 := hide ((HS2.out.below hb3).below hal4)
  have HR4 := hide ((HR2.out.down hb3).down hal4)
  have HO4 := hide ((HO2.out.down hb3).down hal4)
  rw [hw4] at HBX HA4 HS4 HR4 HO4
  rw [hsb] at HBX
  have HW4 := hide hw4
  have HSB := hide hsb
  obtain ⟨⟨b0, b1, b2, b3, b4, b5⟩, -⟩ := HBX.out.hex
  rw [← hw4, ← hsb] at b0 b1 b2 b3 b4 b5
  clear hA hal4 hb3 HR2 HO2 HS2 hsk hw4 hsb
  go_upto_region 9 with fail
  rw [HW4.out]
  try rw [HSB.out]
  clear HW4 HSB b0 b1 b2 b3 b4 b5
  obtain ⟨⟨b0, b1, b2, b3, b4, b5⟩, -⟩ := HBX.out.hex
  obtain ⟨⟨d0, d1, d2⟩, -⟩ := HR4.out.arg.tri
  have hal5 := low1 w4 (.cells #[.int .i64 s.nx, .int .i64 ver, .int .i64 k, .string x] 74)
  obtain ⟨n0, n1, n2, n3⟩ := four_new w4 (.int .i64 s.nx) (.int .i64 ver) (.int .i64 k) (.string x) 74
  have hev := heap_alloc_new w4 (.cells #[.int .i64 s.nx, .int .i64 ver, .int .i64 k, .string x] 74)
  obtain ⟨w5, hw5⟩ : ∃ w5, w4.alloc (.cells #[.int .i64 s.nx, .int .i64 ver, .int .i64 k, .string x] 74) = w5 := ⟨_, rfl⟩
  obtain ⟨eb, heb⟩ : ∃ eb, w4.heap.size = eb := ⟨_, rfl⟩
  rw [hw5] at hal5 hev n0 n1 n2 n3
  rw [heb] at hev n0 n1 n2 n3
  have HA5 := hide (HA4.out.down hal5)
  have HS5 := hide (HS4.out.below hal5)
  have HR5 := hide (HR4.out.down hal5)
  have HO5 := hide (HO4.out.down hal5)
  have HB5 := hide (HBX.out.down hal5)
  have HEV := hide hev
  have HW5 := hide hw5
  have HEB := hide heb
  clear hal5 hev hw5 heb HA4 HS4 HR4 HO4
  go_upto_region 10 with fail
  rw [HW5.out]
  try rw [HEB.out]
  clear HW5 HEB b0 b1 b2 b3 b4 b5 d0 d1 d2 HBX
  obtain ⟨⟨b0, b1, b2, b3, b4, b5⟩, -⟩ := HB5.out.hex
  go_wp2_with fail
  clear HB5 b0 b1 b2 b3 b4 b5 n0 n1 n2 n3
  refine (spec_l12 _ _ s (⟨s.nx, ver, k, x⟩ : Ev) bm _ HA5.out.c HGS.out HX.out HBM.out).mono ?_
  rintro e w6 ⟨⟨u0, u1, y, rfl, hC, -, -⟩, hb6⟩
  obtain ⟨x3, m3, rfl⟩ := hC.1.1.form
  obtain ⟨x4, m4, rfl⟩ := hC.2.1.form
  obtain ⟨w7, hw7⟩ : ∃ w7, w6.alloc (.cells (sarr (.slice x3 y.sg.length m3) (.slice x4 y.tm.length m4) y) 60) = w7 := ⟨_, rfl⟩
  have hal7 : Below w6.heap.size w6 w7 := by rw [← hw7]; exact low1 _ _
  have HS7 := hide ((HS5.out.below hb6).below hal7)
  have HR7 := hide ((HR5.out.down hb6).down hal7)
  have HO7 := hide ((HO5.out.down hb6).down hal7)
  have HEV7 := hide (blk_below (blk_below HEV.out hb6) hal7)
  have HW7 := hide hw7
  clear hal7 hw7 hC hb6 HA5 HS5 HR5 HO5 HEV
  go_upto_region 11 with fail
  rw [HW7.out]
  clear HW7
  cases bm
  · have HC := hide (show tkc my ⟨id, ver, bsP ps⟩ k x = 3 from tkc_refused HOK.out HACT2.out HN.out HMYB.out)
    have HB0 := hide (show tkb my ⟨id, ver, bsP ps⟩ k x = bsP ps from by unfold tkb; rw [HC.out, if_neg (by decide)])
    obtain ⟨⟨d0, d1, d2⟩, -⟩ := HR7.out.arg.tri
    obtain ⟨⟨e0, e1, e2⟩, f0, f1, f2⟩ := HR7.out.res.tri
    obtain ⟨WZ, hWZ⟩ : ∃ WZ, ((w7.setCell ⟨w.heap.size + 1, 0, none⟩ (.int .i64 id)).setCell ⟨w.heap.size + 1, 1, none⟩ (.int .i64 ver)).setCell ⟨w.heap.size + 1, 2, none⟩ (.slice a1 ps.length c1) = WZ := ⟨_, rfl⟩
    obtain ⟨hz, hzb, -⟩ := HR7.out.fin (.int .i64 id) (.int .i64 ver) (.slice a1 ps.length c1) WZ hWZ
    have HZO := hide (show OwnP WZ B (.slice a1 ps.length c1) ps from by
      rw [← hWZ]; exact ((HO7.out.set_off HR7.out.res (by decide) (by decide) _).set_off (HR7.out.res.tri0 _) (by decide) (by decide) _).set_off ((HR7.out.res.tri0 _).tri1 _) (by decide) (by decide) _)
    have HWZ := hide hWZ
    have HZ := hide hz
    clear hz hWZ
    go_wp2
    rw [HWZ.out]
    obtain ⟨⟨s0, s1, s2⟩, -⟩ := HZ.out.tri
    exact bodyPost_ret (v := .tuple #[rv id ver (.slice a1 ps.length c1), .int .i64 3]) (by simp [results, Tryz.results56, go_sem, s0, s1, s2]) rfl ⟨⟨_, ps, by rw [HC.out], HZO.out, HB0.out.symm⟩, hzb⟩
  · have hmy1 := HMYB.out
    by_cases h60 : n = 60
    · have h60b : ((n : Int) == 60) = true := by simp [h60]
      have HC := hide (show tkc my ⟨id, ver, bsP ps⟩ k x = 4 from tkc_full HOK.out HACT2.out HN.out HMYB.out (by rw [HES.out, HNN.out]; exact h60))
      have HB0 := hide (show tkb my ⟨id, ver, bsP ps⟩ k x = bsP ps from by unfold tkb; rw [HC.out, if_neg (by decide)])
      obtain ⟨⟨d0, d1, d2⟩, -⟩ := HR7.out.arg.tri
      obtain ⟨⟨e0, e1, e2⟩, f0, f1, f2⟩ := HR7.out.res.tri
      obtain ⟨WZ, hWZ⟩ : ∃ WZ, ((w7.setCell ⟨w.heap.size + 1, 0, none⟩ (.int .i64 id)).setCell ⟨w.heap.size + 1, 1, none⟩ (.int .i64 ver)).setCell ⟨w.heap.size + 1, 2, none⟩ (.slice a1 ps.length c1) = WZ := ⟨_, rfl⟩
      obtain ⟨hz, hzb, -⟩ := HR7.out.fin (.int .i64 id) (.int .i64 ver) (.slice a1 ps.length c1) WZ hWZ
      have HZO := hide (show OwnP WZ B (.slice a1 ps.length c1) ps from by
        rw [← hWZ]; exact ((HO7.out.set_off HR7.out.res (by decide) (by decide) _).set_off (HR7.out.res.tri0 _) (by decide) (by decide) _).set_off ((HR7.out.res.tri0 _).tri1 _) (by decide) (by decide) _)
      have HWZ := hide hWZ
      have HZ := hide hz
      clear hz hWZ
      go_wp2
      rw [HWZ.out]
      obtain ⟨⟨s0, s1, s2⟩, -⟩ := HZ.out.tri
      exact bodyPost_ret (v := .tuple #[rv id ver (.slice a1 ps.length c1), .int .i64 4]) (by simp [results, Tryz.results56, go_sem, s0, s1, s2]) rfl ⟨⟨_, ps, by rw [HC.out], HZO.out, HB0.out.symm⟩, hzb⟩
    · have h60b : ((n : Int) == 60) = false := by simp; omega
      have HC := hide (show tkc my ⟨id, ver, bsP ps⟩ k x = 0 from tkc_ok HOK.out HACT2.out HN.out HMYB.out (by rw [HES.out, HNN.out]; exact h60))
      have HTL := hide (show Tl (es ++ [(⟨s.nx, ver, k, x⟩ : Ev)]) from by have := tkh_tl (my := my) HMY.out HG.out HC.out; unfold tkh at this; rw [HES.out] at this; rw [← HE0.out]; exact this)
      have HB0 := hide (show tkb my ⟨id, ver, bsP ps⟩ k x = add (bsP ps) (es ++ [(⟨s.nx, ver, k, x⟩ : Ev)]) from by unfold tkb tkh; rw [HC.out, if_pos rfl, HES.out, HE0.out])
      obtain ⟨h, hh⟩ : ∃ h, es ++ [(⟨s.nx, ver, k, x⟩ : Ev)] = h := ⟨_, rfl⟩
      have hes60 : es.length ≤ 60 := by rw [HNN.out]; exact hn60
      have hap : ∀ (W : World) (v : Value), W.ownsRow w7.heap.size 74 4 v (es.length + 1) (cellsE es ++ cellsE [(⟨s.nx, ver, k, x⟩ : Ev)]) → SliceOf W v h := fun W v ho => by
        rw [← hh]
        refine OwnE.slice (B := w7.heap.size) ?_
        unfold OwnE
        rw [List.length_append, cellsE_append]; exact ho
      have HAP := hide hap
      have HHT := hide (show Tl h from by rw [← hh]; exact HTL.out)
      have HB1 := hide (show tkb my ⟨id, ver, bsP ps⟩ k x = add (bsP ps) h from by rw [← hh]; exact HB0.out)
      have HGA := hide (add_good HGT.out.2 HHT.out)
      have hl12 : (bsP ps).length ≤ 12 := HGT.out.1
      have hal := add_len (bsP ps) h
      have hb2 := HR7.out.big
      have HFA := hide (show ∀ V : World, Below w7.heap.size w7 V → (V.cell? ⟨w.heap.size, 2, none⟩ = some (.slice a1 ps.length c1) ∧ V.frozen? ⟨w.heap.size, 2, none⟩ = false) ∧ V.cell? ⟨eb, 0, none⟩ = some (.int .i64 s.nx) ∧ V.cell? ⟨eb, 1, none⟩ = some (.int .i64 ver) ∧ V.cell? ⟨eb, 2, none⟩ = some (.int .i64 k) ∧ V.cell? ⟨eb, 3, none⟩ = some (.string x) from fun V hV => by
        have h1 := HR7.out.down hV
        have h2 := blk_below HEV7.out hV
        obtain ⟨⟨-, -, y⟩, -, -, z⟩ := h1.arg.tri
        exact ⟨⟨y, z⟩, by simp [World.cell?, h2], by simp [World.cell?, h2], by simp [World.cell?, h2], by simp [World.cell?, h2]⟩)
      obtain ⟨i0, hi, hz0, hz1, hz2⟩ := info_parts info_ev
      have hdr : Below w7.heap.size w7 w7.drew := (Below.refl _ _).drew
      have hdl : Below w7.heap.size w7 ((w7.alloc (.cells #[.int .i64 s.nx, .int .i64 ver, .int .i64 k, .string x] 74)).drew) := ((Below.refl _ _).alloc (Nat.le_refl _) _).drew
      obtain ⟨⟨p0, p1⟩, n0, n1, n2, n3⟩ := HFA.out w7 (Below.refl _ _)
      obtain ⟨⟨p2, p3⟩, n4, n5, n6, n7⟩ := HFA.out w7.drew hdr
      obtain ⟨⟨p4, p5⟩, m0, m1, m2, m3⟩ := HFA.out _ hdl
      have HSD := hide (HS7.out.below hdr)
      have HSL := hide (HS7.out.below hdl)
      have HDR := hide hdr
      have HDL := hide hdl
      have HSRCA0 := hide (show ((w7.alloc (.cells (evarr (⟨s.nx, ver, k, x⟩ : Ev)) 74)).drew).heap[w7.heap.size]? = some (.cells (evarr (⟨s.nx, ver, k, x⟩ : Ev)) 74 (0, 0)) from heap_alloc_new w7 _)
      have HLEN := hide hes60
      clear hap hh hdr hdl HTL HB0 HN HMYB HOK HACT2 HACT HMY HSS HHI HFN HE0 HS7 HEV7
      go_upto_region 15 with fail
      go_region_law (first
        | (refine step_append_lies _ rfl (.tmp 68) (.tmp 70) 69 rfl w7.heap.size 74 i0 _ 4 40 Tryz.underlying69 hi hz0 hz1 hz2 rfl (by decide) (.slice aA es.length cA) es.length (cellsE es) (by simp [Act.eval]) (by first | exact HOA.out | exact HOA.out.down (low1 _ _)) ⟨w7.heap.size, 0, none⟩ 1 1 (cellsE [(⟨s.nx, ver, k, x⟩ : Ev)]) (by simp [Act.eval]) rfl (by first | exact HSRCA.out | exact four_src _ (⟨s.nx, ver, k, x⟩ : Ev)) (cellsE_one _) (by omega) (by unfold maxLen; omega) (by omega) (by first | exact HLA.out | (simp; exact Nat.le_succ_of_le HLA.out)) _ rfl ?_
           intro g9 cap9 w9 hown9 hgrow9 hat9 hlt9
           have hb9 : Below w7.heap.size w7 w9 := by
             first
               | exact HBA.out.grown hgrow9 HBA.out.size (fun j hj => (HOA.out.lt hj).1)
               | exact HBAL.out.grown hgrow9 HBAL.out.size (fun j hj => (HOA.out.lt hj).1)
           have HU9 := hide (HAP.out _ _ hown9)
           have HV9 := hide (HO7.out.brs.below hb9)
           have HB9 := hide hb9
           obtain ⟨⟨t0, t1⟩, -⟩ := HFA.out w9 hb9
           clear hown9 hgrow9 hat9 hlt9 hb9)
        | (refine step_append_lies _ rfl (.tmp 68) (.tmp 70) 69 rfl w7.heap.size 74 i0 _ 4 40 Tryz.underlying69 hi hz0 hz1 hz2 rfl (by decide) (.slice aA es.length cA) es.length (cellsE es) (by simp [Act.eval]) (by first | exact HOA.out | exact HOA.out.down (low1 _ _)) ⟨wA.heap.size, 0, none⟩ 1 1 (cellsE [(⟨s.nx, ver, k, x⟩ : Ev)]) (by simp [Act.eval]) rfl (by first | exact HSRCA.out | exact four_src _ (⟨s.nx, ver, k, x⟩ : Ev)) (cellsE_one _) (by omega) (by unfold maxLen; omega) (by omega) (by first | exact HLA.out | (simp; exact Nat.le_succ_of_le HLA.out)) _ rfl ?_
           intro g9 cap9 w9 hown9 hgrow9 hat9 hlt9
           have hb9 : Below w7.heap.size w7 w9 := by
             first
               | exact HBA.out.grown hgrow9 HBA.out.size (fun j hj => (HOA.out.lt hj).1)
               | exact HBAL.out.grown hgrow9 HBAL.out.size (fun j hj => (HOA.out.lt hj).1)
           have HU9 := hide (HAP.out _ _ hown9)
           have HV9 := hide (HO7.out.brs.below hb9)
           have HB9 := hide hb9
           obtain ⟨⟨t0, t1⟩, -⟩ := HFA.out w9 hb9
           clear hown9 hgrow9 hat9 hlt9 hb9)
        | (rw [if_pos (by rfl)]
           go_simp
           go_at_call 103
           refine (own_evsG _ es _ (by first | exact HSD.out | exact HSL.out) (by omega)).mono ?_
           rintro e wA ⟨⟨aA, nA, cA, rfl, hOA⟩, hbA⟩
           obtain ⟨ax, cx, hx3⟩ := hOA.form
           simp only [Value.slice.injEq] at hx3
           obtain ⟨rfl, rfl, rfl⟩ := hx3
           have hbB : Below w7.heap.size w7 wA := (by first | exact HDR.out.trans (hbA.mono HDR.out.size) | exact HDL.out.trans (hbA.mono HDL.out.size))
           try have HSRCA := hide (four_blk (b := w7.heap.size) (blk_below HSRCA0.out hbA))
           have HBA := hide hbB
           have HOA := hide (hOA.mono (by first | exact HDR.out.size | exact HDL.out.size))
           have HLA := hide hbB.size
           have HBAL := hide (hbB.alloc hbB.size (.cells #[.int .i64 s.nx, .int .i64 ver, .int .i64 k, .string x] 74))
           obtain ⟨⟨q0, q1⟩, r0, r1, r2, r3⟩ := HFA.out wA hbB
           obtain ⟨⟨q2, q3⟩, r4, r5, r6, r7⟩ := HFA.out _ HBAL.out
           clear hOA hbA hbB)
        | (rw [if_pos (by rfl)]
           go_simp
           go_at_call 102
           refine (spec_put _ _ (bsP ps) h _ HV9.out HU9.out (by omega) HGT.out.2 HHT.out (show CapOk (.slice a1 ps.length c1) from HCO.out)).mono ?_
           rintro e wB ⟨⟨rB, rfl, hrB, -⟩, hbB⟩
           have HRB := hide hrB
           obtain ⟨ab, cb, rfl⟩ := hrB.form
           have hbC := HB9.out.trans (hbB.mono HB9.out.size)
           have HBB := hide hbC
           obtain ⟨⟨u0, u1⟩, -⟩ := HFA.out wB hbC
           clear hrB hbB hbC)
        | (rw [if_pos (by rfl)]
           go_simp
           go_at_call 65
           refine (spec_own _ (add (bsP ps) h) _ HRB.out (by omega) HGA.out).mono ?_
           rintro e wC ⟨⟨rC, ps5, rfl, hO5, hps5⟩, hbC⟩
           obtain ⟨ar, cr, rfl⟩ := hO5.form
           have hbD := HBB.out.trans (hbC.mono HBB.out.size)
           have HO5 := hide (hO5.mono HBB.out.size)
           have HPS := hide hps5
           have HBC := hide hbD
           obtain ⟨⟨y0, y1⟩, -⟩ := HFA.out wC hbD
           clear hO5 hps5 hbC hbD))
      all_goals
        have HRC := hide (HR7.out.down HBC.out)
        obtain ⟨wD, hwD⟩ : ∃ wD, wC.setCell ⟨w.heap.size, 2, none⟩ (.slice ar ps5.length cr) = wD := ⟨_, rfl⟩
        have HRD := hide (show R2 w wD id ver (.slice ar ps5.length cr) from by
          rw [← hwD]
          exact ⟨HRC.out.low.setCell (p := ⟨w.heap.size, 2, none⟩) (Nat.le_refl _) _, HRC.out.arg.tri2 _, HRC.out.res.off (by omega) _, by simpa using HRC.out.big⟩)
        have HOD := hide (show OwnP wD w7.heap.size (.slice ar ps5.length cr) ps5 from by rw [← hwD]; exact HO5.out.set_low (by omega) _)
        have HWD := hide hwD
        clear hwD HRC HFA HBC HO5
        go_upto_region 16 with fail
        rw [HWD.out]
        obtain ⟨⟨d0, d1, d2⟩, -⟩ := HRD.out.arg.tri
        obtain ⟨⟨e0, e1, e2⟩, f0, f1, f2⟩ := HRD.out.res.tri
        obtain ⟨WZ, hWZ⟩ : ∃ WZ, ((wD.setCell ⟨w.heap.size + 1, 0, none⟩ (.int .i64 id)).setCell ⟨w.heap.size + 1, 1, none⟩ (.int .i64 ver)).setCell ⟨w.heap.size + 1, 2, none⟩ (.slice ar ps5.length cr) = WZ := ⟨_, rfl⟩
        obtain ⟨hz, hzb, hzo⟩ := HRD.out.fin (.int .i64 id) (.int .i64 ver) (.slice ar ps5.length cr) WZ hWZ
        have HZO := hide ((hzo _ _ _ HOD.out hb2).mono hB)
        have HWZ := hide hWZ
        have HZ := hide hz
        clear hz hWZ hzo HRD HOD
        go_wp2
        rw [HWZ.out]
        obtain ⟨⟨s0, s1, s2⟩, -⟩ := HZ.out.tri
        exact bodyPost_ret (v := .tuple #[rv id ver (.slice ar ps5.length cr), .int .i64 0]) (by simp [results, Tryz.results56, go_sem, s0, s1, s2]) rfl ⟨⟨_, ps5, by rw [HC.out], HZO.out, by rw [HPS.out, HB1.out]⟩, hzb⟩
set_option maxRecDepth 20000 in
set_option maxHeartbeats 16000000 in
theorem spec_call_last1 (my : St → Ev → Bool) (hmy : ∀ s e, BP (my s e) (May s e)) (id ver : Int) (v : Value) (ps : Prs) (k : Int) (x : ByteArray) (B : Nat) (w : World) (ho : OwnP w B v ps) (hB : B ≤ w.heap.size) (hg : GdR ⟨id, ver, bsP ps⟩) (hx : x.size ≤ maxLen) (hc : okC k x = true) (ha : ver % 10 = id) (hk : k = 2) (hin : x ∉ (stB (bsP ps)).sg) :
    Calls Tryz.prog 56 #[rv id ver v, .int .i64 k, .string x] w fun e w' => (∃ u ps', e = .returned (.tuple #[rv id ver u, .int .i64 (tkc my ⟨id, ver, bsP ps⟩ k x)]) ∧ OwnP w' B u ps' ∧ bsP ps' = tkb my ⟨id, ver, bsP ps⟩ k x) ∧ Below w.heap.size w w' := by
  have HG := hide hg
  have HX := hide hx
  have HMY := hide hmy
  obtain ⟨a1, c1, rfl⟩ := ho.form
  have HCO := hide (show ps.length ≤ c1 from ho.capOk)
  obtain ⟨W, hW⟩ : ∃ W, (w.alloc (.cells #[.int .i64 id, .int .i64 ver, .slice a1 ps.length c1] 34)).alloc (.cells #[.int .i64 0, .int .i64 0, .slice none 0 0] 34) = W := ⟨_, rfl⟩
  have HR := hide (show R2 w W id ver (.slice a1 ps.length c1) from by rw [← hW]; exact R2.new w _ _ _)
  have hdn : Below w.heap.size w W := HR.out.low
  have HO0 := hide ho
  have HO := hide (ho.down hdn)
  have HV := hide (show BrsOf W (.slice a1 ps.length c1) (bsP ps) from (ho.down hdn).brs)
  have HFN := hide (show FineS (bsP ps) from hg.2.2.1.2.fine (by exact Nat.le_trans (show (bsP ps).length ≤ 12 from hg.2.2.1.1) (by omega)))
  have HGT := hide (show GdT (bsP ps) from hg.2.2.1)
  have HVR := hide (show 0 ≤ ver ∧ ver ≤ 1000000 from hg.2.1)
  have HW := hide hW
  obtain ⟨⟨d0, d1, d2⟩, -⟩ := HR.out.arg.tri
  obtain ⟨⟨e0, e1, e2⟩, f0, f1, f2⟩ := HR.out.res.tri
  rw [← hW] at d0 d1 d2 e0 e1 e2 f0 f1 f2
  have h1 : inB k 1 6 = true := by unfold okC at hc; rw [Bool.and_eq_true] at hc; exact hc.1
  have h2 : goodName x.data.toList = true := by unfold okC at hc; rw [Bool.and_eq_true] at hc; exact hc.2
  obtain ⟨es, hes⟩ : ∃ es, cB (bsP ps) = es := ⟨_, rfl⟩
  obtain ⟨n, hn⟩ : ∃ n, es.length = n := ⟨_, rfl⟩
  obtain ⟨s, hs⟩ : ∃ s, stB (bsP ps) = s := ⟨_, rfl⟩
  have HES := hide hes
  have HNN := hide hn
  have HSS := hide hs
  have hh := cB_hist HGT.out
  rw [hes] at hh
  have hn60 : n ≤ 60 := by rw [← hn]; exact hh.1
  have hgs := stB_good HGT.out
  rw [hs] at hgs
  have HHI := hide hh
  have HGS := hide hgs
  have HE0 := hide (show evR ⟨id, ver, bsP ps⟩ k x = ⟨s.nx, ver, k, x⟩ from by unfold evR; rw [← hs])
  have HACT := hide (show (ver % 10 == id) = true by simp [ha])
  clear hes hn hs hh hgs
  have hkb : (k == 2) = true := by simp [hk]
  have HIN := hide (show x ∉ s.sg from by rw [← HSS.out]; exact hin)
  have HN := hide (show ¬ (k = 2 ∧ has (stB (bsP ps)).sg x = true) from fun hh => hin (has_iff.1 hh.2))
  have HOK := hide hc
  have HACT2 := hide ha
  obtain ⟨bm, hbm⟩ : ∃ bm, my (stB (bsP ps)) (evR ⟨id, ver, bsP ps⟩ k x) = bm := ⟨_, rfl⟩
  have HMYB := hide hbm
  have HBM := hide (show BP bm (May s ⟨s.nx, ver, k, x⟩) from by
    have h1 := hmy (stB (bsP ps)) (evR ⟨id, ver, bsP ps⟩ k x)
    rw [hbm, HE0.out, HSS.out] at h1; exact h1)
  clear ho hg hx hmy hW hc ha hk hin hbm
  go_enter Tryz.func56, Tryz.ntmps56
  go_wp2_with (first | (go_at_call 93; refine (spec_in _ _ _ _).mono ?_; rintro e w' ⟨rfl, rfl⟩; rw [h1]) | (go_at_call 99; refine (spec_name x _ HX.out).mono ?_; rintro e w' ⟨rfl, rfl⟩; rw [h2]))
  rw [HW.out]
  clear HW d0 d1 d2 e0 e1 e2 f0 f1 f2
  refine (spec_act id ver _ (bsP ps) _ HV.out HVR.out.1 HVR.out.2).mono ?_
  rw [HACT.out]
  rintro e w1 ⟨rfl, hb1⟩
  have HR1 := hide (HR.out.down hb1)
  have HO1 := hide (HO.out.down hb1)
  have HV1 := hide (HV.out.below hb1)
  obtain ⟨⟨d0, d1, d2⟩, -⟩ := HR1.out.arg.tri
  clear hb1 HR HO HV
  go_wp2_with fail
  refine (spec_hist16 id ver _ (bsP ps) _ HV1.out HFN.out HGT.out).mono ?_
  rw [HES.out, HNN.out]
  rintro e w2 ⟨⟨a2, c2, rfl, hsl⟩, hb2⟩
  have HR2 := hide (HR1.out.down hb2)
  have HO2 := hide (HO1.out.down hb2)
  have HS2 := hide hsl
  clear hsl hb2 HR1 HO1 HV1 d0 d1 d2
  go_wp2_with fail
  refine (spec_fold _ es n _ HS2.out (by have := HNN.out; omega) (fun e he => by have := hist_names HHI.out e he; unfold maxLen; omega) (by rw [← HNN.out]; exact HHI.out.2.1)).mono ?_
  rintro e w3 ⟨⟨u0, u1, rfl, hA⟩, hb3⟩
  have hsk : sk es n = s := by rw [← HSS.out]; unfold stB; rw [HES.out, HNN.out]
  rw [hsk] at hA ⊢
  obtain ⟨x0, m0, rfl⟩ := hA.q.1.form
  obtain ⟨x1, m1, rfl⟩ := hA.q.2.form
  have hal4 := low1 w3 (.cells (sarr (.slice x0 s.sg.length m0) (.slice x1 s.tm.length m1) s) 60)
  have HBX := hide (show Blk (w3.alloc (.cells (sarr (.slice x0 s.sg.length m0) (.slice x1 s.tm.length m1) s) 60)) w3.heap.size 6 (sq (.slice x0 s.sg.length m0) (.slice x1 s.tm.length m1) s) 60 from new6 w3 _ _ _ _ _ _ 60)
  obtain ⟨w4, hw4⟩ : ∃ w4, w3.alloc (.cells (sarr (.slice x0 s.sg.length m0) (.slice x1 s.tm.length m1) s) 60) = w4 := ⟨_, rfl⟩
  obtain ⟨sb, hsb⟩ : ∃ sb, w3.heap.size = sb := ⟨_, rfl⟩
  have HA4 := hide (hA.down hal4)
  have HS4 := hide ((HS2.out.below hb3).below hal4)
  have HR4 := hide ((HR2.out.down hb3).down hal4)
  have HO4 := hide ((HO2.out.down hb3).down hal4)
  rw [hw4] at HBX HA4 HS4 HR4 HO4
  rw [hsb] at HBX
  have HW4 := hide hw4
  have HSB := hide hsb
  obtain ⟨⟨b0, b1, b2, b3, b4, b5⟩, -⟩ := HBX.out.hex
  rw [← hw4, ← hsb] at b0 b1 b2 b3 b4 b5
  clear hA hal4 hb3 HR2 HO2 HS2 hsk hw4 hsb
  go_wp2_with fail
  rw [HW4.out]
  try rw [HSB.out]
  clear HW4 HSB b0 b1 b2 b3 b4 b5
  refine (at_txs _ s.sg x _ HA4.out.q.1 (by have := HGS.out.2.2.1.1; omega)).mono ?_
  rintro e wv ⟨⟨r, rfl, hr⟩, hwv⟩
  rw [hwv]
  have hr0 : ¬ r ≥ 0 := fun h => HIN.out (hr.1 h)
  clear hwv wv hr
  obtain ⟨⟨b0, b1, b2, b3, b4, b5⟩, -⟩ := HBX.out.hex
  obtain ⟨⟨d0, d1, d2⟩, -⟩ := HR4.out.arg.tri
  have hal5 := low1 w4 (.cells #[.int .i64 s.nx, .int .i64 ver, .int .i64 k, .string x] 74)
  obtain ⟨n0, n1, n2, n3⟩ := four_new w4 (.int .i64 s.nx) (.int .i64 ver) (.int .i64 k) (.string x) 74
  have hev := heap_alloc_new w4 (.cells #[.int .i64 s.nx, .int .i64 ver, .int .i64 k, .string x] 74)
  obtain ⟨w5, hw5⟩ : ∃ w5, w4.alloc (.cells #[.int .i64 s.nx, .int .i64 ver, .int .i64 k, .string x] 74) = w5 := ⟨_, rfl⟩
  obtain ⟨eb, heb⟩ : ∃ eb, w4.heap.size = eb := ⟨_, rfl⟩
  rw [hw5] at hal5 hev n0 n1 n2 n3
  rw [heb] at hev n0 n1 n2 n3
  have HA5 := hide (HA4.out.down hal5)
  have HS5 := hide (HS4.out.below hal5)
  have HR5 := hide (HR4.out.down hal5)
  have HO5 := hide (HO4.out.down hal5)
  have HB5 := hide (HBX.out.down hal5)
  have HEV := hide hev
  have HW5 := hide hw5
  have HEB := hide heb
  clear hal5 hev hw5 heb HA4 HS4 HR4 HO4
  go_upto_region 10 with fail
  rw [HW5.out]
  try rw [HEB.out]
  clear HW5 HEB b0 b1 b2 b3 b4 b5 d0 d1 d2 HBX
  obtain ⟨⟨b0, b1, b2, b3, b4, b5⟩, -⟩ := HB5.out.hex
  go_wp2_with fail
  clear HB5 b0 b1 b2 b3 b4 b5 n0 n1 n2 n3
  refine (spec_l12 _ _ s (⟨s.nx, ver, k, x⟩ : Ev) bm _ HA5.out.c HGS.out HX.out HBM.out).mono ?_
  rintro e w6 ⟨⟨u0, u1, y, rfl, hC, -, -⟩, hb6⟩
  obtain ⟨x3, m3, rfl⟩ := hC.1.1.form
  obtain ⟨x4, m4, rfl⟩ := hC.2.1.form
  obtain ⟨w7, hw7⟩ : ∃ w7, w6.alloc (.cells (sarr (.slice x3 y.sg.length m3) (.slice x4 y.tm.length m4) y) 60) = w7 := ⟨_, rfl⟩
  have hal7 : Below w6.heap.size w6 w7 := by rw [← hw7]; exact low1 _ _
  have HS7 := hide ((HS5.out.below hb6).below hal7)
  have HR7 := hide ((HR5.out.down hb6).down hal7)
  have HO7 := hide ((HO5.out.down hb6).down hal7)
  have HEV7 := hide (blk_below (blk_below HEV.out hb6) hal7)
  have HW7 := hide hw7
  clear hal7 hw7 hC hb6 HA5 HS5 HR5 HO5 HEV
  go_upto_region 11 with fail
  rw [HW7.out]
  clear HW7
  cases bm
  · have HC := hide (show tkc my ⟨id, ver, bsP ps⟩ k x = 3 from tkc_refused HOK.out HACT2.out HN.out HMYB.out)
    have HB0 := hide (show tkb my ⟨id, ver, bsP ps⟩ k x = bsP ps from by unfold tkb; rw [HC.out, if_neg (by decide)])
    obtain ⟨⟨d0, d1, d2⟩, -⟩ := HR7.out.arg.tri
    obtain ⟨⟨e0, e1, e2⟩, f0, f1, f2⟩ := HR7.out.res.tri
    obtain ⟨WZ, hWZ⟩ : ∃ WZ, ((w7.setCell ⟨w.heap.size + 1, 0, none⟩ (.int .i64 id)).setCell ⟨w.heap.size + 1, 1, none⟩ (.int .i64 ver)).setCell ⟨w.heap.size + 1, 2, none⟩ (.slice a1 ps.length c1) = WZ := ⟨_, rfl⟩
    obtain ⟨hz, hzb, -⟩ := HR7.out.fin (.int .i64 id) (.int .i64 ver) (.slice a1 ps.length c1) WZ hWZ
    have HZO := hide (show OwnP WZ B (.slice a1 ps.length c1) ps from by
      rw [← hWZ]; exact ((HO7.out.set_off HR7.out.res (by decide) (by decide) _).set_off (HR7.out.res.tri0 _) (by decide) (by decide) _).set_off ((HR7.out.res.tri0 _).tri1 _) (by decide) (by decide) _)
    have HWZ := hide hWZ
    have HZ := hide hz
    clear hz hWZ
    go_wp2
    rw [HWZ.out]
    obtain ⟨⟨s0, s1, s2⟩, -⟩ := HZ.out.tri
    exact bodyPost_ret (v := .tuple #[rv id ver (.slice a1 ps.length c1), .int .i64 3]) (by simp [results, Tryz.results56, go_sem, s0, s1, s2]) rfl ⟨⟨_, ps, by rw [HC.out], HZO.out, HB0.out.symm⟩, hzb⟩
  · have hmy1 := HMYB.out
    by_cases h60 : n = 60
    · have h60b : ((n : Int) == 60) = true := by simp [h60]
      have HC := hide (show tkc my ⟨id, ver, bsP ps⟩ k x = 4 from tkc_full HOK.out HACT2.out HN.out HMYB.out (by rw [HES.out, HNN.out]; exact h60))
      have HB0 := hide (show tkb my ⟨id, ver, bsP ps⟩ k x = bsP ps from by unfold tkb; rw [HC.out, if_neg (by decide)])
      obtain ⟨⟨d0, d1, d2⟩, -⟩ := HR7.out.arg.tri
      obtain ⟨⟨e0, e1, e2⟩, f0, f1, f2⟩ := HR7.out.res.tri
      obtain ⟨WZ, hWZ⟩ : ∃ WZ, ((w7.setCell ⟨w.heap.size + 1, 0, none⟩ (.int .i64 id)).setCell ⟨w.heap.size + 1, 1, none⟩ (.int .i64 ver)).setCell ⟨w.heap.size + 1, 2, none⟩ (.slice a1 ps.length c1) = WZ := ⟨_, rfl⟩
      obtain ⟨hz, hzb, -⟩ := HR7.out.fin (.int .i64 id) (.int .i64 ver) (.slice a1 ps.length c1) WZ hWZ
      have HZO := hide (show OwnP WZ B (.slice a1 ps.length c1) ps from by
        rw [← hWZ]; exact ((HO7.out.set_off HR7.out.res (by decide) (by decide) _).set_off (HR7.out.res.tri0 _) (by decide) (by decide) _).set_off ((HR7.out.res.tri0 _).tri1 _) (by decide) (by decide) _)
      have HWZ := hide hWZ
      have HZ := hide hz
      clear hz hWZ
      go_wp2
      rw [HWZ.out]
      obtain ⟨⟨s0, s1, s2⟩, -⟩ := HZ.out.tri
      exact bodyPost_ret (v := .tuple #[rv id ver (.slice a1 ps.length c1), .int .i64 4]) (by simp [results, Tryz.results56, go_sem, s0, s1, s2]) rfl ⟨⟨_, ps, by rw [HC.out], HZO.out, HB0.out.symm⟩, hzb⟩
    · have h60b : ((n : Int) == 60) = false := by simp; omega
      have HC := hide (show tkc my ⟨id, ver, bsP ps⟩ k x = 0 from tkc_ok HOK.out HACT2.out HN.out HMYB.out (by rw [HES.out, HNN.out]; exact h60))
      have HTL := hide (show Tl (es ++ [(⟨s.nx, ver, k, x⟩ : Ev)]) from by have := tkh_tl (my := my) HMY.out HG.out HC.out; unfold tkh at this; rw [HES.out] at this; rw [← HE0.out]; exact this)
      have HB0 := hide (show tkb my ⟨id, ver, bsP ps⟩ k x = add (bsP ps) (es ++ [(⟨s.nx, ver, k, x⟩ : Ev)]) from by unfold tkb tkh; rw [HC.out, if_pos rfl, HES.out, HE0.out])
      obtain ⟨h, hh⟩ : ∃ h, es ++ [(⟨s.nx, ver, k, x⟩ : Ev)] = h := ⟨_, rfl⟩
      have hes60 : es.length ≤ 60 := by rw [HNN.out]; exact hn60
      have hap : ∀ (W : World) (v : Value), W.ownsRow w7.heap.size 74 4 v (es.length + 1) (cellsE es ++ cellsE [(⟨s.nx, ver, k, x⟩ : Ev)]) → SliceOf W v h := fun W v ho => by
        rw [← hh]
        refine OwnE.slice (B := w7.heap.size) ?_
        unfold OwnE
        rw [List.length_append, cellsE_append]; exact ho
      have HAP := hide hap
      have HHT := hide (show Tl h from by rw [← hh]; exact HTL.out)
      have HB1 := hide (show tkb my ⟨id, ver, bsP ps⟩ k x = add (bsP ps) h from by rw [← hh]; exact HB0.out)
      have HGA := hide (add_good HGT.out.2 HHT.out)
      have hl12 : (bsP ps).length ≤ 12 := HGT.out.1
      have hal := add_len (bsP ps) h
      have hb2 := HR7.out.big
      have HFA := hide (show ∀ V : World, Below w7.heap.size w7 V → (V.cell? ⟨w.heap.size, 2, none⟩ = some (.slice a1 ps.length c1) ∧ V.frozen? ⟨w.heap.size, 2, none⟩ = false) ∧ V.cell? ⟨eb, 0, none⟩ = some (.int .i64 s.nx) ∧ V.cell? ⟨eb, 1, none⟩ = some (.int .i64 ver) ∧ V.cell? ⟨eb, 2, none⟩ = some (.int .i64 k) ∧ V.cell? ⟨eb, 3, none⟩ = some (.string x) from fun V hV => by
        have h1 := HR7.out.down hV
        have h2 := blk_below HEV7.out hV
        obtain ⟨⟨-, -, y⟩, -, -, z⟩ := h1.arg.tri
        exact ⟨⟨y, z⟩, by simp [World.cell?, h2], by simp [World.cell?, h2], by simp [World.cell?, h2], by simp [World.cell?, h2]⟩)
      obtain ⟨i0, hi, hz0, hz1, hz2⟩ := info_parts info_ev
      have hdr : Below w7.heap.size w7 w7.drew := (Below.refl _ _).drew
      have hdl : Below w7.heap.size w7 ((w7.alloc (.cells #[.int .i64 s.nx, .int .i64 ver, .int .i64 k, .string x] 74)).drew) := ((Below.refl _ _).alloc (Nat.le_refl _) _).drew
      obtain ⟨⟨p0, p1⟩, n0, n1, n2, n3⟩ := HFA.out w7 (Below.refl _ _)
      obtain ⟨⟨p2, p3⟩, n4, n5, n6, n7⟩ := HFA.out w7.drew hdr
      obtain ⟨⟨p4, p5⟩, m0, m1, m2, m3⟩ := HFA.out _ hdl
      have HSD := hide (HS7.out.below hdr)
      have HSL := hide (HS7.out.below hdl)
      have HDR := hide hdr
      have HDL := hide hdl
      have HSRCA0 := hide (show ((w7.alloc (.cells (evarr (⟨s.nx, ver, k, x⟩ : Ev)) 74)).drew).heap[w7.heap.size]? = some (.cells (evarr (⟨s.nx, ver, k, x⟩ : Ev)) 74 (0, 0)) from heap_alloc_new w7 _)
      have HLEN := hide hes60
      clear hap hh hdr hdl HTL HB0 HN HMYB HOK HACT2 HACT HMY HSS HHI HFN HE0 HS7 HEV7
      go_upto_region 15 with fail
      go_region_law (first
        | (refine step_append_lies _ rfl (.tmp 68) (.tmp 70) 69 rfl w7.heap.size 74 i0 _ 4 40 Tryz.underlying69 hi hz0 hz1 hz2 rfl (by decide) (.slice aA es.length cA) es.length (cellsE es) (by simp [Act.eval]) (by first | exact HOA.out | exact HOA.out.down (low1 _ _)) ⟨w7.heap.size, 0, none⟩ 1 1 (cellsE [(⟨s.nx, ver, k, x⟩ : Ev)]) (by simp [Act.eval]) rfl (by first | exact HSRCA.out | exact four_src _ (⟨s.nx, ver, k, x⟩ : Ev)) (cellsE_one _) (by omega) (by unfold maxLen; omega) (by omega) (by first | exact HLA.out | (simp; exact Nat.le_succ_of_le HLA.out)) _ rfl ?_
           intro g9 cap9 w9 hown9 hgrow9 hat9 hlt9
           have hb9 : Below w7.heap.size w7 w9 := by
             first
               | exact HBA.out.grown hgrow9 HBA.out.size (fun j hj => (HOA.out.lt hj).1)
               | exact HBAL.out.grown hgrow9 HBAL.out.size (fun j hj => (HOA.out.lt hj).1)
           have HU9 := hide (HAP.out _ _ hown9)
           have HV9 := hide (HO7.out.brs.below hb9)
           have HB9 := hide hb9
           obtain ⟨⟨t0, t1⟩, -⟩ := HFA.out w9 hb9
           clear hown9 hgrow9 hat9 hlt9 hb9)
        | (refine step_append_lies _ rfl (.tmp 68) (.tmp 70) 69 rfl w7.heap.size 74 i0 _ 4 40 Tryz.underlying69 hi hz0 hz1 hz2 rfl (by decide) (.slice aA es.length cA) es.length (cellsE es) (by simp [Act.eval]) (by first | exact HOA.out | exact HOA.out.down (low1 _ _)) ⟨wA.heap.size, 0, none⟩ 1 1 (cellsE [(⟨s.nx, ver, k, x⟩ : Ev)]) (by simp [Act.eval]) rfl (by first | exact HSRCA.out | exact four_src _ (⟨s.nx, ver, k, x⟩ : Ev)) (cellsE_one _) (by omega) (by unfold maxLen; omega) (by omega) (by first | exact HLA.out | (simp; exact Nat.le_succ_of_le HLA.out)) _ rfl ?_
           intro g9 cap9 w9 hown9 hgrow9 hat9 hlt9
           have hb9 : Below w7.heap.size w7 w9 := by
             first
               | exact HBA.out.grown hgrow9 HBA.out.size (fun j hj => (HOA.out.lt hj).1)
               | exact HBAL.out.grown hgrow9 HBAL.out.size (fun j hj => (HOA.out.lt hj).1)
           have HU9 := hide (HAP.out _ _ hown9)
           have HV9 := hide (HO7.out.brs.below hb9)
           have HB9 := hide hb9
           obtain ⟨⟨t0, t1⟩, -⟩ := HFA.out w9 hb9
           clear hown9 hgrow9 hat9 hlt9 hb9)
        | (rw [if_pos (by rfl)]
           go_simp
           go_at_call 103
           refine (own_evsG _ es _ (by first | exact HSD.out | exact HSL.out) (by omega)).mono ?_
           rintro e wA ⟨⟨aA, nA, cA, rfl, hOA⟩, hbA⟩
           obtain ⟨ax, cx, hx3⟩ := hOA.form
           simp only [Value.slice.injEq] at hx3
           obtain ⟨rfl, rfl, rfl⟩ := hx3
           have hbB : Below w7.heap.size w7 wA := (by first | exact HDR.out.trans (hbA.mono HDR.out.size) | exact HDL.out.trans (hbA.mono HDL.out.size))
           try have HSRCA := hide (four_blk (b := w7.heap.size) (blk_below HSRCA0.out hbA))
           have HBA := hide hbB
           have HOA := hide (hOA.mono (by first | exact HDR.out.size | exact HDL.out.size))
           have HLA := hide hbB.size
           have HBAL := hide (hbB.alloc hbB.size (.cells #[.int .i64 s.nx, .int .i64 ver, .int .i64 k, .string x] 74))
           obtain ⟨⟨q0, q1⟩, r0, r1, r2, r3⟩ := HFA.out wA hbB
           obtain ⟨⟨q2, q3⟩, r4, r5, r6, r7⟩ := HFA.out _ HBAL.out
           clear hOA hbA hbB)
        | (rw [if_pos (by rfl)]
           go_simp
           go_at_call 102
           refine (spec_put _ _ (bsP ps) h _ HV9.out HU9.out (by omega) HGT.out.2 HHT.out (show CapOk (.slice a1 ps.length c1) from HCO.out)).mono ?_
           rintro e wB ⟨⟨rB, rfl, hrB, -⟩, hbB⟩
           have HRB := hide hrB
           obtain ⟨ab, cb, rfl⟩ := hrB.form
           have hbC := HB9.out.trans (hbB.mono HB9.out.size)
           have HBB := hide hbC
           obtain ⟨⟨u0, u1⟩, -⟩ := HFA.out wB hbC
           clear hrB hbB hbC)
        | (rw [if_pos (by rfl)]
           go_simp
           go_at_call 65
           refine (spec_own _ (add (bsP ps) h) _ HRB.out (by omega) HGA.out).mono ?_
           rintro e wC ⟨⟨rC, ps5, rfl, hO5, hps5⟩, hbC⟩
           obtain ⟨ar, cr, rfl⟩ := hO5.form
           have hbD := HBB.out.trans (hbC.mono HBB.out.size)
           have HO5 := hide (hO5.mono HBB.out.size)
           have HPS := hide hps5
           have HBC := hide hbD
           obtain ⟨⟨y0, y1⟩, -⟩ := HFA.out wC hbD
           clear hO5 hps5 hbC hbD))
      all_goals
        have HRC := hide (HR7.out.down HBC.out)
        obtain ⟨wD, hwD⟩ : ∃ wD, wC.setCell ⟨w.heap.size, 2, none⟩ (.slice ar ps5.length cr) = wD := ⟨_, rfl⟩
        have HRD := hide (show R2 w wD id ver (.slice ar ps5.length cr) from by
          rw [← hwD]
          exact ⟨HRC.out.low.setCell (p := ⟨w.heap.size, 2, none⟩) (Nat.le_refl _) _, HRC.out.arg.tri2 _, HRC.out.res.off (by omega) _, by simpa using HRC.out.big⟩)
        have HOD := hide (show OwnP wD w7.heap.size (.slice ar ps5.length cr) ps5 from by rw [← hwD]; exact HO5.out.set_low (by omega) _)
        have HWD := hide hwD
        clear hwD HRC HFA HBC HO5
        go_upto_region 16 with fail
        rw [HWD.out]
        obtain ⟨⟨d0, d1, d2⟩, -⟩ := HRD.out.arg.tri
        obtain ⟨⟨e0, e1, e2⟩, f0, f1, f2⟩ := HRD.out.res.tri
        obtain ⟨WZ, hWZ⟩ : ∃ WZ, ((wD.setCell ⟨w.heap.size + 1, 0, none⟩ (.int .i64 id)).setCell ⟨w.heap.size + 1, 1, none⟩ (.int .i64 ver)).setCell ⟨w.heap.size + 1, 2, none⟩ (.slice ar ps5.length cr) = WZ := ⟨_, rfl⟩
        obtain ⟨hz, hzb, hzo⟩ := HRD.out.fin (.int .i64 id) (.int .i64 ver) (.slice ar ps5.length cr) WZ hWZ
        have HZO := hide ((hzo _ _ _ HOD.out hb2).mono hB)
        have HWZ := hide hWZ
        have HZ := hide hz
        clear hz hWZ hzo HRD HOD
        go_wp2
        rw [HWZ.out]
        obtain ⟨⟨s0, s1, s2⟩, -⟩ := HZ.out.tri
        exact bodyPost_ret (v := .tuple #[rv id ver (.slice ar ps5.length cr), .int .i64 0]) (by simp [results, Tryz.results56, go_sem, s0, s1, s2]) rfl ⟨⟨_, ps5, by rw [HC.out], HZO.out, by rw [HPS.out, HB1.out]⟩, hzb⟩
end Go.Proofs.YtfkeokglifpkoaaGreatDoor

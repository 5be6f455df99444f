/-
  Texts that follow one another, joined: RgT, RgD.
-/
import Derived.Test.YtfkeokglifpkoaaGreatDoorJoin30
/-
  A call that a region at work takes, in the program's text. Condition: the table knownKinds reads as its text lays it.
-/
namespace Go.Proofs.YtfkeokglifpkoaaGreatDoor
open Go.RowKit M
open Clk (upd upd_same upd_other)
open Go.Sort (grow)
namespace M
theorem hist_names {es : Evs} (h : Hist es) : ∀ e ∈ es, e.name.size ≤ 12 := fun e he => by
  by_cases h0 : es = []
  · subst h0; cases he
  · exact Tl.names ⟨h0, h⟩ e he
end M
theorem clip_evs (a : Option Addr) (n c : Nat) (w : World) (hc : n ≤ c) :
    Calls Tryz.prog 107 #[.slice a n c] w fun e w' => e = .returned (.slice a n n) ∧ w' = w := by
  have h0 : (0 : Int) ≤ (n : Int) := by omega
  have h1 : (n : Int) ≤ (c : Int) := by omega
  go_enter Tryz.func107, Tryz.ntmps107
  go_wp2
  go_ret
  exact ⟨rfl, rfl⟩
set_option maxRecDepth 20000 in
set_option maxHeartbeats 8000000 in
/-- A call is taken: its code, and the branches that are told then. 'my' tells which events may come. -/
theorem keeper_take (my : St → Ev → Bool) (hmy : ∀ s e, BP (my s e) (May s e)) (id ver : Int) (g B : Nat) (u : Value) (ps : Prs) (k : Int) (x : ByteArray) (w : World) (h : KP w B g u ps id ver) (hB : B ≤ w.heap.size) (hg : GdR ⟨id, ver, bsP ps⟩) (hx : x.size ≤ maxLen) (hkk : KK w) :
    Calls Tryz.prog 59 #[.pointer (some ⟨g, 0, none⟩), .int .i64 k, .string x] w fun e w' => e = .returned (.int .i64 (tkc my ⟨id, ver, bsP ps⟩ k x)) ∧ ∃ u' ps', KP w' B g u' ps' id ver ∧ bsP ps' = tkb my ⟨id, ver, bsP ps⟩ k x ∧ Chg (KS g u) w w' := by
  have HP := hide h
  have HG := hide hg
  have HK := hide hkk
  have HMY := hide hmy
  have HX := hide hx
  obtain ⟨es, hes⟩ : ∃ es, cB (bsP ps) = es := ⟨_, rfl⟩
  obtain ⟨n, hn⟩ : ∃ n, es.length = n := ⟨_, rfl⟩
  obtain ⟨s, hs⟩ : ∃ s, stB (bsP ps) = s := ⟨_, rfl⟩
  have he0 : evR ⟨id, ver, bsP ps⟩ k x = ⟨s.nx, ver, k, x⟩ := by unfold evR; rw [← hs]
  have HES := hide hes
  have HNN := hide hn
  have HSS := hide hs
  have HE0 := hide he0
  have hh := cB_hist hg.2.2.1
  rw [hes] at hh
  have hn60 : n ≤ 60 := by rw [← hn]; exact hh.1
  have hgs := stB_good hg.2.2.1
  rw [hs] at hgs
  have HHI := hide hh
  have HGS := hide hgs
  have HGT := hide hg.2.2.1
  obtain ⟨a1, c1, rfl⟩ := h.own.form
  obtain ⟨⟨y0, y1, y2⟩, -⟩ := h.box.tri
  obtain ⟨bm, hbm⟩ : ∃ bm, bm = (okC k x && my (stB (bsP ps)) (evR ⟨id, ver, bsP ps⟩ k x)) := ⟨_, rfl⟩
  have HBM := hide hbm
  have hok0 : BP (okC k x) (MayG s k x) := by
    unfold okC
    constructor
    · intro e
      rw [Bool.and_eq_true] at e
      exact ⟨hgs, e.1, e.2⟩
    · intro e
      rw [Bool.and_eq_true]; exact ⟨e.2.1, e.2.2⟩
  have HB0K := hide hok0
  have HBMK := hide (show BP bm (MayG s k x ∧ May s (evM s k x)) from by
    have h1 := hmy (stB (bsP ps)) (evR ⟨id, ver, bsP ps⟩ k x)
    have h2 : May s (evR ⟨id, ver, bsP ps⟩ k x) ↔ May s (evM s k x) := by
      unfold evR evM; simp only [hs]; exact may_ver hg.2.1.1 hg.2.1.2
    rw [hs] at h1
    rw [hbm, hs]
    constructor
    · intro e
      rw [Bool.and_eq_true] at e
      exact ⟨hok0.1 e.1, h2.1 (h1.1 e.2)⟩
    · rintro ⟨e1, e2⟩
      rw [Bool.and_eq_true]
      exact ⟨hok0.2 e1, h1.2 (h2.2 e2)⟩)
  clear h hg hkk hmy hes hn hs he0 hh hgs hbm hok0 hx
  go_enter Tryz.func59, Tryz.ntmps59
  go_wp2_with fail
  refine (impl_currentO B _ ps _ HP.out.own HGT.out).mono ?_
  rw [HES.out, HNN.out]
  rintro e w1 ⟨⟨a2, c2, rfl, hcap, hsl⟩, hb1⟩
  have HS1 := hide hsl
  clear hsl y0 y1 y2
  go_wp2_with fail
  refine (impl_fold _ es n _ HS1.out (by have := HNN.out; omega) (fun e he => by have := hist_names HHI.out e he; unfold maxLen; omega) (HK.out.below hb1) (by rw [← HNN.out]; exact HHI.out.2.1)).mono ?_
  rintro e w2 ⟨⟨u0, u1, rfl, hA⟩, hb2⟩
  have hsk : sk es n = s := by rw [← HSS.out]; unfold stB; rw [HES.out, HNN.out]
  rw [hsk] at hA ⊢
  obtain ⟨x0, m0, rfl⟩ := hA.q.1.form
  obtain ⟨x1, m1, rfl⟩ := hA.q.2.form
  have hal3 := low1 w2 (.cells (sarr (.slice x0 s.sg.length m0) (.slice x1 s.tm.length m1) s) 60)
  have hb12 := hb1.trans (hb2.mono hb1.size)
  have hb13 := hb12.trans (hal3.mono hb12.size)
  have HBX := hide (show Blk (w2.alloc (.cells (sarr (.slice x0 s.sg.length m0) (.slice x1 s.tm.length m1) s) 60)) w2.heap.size 6 (sq (.slice x0 s.sg.length m0) (.slice x1 s.tm.length m1) s) 60 from new6 w2 _ _ _ _ _ _ 60)
  have HA3 := hide (hA.down hal3)
  have HS3 := hide ((HS1.out.below hb2).below hal3)
  obtain ⟨w3, hw3⟩ : ∃ w3, w2.alloc (.cells (sarr (.slice x0 s.sg.length m0) (.slice x1 s.tm.length m1) s) 60) = w3 := ⟨_, rfl⟩
  obtain ⟨sb, hsb⟩ : ∃ sb, w2.heap.size = sb := ⟨_, rfl⟩
  rw [hw3] at HBX HA3 HS3 hb13
  rw [hsb] at HBX
  have HW3 := hide hw3
  have HSB := hide hsb
  obtain ⟨⟨b0, b1, b2, b3, b4, b5⟩, -⟩ := HBX.out.hex
  clear hA hal3 hb12 hb2 hb1 HS1 hsk hw3 hsb
  go_wp2_with fail
  rw [HW3.out, HSB.out]
  clear HW3 HSB
  go_wp2_with fail
  refine (impl_may _ _ s k x bm (okC k x) _ HA3.out.c ⟨by have := HGS.out.2.2.1.1; omega, by have := HGS.out.2.2.2.1.1; omega⟩ ⟨nm12 HGS.out.2.2.1, nm12 HGS.out.2.2.2.1⟩ HX.out (HK.out.below hb13) HB0K.out HBMK.out).mono ?_
  rintro e w5 ⟨rfl, hb5'⟩
  have hb5 := hb13.trans (hb5'.mono hb13.size)
  have HP5 := hide (HP.out.down hb5)
  have HBX5 := hide (HBX.out.down hb5')
  have HS5 := hide (HS3.out.below hb5')
  have HT5 := hide ((HA3.out.down hb5').q.1)
  clear HBX HS3 HA3 hb5' hb13 HB0K HBMK b0 b1 b2 b3 b4 b5
  cases hok : okC k x
  · have HC := hide (show tkc my ⟨id, ver, bsP ps⟩ k x = 1 from tkc_bad hok)
    have HB0 := hide (show tkb my ⟨id, ver, bsP ps⟩ k x = bsP ps from by unfold tkb; rw [HC.out, if_neg (by decide)])
    go_wp2
    go_ret
    exact ⟨ret_int (by rw [HC.out]), _, ps, HP5.out, HB0.out.symm, Below.chg hb5 _⟩

  obtain ⟨⟨y0, y1, y2⟩, z0, z1, z2⟩ := HP5.out.box.tri
  obtain ⟨⟨b0, b1, b2, b3, b4, b5⟩, -⟩ := HBX5.out.hex
  have HRV := hide (show rgv ver = ver % 10 from rgv_yes (inB_iff.2 HG.out.2.1))
  by_cases hact : ver % 10 = id
  case neg =>
    have HLD := hide (show (rgv ver == id) = false by rw [HRV.out]; simp [hact])
    go_upto_region 6 with fail
    go_region_with (go_at_call 54; refine (impl_leads _ _ _).mono ?_; rintro e w' ⟨rfl, rfl⟩; rw [HLD.out])
    all_goals
      have hdr : Below w5.heap.size w5 w5.drew := (Below.refl _ _).drew
      have hb5 := hb5.trans (hdr.mono hb5.size)
      have HP5 := hide (HP5.out.down hdr)
      have HBX5 := hide (HBX5.out.down hdr)
      have HS5 := hide (HS5.out.below hdr)
      have HT5 := hide (HT5.out.below hdr)
      clear hdr
      have HC := hide (show tkc my ⟨id, ver, bsP ps⟩ k x = 2 from tkc_passive hok hact)
      have HB0 := hide (show tkb my ⟨id, ver, bsP ps⟩ k x = bsP ps from by unfold tkb; rw [HC.out, if_neg (by decide)])
      go_wp2
      go_ret
      exact ⟨ret_int (by rw [HC.out]), _, ps, HP5.out, HB0.out.symm, Below.chg hb5 _⟩

  have HACT := hide hact
  have HLD := hide (show (rgv ver == id) = true by rw [HRV.out]; simp [hact])
  clear hact
  by_cases hk2 : k = 2
  · have hkb : (k == 2) = true := by simp [hk2]
    have HK2 := hide hk2
    clear hk2
    obtain ⟨cb, hcb⟩ := bp_ex (x ∈ s.sg)
    have HCB := hide hcb
    clear hcb
    cases cb
    · have HN := hide (show ¬ (k = 2 ∧ has (stB (bsP ps)).sg x = true) from fun hh => by have := HCB.out.2 (by rw [← HSS.out]; exact has_iff.1 hh.2); cases this)
      go_upto_region 6 with fail
      go_region_with (go_at_call 54; refine (impl_leads _ _ _).mono ?_; rintro e w' ⟨rfl, rfl⟩; rw [HLD.out])
      all_goals
        have hdr : Below w5.heap.size w5 w5.drew := (Below.refl _ _).drew
        have hb5 := hb5.trans (hdr.mono hb5.size)
        have HP5 := hide (HP5.out.down hdr)
        have HBX5 := hide (HBX5.out.down hdr)
        have HS5 := hide (HS5.out.below hdr)
        have HT5 := hide (HT5.out.below hdr)
        clear hdr
        go_wp2_with fail
        refine (contains_txs _ s.sg x false _ HT5.out (by have := HGS.out.2.2.1.1; omega) HCB.out).mono ?_
        rintro e wv ⟨rfl, hwv⟩
        rw [hwv]
        clear hwv wv
        cases hmy2 : my (stB (bsP ps)) (evR ⟨id, ver, bsP ps⟩ k x)
        · have hbm : bm = false := by rw [HBM.out, hok, hmy2]; rfl
          subst hbm
          have HC := hide (show tkc my ⟨id, ver, bsP ps⟩ k x = 3 from tkc_refused hok HACT.out HN.out hmy2)
          have HB0 := hide (show tkb my ⟨id, ver, bsP ps⟩ k x = bsP ps from by unfold tkb; rw [HC.out, if_neg (by decide)])
          go_wp2
          go_ret
          exact ⟨ret_int (by rw [HC.out]), _, ps, HP5.out, HB0.out.symm, Below.chg hb5 _⟩

        · have hbm : bm = true := by rw [HBM.out, hok, hmy2]; rfl
          subst hbm
          by_cases h60 : n = 60
          · have h60b : ((n : Int) == 60) = true := by simp [h60]
            have h60c : (n == 60) = true := by simp [h60]
            have HC := hide (show tkc my ⟨id, ver, bsP ps⟩ k x = 4 from tkc_full hok HACT.out HN.out hmy2 (by rw [HES.out, HNN.out]; exact h60))
            have HB0 := hide (show tkb my ⟨id, ver, bsP ps⟩ k x = bsP ps from by unfold tkb; rw [HC.out, if_neg (by decide)])
            go_wp2
            go_ret
            exact ⟨ret_int (by rw [HC.out]), _, ps, HP5.out, HB0.out.symm, Below.chg hb5 _⟩

          · have h60b : ((n : Int) == 60) = false := by simp; omega
            have h60c : (n == 60) = false := by simp; omega
            have HC := hide (show tkc my ⟨id, ver, bsP ps⟩ k x = 0 from tkc_ok hok HACT.out HN.out hmy2 (by rw [HES.out, HNN.out]; exact h60))
            have HTL := hide (show Tl (es ++ [(⟨s.nx, ver, k, x⟩ : Ev)]) from by have := tkh_tl (my := my) HMY.out HG.out HC.out; unfold tkh at this; rw [HES.out] at this; rw [← HE0.out]; exact this)
            have HB0 := hide (show tkb my ⟨id, ver, bsP ps⟩ k x = add (bsP ps) (es ++ [(⟨s.nx, ver, k, x⟩ : Ev)]) from by unfold tkb tkh; rw [HC.out, if_pos rfl, HES.out, HE0.out])
            clear HMY
            obtain ⟨i0, hi, hz0, hz1, hz2⟩ := info_parts info_ev
            obtain ⟨W, hW⟩ : ∃ W, w5.drew = W := ⟨_, rfl⟩
            rw [hW] at hb5 HP5 HBX5 HS5 HT5 ⊢
            obtain ⟨⟨y0, y1, y2⟩, z0, z1, z2⟩ := HP5.out.box.tri
            obtain ⟨⟨b0, b1, b2, b3, b4, b5⟩, -⟩ := HBX5.out.hex
            obtain ⟨Wx, hWx⟩ : ∃ Wx, W.drew.alloc (.cells (evarr (⟨s.nx, ver, k, x⟩ : Ev)) 74) = Wx := ⟨_, rfl⟩
            have hbx : Below W.heap.size W Wx := by rw [← hWx]; exact (Below.refl W.heap.size W).drew.alloc (Nat.le_refl _) _
            have hsx : Wx.heap.size = W.heap.size + 1 := by rw [← hWx]; simp
            have HSX := hide hsx
            have HWX := hide hWx
            have HBWX := hide hbx
            have HCLE := hide (show (cellsE es).length = n * 4 from by rw [cellsE_len, HNN.out])
            have HNO := hide (show a2 = none → n = 0 ∧ n = 0 from fun h => by
              obtain ⟨a', c', hv', hr'⟩ := HS5.out
              simp only [Value.slice.injEq] at hv'
              obtain ⟨rfl, -, -⟩ := hv'
              by_cases he : es = []
              · have := HNN.out; rw [he] at this; simp at this; omega
              · obtain ⟨q, o, hq, -⟩ := hr' he; rw [h] at hq; cases hq)
            have HSRC := hide (show ∀ b, a2 = some b → ∀ j u, (cellsE es)[j]? = some u → (W.drew.alloc (.cells (evarr (⟨s.nx, ver, k, x⟩ : Ev)) 74)).cell? (b.add j) = some u from fun b hb' j u hj => by
              rw [hWx]
              obtain ⟨a', c', hv', hr'⟩ := HS5.out
              simp only [Value.slice.injEq] at hv'
              obtain ⟨rfl, -, -⟩ := hv'
              have he : es ≠ [] := by intro e; rw [e] at hj; simp [cellsE] at hj
              obtain ⟨q, o, hq, hl, hrow⟩ := hr' he
              rw [hb'] at hq
              simp only [Option.some.injEq] at hq
              subst hq
              exact row_src (fun i e he => (hrow i e he).below hbx hl) j u hj)
            have HNEWS := hide (four_src W.drew (⟨s.nx, ver, k, x⟩ : Ev))
            have hn61 : n < n + 1 := by omega
            have hn62 : n + 1 ≤ maxLen := by unfold maxLen; omega
            have hn63 : (n + 1) * 40 ≤ 140737488355328 := by omega
            clear hWx hbx hsx hW
            go_upto_region 14 with fail
            go_region_law (first
              | (refine step_append_grows _ rfl (.tmp 61) (.tmp 71) 69 rfl 74 i0 _ 4 40 Tryz.underlying69 hi hz0 hz1 hz2 rfl (by decide) a2 n n (cellsE es) (by simp [Act.eval]) HNO.out HCLE.out HSRC.out ⟨W.heap.size, 0, none⟩ 1 1 (cellsE [(⟨s.nx, ver, k, x⟩ : Ev)]) (by simp [Act.eval]) rfl HNEWS.out (cellsE_one _) hn61 hn62 hn63 ?_; intro v7 w7 hown7 hg7)
              | (rw [if_pos (by rfl)]; go_simp; go_at_call 107; refine (clip_evs _ _ _ _ hcap).mono ?_; rintro e w6 ⟨rfl, rfl⟩))
            all_goals
              have hE7 : OwnE w7 Wx.heap.size v7 (es ++ [(⟨s.nx, ver, k, x⟩ : Ev)]) := by
                have h1 : w7.ownsRow Wx.heap.size 74 4 v7 (n + 1) (cellsE es ++ cellsE [(⟨s.nx, ver, k, x⟩ : Ev)]) := by rw [← HWX.out]; exact hown7
                unfold OwnE
                rw [List.length_append, cellsE_append, HNN.out]; exact h1
              have hgX : Wx.grownBy w7 none := by rw [← HWX.out]; exact hg7
              have hb7 : Below W.heap.size W w7 := HBWX.out.trans (((Below.refl _ Wx).grown hgX (Nat.le_refl _) (fun j hj => by cases hj)).mono HBWX.out.size)
              have HP7 := hide (HP5.out.down hb7)
              have HE7 := hide hE7
              have HAP := hide (show Apt (.slice a1 ps.length c1) v7 from fun q h1 h3 => by
                have h4 := (HP5.out.own.rowBlock h1).2
                have h5 := (hE7.lt h3).1
                have := HSX.out
                omega)
              have hbW7 := hb5.trans (hb7.mono hb5.size)
              have hps12 : ps.length ≤ 1000 := by have := HGT.out.1; rw [bsP_len] at this; omega
              clear hown7 hg7 hgX hE7 hb7 y0 y1 y2 z0 z1 z2 b0 b1 b2 b3 b4 b5 HNEWS HSRC HNO HCLE
              obtain ⟨⟨q0, q1, q2⟩, -⟩ := HP7.out.box.tri
              go_wp2_with fail
              refine (put_branch2 B Wx.heap.size _ v7 ps (es ++ [(⟨s.nx, ver, k, x⟩ : Ev)]) _ HP7.out.own (Nat.le_trans hB hbW7.size) HE7.out HAP.out hps12 HGT.out.2 HTL.out).mono ?_
              rintro e w8 ⟨⟨r, ps8, rfl, hO8, hps8⟩, hg8⟩
              have hbx8 := HP7.out.box.gb hg8 (fun e => HP7.out.apart e.symm)
              obtain ⟨ar, cr, rfl⟩ := hO8.form
              have HKF := hide (show KP (w8.setCell ⟨g, 0, none⟩ (.slice ar ps8.length cr)) B g (.slice ar ps8.length cr) ps8 id ver from ⟨hbx8.tri0 _, hO8.set_off hbx8 (by decide) (by decide) _, HP7.out.lo⟩)
              have HCH := hide (show Chg (KS g (.slice a1 ps.length c1)) w (w8.setCell ⟨g, 0, none⟩ (.slice ar ps8.length cr)) from ((Below.chg hbW7 (KS g (.slice a1 ps.length c1))).trans (Chg.gb (S := KS g (.slice a1 ps.length c1)) hg8 (fun q e => .inr e)) (fun q h => .inl h)).trans (Chg.gb (S := KS g (.slice a1 ps.length c1)) (gbT_set (gbT_refl w8 (some g))) (fun q e => .inl (by simpa using e.symm))) (fun q h => .inl h))
              have HPS8 := hide hps8
              obtain ⟨⟨p0, p1, p2⟩, r0, r1, r2⟩ := hbx8.tri
              clear q0 q1 q2 hg8 hO8 hps8 hbx8 hbW7 HP7 HE7 HAP
              go_wp2
              go_ret
              exact ⟨ret_int (by rw [HC.out]), _, ps8, HKF.out, by rw [HPS8.out, HB0.out], HCH.out⟩
    · go_upto_region 6 with fail
      go_region_with (go_at_call 54; refine (impl_leads _ _ _).mono ?_; rintro e w' ⟨rfl, rfl⟩; rw [HLD.out])
      all_goals
        have hdr : Below w5.heap.size w5 w5.drew := (Below.refl _ _).drew
        have hb5 := hb5.trans (hdr.mono hb5.size)
        have HP5 := hide (HP5.out.down hdr)
        have HBX5 := hide (HBX5.out.down hdr)
        have HS5 := hide (HS5.out.below hdr)
        have HT5 := hide (HT5.out.below hdr)
        clear hdr
        go_wp2_with fail
        refine (contains_txs _ s.sg x true _ HT5.out (by have := HGS.out.2.2.1.1; omega) HCB.out).mono ?_
        rintro e wv ⟨rfl, hwv⟩
        rw [hwv]
        clear hwv wv
        have HC := hide (show tkc my ⟨id, ver, bsP ps⟩ k x = 5 from tkc_again hok HACT.out ⟨HK2.out, has_iff.2 (by rw [HSS.out]; exact HCB.out.1 rfl)⟩)
        have HB0 := hide (show tkb my ⟨id, ver, bsP ps⟩ k x = bsP ps from by unfold tkb; rw [HC.out, if_neg (by decide)])
        go_wp2
        go_ret
        exact ⟨ret_int (by rw [HC.out]), _, ps, HP5.out, HB0.out.symm, Below.chg hb5 _⟩

  · have hkb : (k == 2) = false := by simp [hk2]
    have HN := hide (show ¬ (k = 2 ∧ has (stB (bsP ps)).sg x = true) from fun hh => hk2 hh.1)
    go_upto_region 6 with fail
    go_region_with (go_at_call 54; refine (impl_leads _ _ _).mono ?_; rintro e w' ⟨rfl, rfl⟩; rw [HLD.out])
    all_goals
      have hdr : Below w5.heap.size w5 w5.drew := (Below.refl _ _).drew
      have hb5 := hb5.trans (hdr.mono hb5.size)
      have HP5 := hide (HP5.out.down hdr)
      have HBX5 := hide (HBX5.out.down hdr)
      have HS5 := hide (HS5.out.below hdr)
      have HT5 := hide (HT5.out.below hdr)
      clear hdr
      cases hmy2 : my (stB (bsP ps)) (evR ⟨id, ver, bsP ps⟩ k x)
      · have hbm : bm = false := by rw [HBM.out, hok, hmy2]; rfl
        subst hbm
        have HC := hide (show tkc my ⟨id, ver, bsP ps⟩ k x = 3 from tkc_refused hok HACT.out HN.out hmy2)
        have HB0 := hide (show tkb my ⟨id, ver, bsP ps⟩ k x = bsP ps from by unfold tkb; rw [HC.out, if_neg (by decide)])
        go_wp2
        go_ret
        exact ⟨ret_int (by rw [HC.out]), _, ps, HP5.out, HB0.out.symm, Below.chg hb5 _⟩

      · have hbm : bm = true := by rw [HBM.out, hok, hmy2]; rfl
        subst hbm
        by_cases h60 : n = 60
        · have h60b : ((n : Int) == 60) = true := by simp [h60]
          have h60c : (n == 60) = true := by simp [h60]
          have HC := hide (show tkc my ⟨id, ver, bsP ps⟩ k x = 4 from tkc_full hok HACT.out HN.out hmy2 (by rw [HES.out, HNN.out]; exact h60))
          have HB0 := hide (show tkb my ⟨id, ver, bsP ps⟩ k x = bsP ps from by unfold tkb; rw [HC.out, if_neg (by decide)])
          go_wp2
          go_ret
          exact ⟨ret_int (by rw [HC.out]), _, ps, HP5.out, HB0.out.symm, Below.chg hb5 _⟩

        · have h60b : ((n : Int) == 60) = false := by simp; omega
          have h60c : (n == 60) = false := by simp; omega
          have HC := hide (show tkc my ⟨id, ver, bsP ps⟩ k x = 0 from tkc_ok hok HACT.out HN.out hmy2 (by rw [HES.out, HNN.out]; exact h60))
          have HTL := hide (show Tl (es ++ [(⟨s.nx, ver, k, x⟩ : Ev)]) from by have := tkh_tl (my := my) HMY.out HG.out HC.out; unfold tkh at this; rw [HES.out] at this; rw [← HE0.out]; exact this)
          have HB0 := hide (show tkb my ⟨id, ver, bsP ps⟩ k x = add (bsP ps) (es ++ [(⟨s.nx, ver, k, x⟩ : Ev)]) from by unfold tkb tkh; rw [HC.out, if_pos rfl, HES.out, HE0.out])
          clear HMY
          obtain ⟨i0, hi, hz0, hz1, hz2⟩ := info_parts info_ev
          obtain ⟨W, hW⟩ : ∃ W, w5.drew = W := ⟨_, rfl⟩
          rw [hW] at hb5 HP5 HBX5 HS5 HT5 ⊢
          obtain ⟨⟨y0, y1, y2⟩, z0, z1, z2⟩ := HP5.out.box.tri
          obtain ⟨⟨b0, b1, b2, b3, b4, b5⟩, -⟩ := HBX5.out.hex
          obtain ⟨Wx, hWx⟩ : ∃ Wx, W.drew.alloc (.cells (evarr (⟨s.nx, ver, k, x⟩ : Ev)) 74) = Wx := ⟨_, rfl⟩
          have hbx : Below W.heap.size W Wx := by rw [← hWx]; exact (Below.refl W.heap.size W).drew.alloc (Nat.le_refl _) _
          have hsx : Wx.heap.size = W.heap.size + 1 := by rw [← hWx]; simp
          have HSX := hide hsx
          have HWX := hide hWx
          have HBWX := hide hbx
          have HCLE := hide (show (cellsE es).length = n * 4 from by rw [cellsE_len, HNN.out])
          have HNO := hide (show a2 = none → n = 0 ∧ n = 0 from fun h => by
            obtain ⟨a', c', hv', hr'⟩ := HS5.out
            simp only [Value.slice.injEq] at hv'
            obtain ⟨rfl, -, -⟩ := hv'
            by_cases he : es = []
            · have := HNN.out; rw [he] at this; simp at this; omega
            · obtain ⟨q, o, hq, -⟩ := hr' he; rw [h] at hq; cases hq)
          have HSRC := hide (show ∀ b, a2 = some b → ∀ j u, (cellsE es)[j]? = some u → (W.drew.alloc (.cells (evarr (⟨s.nx, ver, k, x⟩ : Ev)) 74)).cell? (b.add j) = some u from fun b hb' j u hj => by
            rw [hWx]
            obtain ⟨a', c', hv', hr'⟩ := HS5.out
            simp only [Value.slice.injEq] at hv'
            obtain ⟨rfl, -, -⟩ := hv'
            have he : es ≠ [] := by intro e; rw [e] at hj; simp [cellsE] at hj
            obtain ⟨q, o, hq, hl, hrow⟩ := hr' he
            rw [hb'] at hq
            simp only [Option.some.injEq] at hq
            subst hq
            exact row_src (fun i e he => (hrow i e he).below hbx hl) j u hj)
          have HNEWS := hide (four_src W.drew (⟨s.nx, ver, k, x⟩ : Ev))
          have hn61 : n < n + 1 := by omega
          have hn62 : n + 1 ≤ maxLen := by unfold maxLen; omega
          have hn63 : (n + 1) * 40 ≤ 140737488355328 := by omega
          clear hWx hbx hsx hW
          go_upto_region 14 with fail
          go_region_law (first
            | (refine step_append_grows _ rfl (.tmp 61) (.tmp 71) 69 rfl 74 i0 _ 4 40 Tryz.underlying69 hi hz0 hz1 hz2 rfl (by decide) a2 n n (cellsE es) (by simp [Act.eval]) HNO.out HCLE.out HSRC.out ⟨W.heap.size, 0, none⟩ 1 1 (cellsE [(⟨s.nx, ver, k, x⟩ : Ev)]) (by simp [Act.eval]) rfl HNEWS.out (cellsE_one _) hn61 hn62 hn63 ?_; intro v7 w7 hown7 hg7)
            | (rw [if_pos (by rfl)]; go_simp; go_at_call 107; refine (clip_evs _ _ _ _ hcap).mono ?_; rintro e w6 ⟨rfl, rfl⟩))
          all_goals
            have hE7 : OwnE w7 Wx.heap.size v7 (es ++ [(⟨s.nx, ver, k, x⟩ : Ev)]) := by
              have h1 : w7.ownsRow Wx.heap.size 74 4 v7 (n + 1) (cellsE es ++ cellsE [(⟨s.nx, ver, k, x⟩ : Ev)]) := by rw [← HWX.out]; exact hown7
              unfold OwnE
              rw [List.length_append, cellsE_append, HNN.out]; exact h1
            have hgX : Wx.grownBy w7 none := by rw [← HWX.out]; exact hg7
            have hb7 : Below W.heap.size W w7 := HBWX.out.trans (((Below.refl _ Wx).grown hgX (Nat.le_refl _) (fun j hj => by cases hj)).mono HBWX.out.size)
            have HP7 := hide (HP5.out.down hb7)
            have HE7 := hide hE7
            have HAP := hide (show Apt (.slice a1 ps.length c1) v7 from fun q h1 h3 => by
              have h4 := (HP5.out.own.rowBlock h1).2
              have h5 := (hE7.lt h3).1
              have := HSX.out
              omega)
            have hbW7 := hb5.trans (hb7.mono hb5.size)
            have hps12 : ps.length ≤ 1000 := by have := HGT.out.1; rw [bsP_len] at this; omega
            clear hown7 hg7 hgX hE7 hb7 y0 y1 y2 z0 z1 z2 b0 b1 b2 b3 b4 b5 HNEWS HSRC HNO HCLE
            obtain ⟨⟨q0, q1, q2⟩, -⟩ := HP7.out.box.tri
            go_wp2_with fail
            refine (put_branch2 B Wx.heap.size _ v7 ps (es ++ [(⟨s.nx, ver, k, x⟩ : Ev)]) _ HP7.out.own (Nat.le_trans hB hbW7.size) HE7.out HAP.out hps12 HGT.out.2 HTL.out).mono ?_
            rintro e w8 ⟨⟨r, ps8, rfl, hO8, hps8⟩, hg8⟩
            have hbx8 := HP7.out.box.gb hg8 (fun e => HP7.out.apart e.symm)
            obtain ⟨ar, cr, rfl⟩ := hO8.form
            have HKF := hide (show KP (w8.setCell ⟨g, 0, none⟩ (.slice ar ps8.length cr)) B g (.slice ar ps8.length cr) ps8 id ver from ⟨hbx8.tri0 _, hO8.set_off hbx8 (by decide) (by decide) _, HP7.out.lo⟩)
            have HCH := hide (show Chg (KS g (.slice a1 ps.length c1)) w (w8.setCell ⟨g, 0, none⟩ (.slice ar ps8.length cr)) from ((Below.chg hbW7 (KS g (.slice a1 ps.length c1))).trans (Chg.gb (S := KS g (.slice a1 ps.length c1)) hg8 (fun q e => .inr e)) (fun q h => .inl h)).trans (Chg.gb (S := KS g (.slice a1 ps.length c1)) (gbT_set (gbT_refl w8 (some g))) (fun q e => .inl (by simpa using e.symm))) (fun q h => .inl h))
            have HPS8 := hide hps8
            obtain ⟨⟨p0, p1, p2⟩, r0, r1, r2⟩ := hbx8.tri
            clear q0 q1 q2 hg8 hO8 hps8 hbx8 hbW7 HP7 HE7 HAP
            go_wp2
            go_ret
            exact ⟨ret_int (by rw [HC.out]), _, ps8, HKF.out, by rw [HPS8.out, HB0.out], HCH.out⟩

end Go.Proofs.YtfkeokglifpkoaaGreatDoor

/-
  TakeLead in the program's text. Condition: the table knownKinds reads as its text lays it.
-/
namespace Go.Proofs.YtfkeokglifpkoaaGreatDoor
open Go.RowKit M
open Go.Sort (grow)
namespace M
theorem KP.setVer {W : World} {B g : Nat} {u : Value} {ps : Prs} {id ver : Int} (h : KP W B g u ps id ver) (n : Int) : KP (W.setCell ⟨g, 2, none⟩ (.int .i64 n)) B g u ps id n :=
  ⟨h.box.tri2 _, h.own.set_off h.box (by decide) (by decide) _, h.lo⟩
theorem R2.set_off {w W : World} {id ver : Int} {v : Value} (h : R2 w W id ver v) {g i : Nat} (hg : w.heap.size + 2 ≤ g) (x : Value) : R2 w (W.setCell ⟨g, i, none⟩ x) id ver v :=
  ⟨h.low.setCell (p := ⟨g, i, none⟩) (by show w.heap.size ≤ g; omega) _, h.arg.off (by omega) _, h.res.off (by omega) _, by rw [World.size_setCell]; exact h.big⟩
end M
set_option maxRecDepth 20000 in
set_option maxHeartbeats 4000000 in
theorem impl_lead_no (id ver : Int) (v : Value) (bs : Brs) (b : Bool) (w : World) (hv : BrsOf w v bs) (hf : FineS bs) (hkk : KK w) (hb : BP b (GdR ⟨id, ver, bs⟩)) (hno : (b && nxb ver id) = false) :
    Calls Tryz.prog 22 #[rv id ver v] w fun e w' => (∃ v ps, e = .returned (.tuple #[rv 0 0 v, .bool false]) ∧ OwnP w' w.heap.size v ps ∧ bsP ps = []) ∧ Below w.heap.size w w' := by
  have HF := hide hf
  have HB := hide hb
  have HK := hide hkk
  obtain ⟨a1, c1, rfl⟩ := hv.form
  obtain ⟨W, hW⟩ : ∃ W, (w.alloc (.cells #[.int .i64 id, .int .i64 ver, .slice a1 bs.length c1] 34)).alloc (.cells #[.int .i64 0, .int .i64 0, .slice none 0 0] 34) = W := ⟨_, rfl⟩
  have HR := hide (show R2 w W id ver (.slice a1 bs.length c1) from by rw [← hW]; exact R2.new w _ _ _)
  have HV := hide (hv.below HR.out.low)
  have HW := hide hW
  obtain ⟨⟨d0, d1, d2⟩, -⟩ := HR.out.arg.tri
  rw [← hW] at d0 d1 d2
  clear hv hf hb hkk hW
  cases b
  · go_enter Tryz.func22, Tryz.ntmps22
    go_wp2_with fail
    rw [HW.out]
    clear HW d0 d1 d2
    refine (impl_goodR id ver _ bs false _ HV.out HF.out (HK.out.below HR.out.low) HB.out).mono ?_
    rintro e w1 ⟨rfl, hb1⟩
    have HR1 := hide (HR.out.down hb1)
    obtain ⟨WZ, hWZ⟩ : ∃ WZ, ((w1.setCell ⟨w.heap.size + 1, 0, none⟩ (.int .i64 0)).setCell ⟨w.heap.size + 1, 1, none⟩ (.int .i64 0)).setCell ⟨w.heap.size + 1, 2, none⟩ (.slice none 0 0) = WZ := ⟨_, rfl⟩
    obtain ⟨hz, hzb, -⟩ := HR1.out.fin (.int .i64 0) (.int .i64 0) (.slice none 0 0) WZ hWZ
    obtain ⟨⟨e0, e1, e2⟩, f0, f1, f2⟩ := HR1.out.res.tri
    have HWZ := hide hWZ
    have HZ := hide hz
    clear hz hWZ
    go_wp2
    rw [HWZ.out]
    clear e0 e1 e2 f0 f1 f2
    obtain ⟨⟨e0, e1, e2⟩, -⟩ := HZ.out.tri
    exact bodyPost_ret (v := .tuple #[rv 0 0 (.slice none 0 0), .bool false]) (by simp [results, Tryz.results22, go_sem, e0, e1, e2]) rfl ⟨⟨_, [], rfl, OwnP.nil _ _, rfl⟩, hzb⟩
  · have HN := hide (show nxb ver id = false from by simpa using hno)
    go_enter Tryz.func22, Tryz.ntmps22
    go_wp2_with fail
    rw [HW.out]
    clear HW d0 d1 d2
    refine (impl_goodR id ver _ bs true _ HV.out HF.out (HK.out.below HR.out.low) HB.out).mono ?_
    rintro e w1 ⟨rfl, hb1⟩
    have HR1 := hide (HR.out.down hb1)
    obtain ⟨⟨d0, d1, d2⟩, -⟩ := HR1.out.arg.tri
    go_wp2_with fail
    refine (impl_next _ _ _).mono ?_
    rw [HN.out]
    rintro e w2 ⟨rfl, hw2⟩
    rw [hw2]
    clear hw2 w2
    obtain ⟨WZ, hWZ⟩ : ∃ WZ, ((w1.setCell ⟨w.heap.size + 1, 0, none⟩ (.int .i64 0)).setCell ⟨w.heap.size + 1, 1, none⟩ (.int .i64 0)).setCell ⟨w.heap.size + 1, 2, none⟩ (.slice none 0 0) = WZ := ⟨_, rfl⟩
    obtain ⟨hz, hzb, -⟩ := HR1.out.fin (.int .i64 0) (.int .i64 0) (.slice none 0 0) WZ hWZ
    obtain ⟨⟨e0, e1, e2⟩, f0, f1, f2⟩ := HR1.out.res.tri
    have HWZ := hide hWZ
    have HZ := hide hz
    clear hz hWZ
    go_wp2
    rw [HWZ.out]
    clear e0 e1 e2 f0 f1 f2
    obtain ⟨⟨e0, e1, e2⟩, -⟩ := HZ.out.tri
    exact bodyPost_ret (v := .tuple #[rv 0 0 (.slice none 0 0), .bool false]) (by simp [results, Tryz.results22, go_sem, e0, e1, e2]) rfl ⟨⟨_, [], rfl, OwnP.nil _ _, rfl⟩, hzb⟩
set_option maxRecDepth 20000 in
set_option maxHeartbeats 4000000 in
theorem impl_lead_ok (id ver : Int) (v : Value) (bs : Brs) (w : World) (hv : BrsOf w v bs) (hf : FineS bs) (hkk : KK w) (hb : GdR ⟨id, ver, bs⟩) (hno : nxb ver id = true) :
    Calls Tryz.prog 22 #[rv id ver v] w fun e w' => (∃ v ps, e = .returned (.tuple #[rv id (nx ver id) v, .bool true]) ∧ OwnP w' w.heap.size v ps ∧ bsP ps = bs) ∧ Below w.heap.size w w' := by
  have HF := hide hf
  have HB := hide hb
  have HK := hide hkk
  obtain ⟨a1, c1, rfl⟩ := hv.form
  obtain ⟨W, hW⟩ : ∃ W, (w.alloc (.cells #[.int .i64 id, .int .i64 ver, .slice a1 bs.length c1] 34)).alloc (.cells #[.int .i64 0, .int .i64 0, .slice none 0 0] 34) = W := ⟨_, rfl⟩
  have HR := hide (show R2 w W id ver (.slice a1 bs.length c1) from by rw [← hW]; exact R2.new w _ _ _)
  have HV := hide (hv.below HR.out.low)
  have HW := hide hW
  obtain ⟨⟨d0, d1, d2⟩, -⟩ := HR.out.arg.tri
  rw [← hW] at d0 d1 d2
  clear hv hf hb hkk hW
  have HBT := hide (show BP true (GdR ⟨id, ver, bs⟩) from ⟨fun _ => HB.out, fun _ => rfl⟩)
  have HN := hide hno
  have HNX := hide (nxa_yes hno)
  obtain ⟨n, hn⟩ : ∃ n, nx ver id = n := ⟨_, rfl⟩
  rw [hn] at HNX ⊢
  clear hno hn
  go_enter Tryz.func22, Tryz.ntmps22
  go_wp2_with fail
  rw [HW.out]
  clear HW d0 d1 d2
  refine (impl_goodR id ver _ bs true _ HV.out HF.out (HK.out.below HR.out.low) HBT.out).mono ?_
  rintro e w1 ⟨rfl, hb1⟩
  have HR1 := hide (HR.out.down hb1)
  have HV1 := hide (HV.out.below hb1)
  obtain ⟨⟨d0, d1, d2⟩, -⟩ := HR1.out.arg.tri
  clear hb1 HR HV
  go_wp2_with fail
  refine (impl_next _ _ _).mono ?_
  rw [HN.out, HNX.out]
  rintro e w2 ⟨rfl, hw2⟩
  rw [hw2]
  clear hw2 w2
  go_wp2_with fail
  refine (keeper_of id ver _ bs _ HV1.out HF.out HB.out.2.2.1.2.1).mono ?_
  rintro e w3 ⟨⟨g, u, ps, rfl, hKP, hps⟩, hb3⟩
  have HR3 := hide (HR1.out.down hb3)
  have HKP := hide hKP
  have HPS := hide hps
  have hgB : w.heap.size + 2 ≤ g := Nat.le_trans HR1.out.big hKP.lo
  obtain ⟨au, cu, rfl⟩ := hKP.own.form
  obtain ⟨⟨y0, y1, y2⟩, z0, z1, z2⟩ := hKP.box.tri
  obtain ⟨w4, hw4⟩ : ∃ w4, w3.setCell ⟨g, 2, none⟩ (.int .i64 n) = w4 := ⟨_, rfl⟩
  have HKP4 := hide (show KP w4 w1.heap.size g (.slice au ps.length cu) ps id n from by rw [← hw4]; exact hKP.setVer n)
  have HR4 := hide (show R2 w w4 id ver (.slice a1 bs.length c1) from by rw [← hw4]; exact HR3.out.set_off hgB _)
  have HW4 := hide hw4
  have HB1 := hide HR1.out.big
  clear hb3 hKP hps d0 d1 d2 HR1 HR3 HV1 hw4
  go_wp2_with fail
  rw [HW4.out]
  clear y0 y1 y2 z0 z1 z2 HW4
  refine (keeper_region id n g w1.heap.size _ ps _ HKP4.out).mono ?_
  rintro e w5 ⟨rfl, hb5⟩
  have HR5 := hide (HR4.out.down hb5)
  have HO5 := hide (HKP4.out.own.down hb5)
  obtain ⟨WZ, hWZ⟩ : ∃ WZ, ((w5.setCell ⟨w.heap.size + 1, 0, none⟩ (.int .i64 id)).setCell ⟨w.heap.size + 1, 1, none⟩ (.int .i64 n)).setCell ⟨w.heap.size + 1, 2, none⟩ (.slice au ps.length cu) = WZ := ⟨_, rfl⟩
  obtain ⟨hz, hzb, hzo⟩ := HR5.out.fin (.int .i64 id) (.int .i64 n) (.slice au ps.length cu) WZ hWZ
  have HZO := hide (hzo _ _ _ HO5.out HB1.out)
  obtain ⟨⟨e0, e1, e2⟩, f0, f1, f2⟩ := HR5.out.res.tri
  have HWZ := hide hWZ
  have HZ := hide hz
  clear hz hWZ hzo hb5 HKP HKP4 HR4 HR5 HO5
  go_wp2
  rw [HWZ.out]
  clear e0 e1 e2 f0 f1 f2
  obtain ⟨⟨e0, e1, e2⟩, -⟩ := HZ.out.tri
  exact bodyPost_ret (v := .tuple #[rv id n (.slice au ps.length cu), .bool true]) (by simp [results, Tryz.results22, go_sem, e0, e1, e2]) rfl ⟨⟨_, ps, rfl, HZO.out, HPS.out⟩, hzb⟩
end Go.Proofs.YtfkeokglifpkoaaGreatDoor

/-
  Texts that follow one another, joined: BrHd, RgA, StB.
-/
import Derived.Test.YtfkeokglifpkoaaGreatDoorJoin9
import Derived.Test.YtfkeokglifpkoaaGreatDoorJoin8
/-
  The law's look whether marks are still there, on branches and tellings.
-/
namespace Go.Proofs.YtfkeokglifpkoaaGreatDoor
open Go.RowKit M
open Go.Sort (grow)
namespace M
theorem mkP_at : ∀ (k0 : Nat) (ps : Prs) (k : Nat) (p : Value × Evs), ps[k]? = some p → (mkP k0 ps)[k]? = some (p.1, mkE (k0 + 4 * evn (ps.take k)) p.2.length)
  | k0, [], k, p, h => by simp at h
  | k0, q :: r, 0, p, h => by simp at h; subst h; simp [mkP, evn]
  | k0, q :: r, k + 1, p, h => by
    have := mkP_at (k0 + 4 * q.2.length) r k p (by simpa using h)
    simp only [mkP, List.getElem?_cons_succ, List.take_succ_cons, evn]
    rw [this]
    congr 3; omega
theorem evn_le {n : Nat} : ∀ {ps : Prs}, (∀ p ∈ ps, p.2.length ≤ n) → evn ps ≤ n * ps.length
  | [], _ => by simp [evn]
  | p :: r, h => by
    have h1 := h p (by simp)
    have h2 := evn_le (ps := r) (fun q hq => h q (by simp [hq]))
    simp only [evn, List.length_cons, Nat.mul_succ]
    omega
theorem vsP_len2 (k : Nat) (ps : Prs) : (mkP k ps).length = ps.length := mkP_len k ps
end M
set_option maxHeartbeats 2000000 in
theorem held_brs (B k0 : Nat) (v : Value) (ps : Prs) (w : World) (h : OwnP w B v (mkP k0 ps)) (hn : ps.length ≤ 1048576) (hl : ∀ p ∈ ps, p.2.length ≤ 1048576) (h1 : 1 ≤ k0) (hk0 : k0 + 4 * evn ps ≤ 20000000) :
    Calls Tryz.prog 110 #[v, .int .i64 (k0 : Int)] w fun e w' => e = .returned (.int .i64 ((k0 + 4 * evn ps : Nat) : Int)) ∧ Below w.heap.size w w' := by
  have HP := hide h
  have HL := hide hl
  obtain ⟨a, cap, hv⟩ := h.form
  rw [mkP_len] at hv
  subst hv
  clear h hl
  go_enter Tryz.func110, Tryz.ntmps110
  go_wp2
  go_loopw [1, 5] (fun x i wr => ∃ k q : Nat, k ≤ ps.length ∧ i = .int .i64 k ∧ x = .int .i64 q ∧ Hid (q = k0 + 4 * evn (ps.take k)) ∧ q ≤ 20000000 ∧ Below w.heap.size w wr) (fun _ i _ => ps.length - (intOf i).toNat)
  case atStart => exact ⟨0, k0, Nat.zero_le _, rfl, rfl, hide (by simp [evn]), by omega, Below.refl _ _⟩
  case round =>
    obtain ⟨k, q, hk, rfl, rfl, HQ, hq, hbw⟩ := hrel
    by_cases hlt : k < ps.length
    · obtain ⟨u, es, he⟩ : ∃ u es, ps[k]? = some (u, es) := ⟨ps[k].1, ps[k].2, List.getElem?_eq_getElem hlt⟩
      have hat := mkP_at k0 ps k (u, es) he
      rw [← HQ.out] at hat
      have hO := HP.out.down hbw
      rcases hO.split with ⟨h0, h0'⟩ | ⟨g, cap', hva, hB, hgl, -⟩
      · have := congrArg List.length h0'
        rw [mkP_len, List.length_nil] at this
        omega
      · simp only [Value.slice.injEq] at hva
        obtain ⟨rfl, -, -⟩ := hva
        have hcc := own1_cellm hO.row (j := k) (x := u) (vsP_at hat)
        have hev := hO.evs _ (List.mem_of_getElem? hat)
        have hsl : SliceOf wr u (mkE q es.length) := hev.slice
        obtain ⟨au, cu, hu⟩ := hsl.form
        rw [mkE_len] at hu
        subst hu
        have hle := HL.out _ (List.mem_of_getElem? he)
        have htk : evn (ps.take (k + 1)) = evn (ps.take k) + es.length := by
          rw [take_snocB he, evn_app]; simp [evn]
        have hq3 : q + 4 * es.length ≤ 20000000 := by
          have := HQ.out
          have := evn_take_le ps (k + 1)
          omega
        have hq1 : 1 ≤ q := by have := HQ.out; omega
        have HQ2 := hide (show q + 4 * es.length = k0 + 4 * evn (ps.take (k + 1)) by rw [htk, HQ.out]; omega)
        have HSL := hide hsl
        have hle2 : es.length ≤ 1048576 := hle
        have hkn : ¬ (((q + 4 * es.length : Nat) : Int) < 0) := by omega
        clear hat hO hev hsl hle htk he HQ
        go_wp2_with fail
        refine (held_evs _ q es.length _ HSL.out hle2 hq1 (by omega)).mono ?_
        rintro e w1 ⟨rfl, hb⟩
        have hb2 := hbw.trans (hb.mono hbw.size)
        clear hb hcc HSL
        go_wp2
        go_roundw
        case rel => exact ⟨k + 1, q + 4 * es.length, by omega, by go_num, rfl, HQ2, hq3, hb2⟩
        case measure => simp [intOf]; omega
    · obtain rfl : k = ps.length := by omega
      have hQ := HQ.out
      rw [List.take_length] at hQ
      have HQ2 := hide hQ
      clear hQ HQ HL HP
      go_wp2
      go_ret
      exact ⟨ret_int (by rw [HQ2.out]), hbw⟩
set_option maxHeartbeats 1000000 in
theorem held_tell (B k0 : Nat) (v : Value) (ps : Prs) (w : World) (h : OwnP w B v (mkP k0 ps)) (hn : ps.length ≤ 1048576) (hl : ∀ p ∈ ps, p.2.length ≤ 1048576) (h1 : 1 ≤ k0) (hk0 : k0 + 4 * evn ps ≤ 20000000) :
    Calls Tryz.prog 62 #[.agg #[v], .int .i64 (k0 : Int)] w fun e w' => e = .returned (.int .i64 ((k0 + 4 * evn ps : Nat) : Int)) ∧ Below w.heap.size w w' := by
  have HL := hide hl
  have hal := (Below.refl w.heap.size w).alloc (Nat.le_refl _) (.cells #[v] 32)
  have HP := hide (h.down hal)
  obtain ⟨a, cap, hv⟩ := h.form
  rw [mkP_len] at hv
  subst hv
  have hkn : ¬ (((k0 + 4 * evn ps : Nat) : Int) < 0) := by omega
  obtain ⟨mm, hmm⟩ : ∃ mm, k0 + 4 * evn ps = mm := ⟨_, rfl⟩
  have HMM := hide hmm
  rw [hmm] at hkn ⊢
  clear h hl hmm
  go_enter Tryz.func62, Tryz.ntmps62
  go_wp2_with fail
  refine (held_brs B k0 _ ps _ HP.out hn HL.out h1 hk0).mono ?_
  rw [HMM.out]
  rintro e w1 ⟨rfl, hb⟩
  have hbw := hal.trans (hb.mono hal.size)
  clear hb hal HP
  go_wp2
  go_ret
  exact ⟨rfl, hbw⟩
end Go.Proofs.YtfkeokglifpkoaaGreatDoor

/-
  The law's helpers on regions: size, a copy in memory of its own, that two of the same are told alike, marks on a copy.
-/
namespace Go.Proofs.YtfkeokglifpkoaaGreatDoor
open Go.RowKit M
open Go.Sort (grow)
namespace M
/-- A copy under way: the argument's box, the result's, the one that is built. -/
structure TR (w W : World) (id ver : Int) (v x : Value) : Prop where
  low : Below w.heap.size w W
  arg : Blk W w.heap.size 3 (q3 (.int .i64 id) (.int .i64 ver) v) 26
  res : Blk W (w.heap.size + 1) 3 (q3 (.int .i64 0) (.int .i64 0) (.slice none 0 0)) 34
  out : Blk W (w.heap.size + 1 + 1) 3 (q3 (.int .i64 id) (.int .i64 ver) x) 34
  big : w.heap.size + 3 ≤ W.heap.size
theorem TR.down {w W W' : World} {id ver : Int} {v x : Value} (h : TR w W id ver v x) (hb : Below W.heap.size W W') : TR w W' id ver v x :=
  ⟨h.low.trans (hb.mono h.low.size), h.arg.down hb, h.res.down hb, h.out.down hb, Nat.le_trans h.big hb.size⟩
theorem TR.new (w : World) (id ver : Int) (v : Value) : TR w (((w.alloc (.cells #[.int .i64 id, .int .i64 ver, v] 26)).alloc (.cells #[.int .i64 0, .int .i64 0, .slice none 0 0] 34)).alloc (.cells #[.int .i64 id, .int .i64 ver, .slice none 0 0] 34)) id ver v (.slice none 0 0) := by
  refine ⟨(((Below.refl _ w).alloc (Nat.le_refl _) _).alloc (by simp) _).alloc (by simp; omega) _, ((new3 w _ _ _ 26).alloc _).alloc _, ?_, ?_, by simp⟩
  · have := (new3 (w.alloc (.cells #[.int .i64 id, .int .i64 ver, v] 26)) (.int .i64 0) (.int .i64 0) (.slice none 0 0) 34).alloc (.cells #[.int .i64 id, .int .i64 ver, .slice none 0 0] 34)
    rw [World.size_alloc] at this; exact this
  · have := new3 ((w.alloc (.cells #[.int .i64 id, .int .i64 ver, v] 26)).alloc (.cells #[.int .i64 0, .int .i64 0, .slice none 0 0] 34)) (.int .i64 id) (.int .i64 ver) (.slice none 0 0) 34
    rw [World.size_alloc, World.size_alloc] at this; exact this
theorem TR.put {w W : World} {id ver : Int} {v x : Value} (h : TR w W id ver v x) (u : Value) : TR w (W.setCell ⟨w.heap.size + 1 + 1, 2, none⟩ u) id ver v u :=
  ⟨h.low.setCell (p := ⟨w.heap.size + 1 + 1, 2, none⟩) (by show w.heap.size ≤ w.heap.size + 1 + 1; omega) _, h.arg.off (by omega) _, h.res.off (by omega) _, h.out.tri2 _, by rw [World.size_setCell]; exact h.big⟩
end M
set_option maxHeartbeats 1000000 in
set_option maxRecDepth 20000 in
theorem to_region (id ver : Int) (v : Value) (bs : Brs) (w : World) (hv : BrsOf w v bs) (hf : FineS bs) :
    Calls Tryz.prog 14 #[rv id ver v] w fun e w' => (∃ g ps, e = .returned (rv id ver (.slice (some ⟨g, 0, none⟩) bs.length bs.length)) ∧ OwnP w' w.heap.size (.slice (some ⟨g, 0, none⟩) bs.length bs.length) ps ∧ bsP ps = bs) ∧ Below w.heap.size w w' := by
  have HV := hide hv
  have HF := hide hf
  obtain ⟨a1, c1, rfl⟩ := hv.form
  obtain ⟨W, hW⟩ : ∃ W, ((w.alloc (.cells #[.int .i64 id, .int .i64 ver, .slice a1 bs.length c1] 26)).alloc (.cells #[.int .i64 0, .int .i64 0, .slice none 0 0] 34)).alloc (.cells #[.int .i64 id, .int .i64 ver, .slice none 0 0] 34) = W := ⟨_, rfl⟩
  have HT0 := hide (show TR w W id ver (.slice a1 bs.length c1) (.slice none 0 0) from by rw [← hW]; exact TR.new w _ _ _)
  have HWW := hide hW
  clear hv hf hW
  go_enter Tryz.func14, Tryz.ntmps14
  go_wp2_with fail
  rw [HWW.out]
  clear HWW
  refine (to_tell _ bs _ (HV.out.below HT0.out.low) HF.out).mono ?_
  rintro e w1 ⟨⟨g, ps, rfl, hX, hps⟩, hb1⟩
  have HT1 := hide (HT0.out.down hb1)
  have HO := hide (hX.mono (show w.heap.size + 3 ≤ W.heap.size from HT0.out.big))
  have HPS := hide hps
  obtain ⟨⟨f0, f1, f2⟩, f3, f4, f5⟩ := HT1.out.out.tri
  obtain ⟨⟨g0, g1, g2⟩, g3, g4, g5⟩ := HT1.out.res.tri
  obtain ⟨WZ, hWZ⟩ : ∃ WZ, ((((w1.setCell ⟨w.heap.size + 1 + 1, 2, none⟩ (.slice (some ⟨g, 0, none⟩) bs.length bs.length)).setCell ⟨w.heap.size + 1, 0, none⟩ (.int .i64 id)).setCell ⟨w.heap.size + 1, 1, none⟩ (.int .i64 ver)).setCell ⟨w.heap.size + 1, 2, none⟩ (.slice (some ⟨g, 0, none⟩) bs.length bs.length)) = WZ := ⟨_, rfl⟩
  have HZ := hide (show Blk WZ (w.heap.size + 1) 3 (q3 (.int .i64 id) (.int .i64 ver) (.slice (some ⟨g, 0, none⟩) bs.length bs.length)) 34 from by rw [← hWZ]; exact (HT1.out.put _).res.put3 _ _ _)
  have HZO := hide (show OwnP WZ w.heap.size (.slice (some ⟨g, 0, none⟩) bs.length bs.length) ps from by
    rw [← hWZ]; exact ((((HO.out.set_low (by omega) _).set_low (by omega) _).set_low (by omega) _).set_low (by omega) _).mono (by omega))
  have HZB := hide (show Below w.heap.size w WZ from by
    rw [← hWZ]; exact ((((HT1.out.low.setCell (p := ⟨w.heap.size + 1 + 1, 2, none⟩) (by show w.heap.size ≤ w.heap.size + 1 + 1; omega) _).setCell (p := ⟨w.heap.size + 1, 0, none⟩) (by show w.heap.size ≤ w.heap.size + 1; omega) _).setCell (p := ⟨w.heap.size + 1, 1, none⟩) (by show w.heap.size ≤ w.heap.size + 1; omega) _).setCell (p := ⟨w.heap.size + 1, 2, none⟩) (by show w.heap.size ≤ w.heap.size + 1; omega) _))
  have HWZ := hide hWZ
  clear hWZ hb1 hX hps HO HT1 HT0 HV HF
  go_wp2
  rw [HWZ.out]
  clear f0 f1 f2 f3 f4 f5 g0 g1 g2 g3 g4 g5
  obtain ⟨⟨e0, e1, e2⟩, -⟩ := HZ.out.tri
  exact bodyPost_ret (v := rv id ver (.slice (some ⟨g, 0, none⟩) bs.length bs.length)) (by simp [results, Tryz.results14, go_sem, e0, e1, e2]) rfl ⟨⟨_, ps, rfl, HZO.out, HPS.out⟩, HZB.out⟩
set_option maxRecDepth 20000 in
theorem eq_region (id ver : Int) (v u : Value) (bs : Brs) (w : World) (hv : BrsOf w v bs) (hu : BrsOf w u bs) (hf : FineS bs) :
    Calls Tryz.prog 16 #[rv id ver v, rv id ver u] w fun e w' => e = .returned (.bool true) ∧ Below w.heap.size w w' := by
  have HF := hide hf
  have hal := ((Below.refl w.heap.size w).alloc (Nat.le_refl _) (.cells #[.int .i64 id, .int .i64 ver, v] 34)).alloc (by simp) (.cells #[.int .i64 id, .int .i64 ver, u] 34)
  have HV := hide (hv.below hal)
  have HU := hide (hu.below hal)
  obtain ⟨a1, c1, rfl⟩ := hv.form
  obtain ⟨a2, c2, rfl⟩ := hu.form
  have h1 : (id != id) = false := by simp
  have h2 : (ver != ver) = false := by simp
  clear hv hu hf
  go_enter Tryz.func16, Tryz.ntmps16
  go_wp2_with fail
  refine (eq_tell _ _ bs _ HV.out HU.out HF.out).mono ?_
  rintro e w1 ⟨rfl, hb1⟩
  have hbw := hal.trans (hb1.mono hal.size)
  clear hb1 hal
  go_wp2
  go_ret
  exact ⟨rfl, hbw⟩
set_option maxRecDepth 20000 in
theorem sz_region (id ver : Int) (v : Value) (bs : Brs) (left : Int) (w : World) (hv : BrsOf w v bs) (hf : Fine bs) (hl0 : 0 ≤ left) (hl1 : left ≤ 1048576) :
    Calls Tryz.prog 12 #[rv id ver v, .int .i64 left] w fun e w' => e = .returned (.int .i64 (szr left (bs.length + wb bs))) ∧ Below w.heap.size w w' := by
  have HF := hide hf
  have ha := (Below.refl w.heap.size w).alloc (Nat.le_refl _) (.cells #[.int .i64 id, .int .i64 ver, v] 26)
  have HV := hide (hv.below ha)
  obtain ⟨a, c, rfl⟩ := hv.form
  clear hv hf
  by_cases hfit : ((bs.length + wb bs : Nat) : Int) ≤ left
  · have hz := szr_yes hfit
    have hge : ¬ (szr left (bs.length + wb bs) < 0) := by rw [hz]; omega
    clear hz
    go_enter Tryz.func12, Tryz.ntmps12
    go_wp2_with fail
    refine (sz_tell _ bs left _ HV.out HF.out hl0 hl1).mono ?_
    rintro e w1 ⟨rfl, hb⟩
    have hb1 := ha.trans (hb.mono ha.size)
    clear hb ha
    go_wp2
    go_ret
    exact ⟨rfl, hb1⟩
  · have hz := szr_no (left := left) (n := bs.length + wb bs) (by omega)
    have hge : szr left (bs.length + wb bs) < 0 := by rw [hz]; omega
    have HZ := hide hz
    clear hz
    go_enter Tryz.func12, Tryz.ntmps12
    go_wp2_with fail
    refine (sz_tell _ bs left _ HV.out HF.out hl0 hl1).mono ?_
    rintro e w1 ⟨rfl, hb⟩
    have hb1 := ha.trans (hb.mono ha.size)
    clear hb ha
    go_wp2
    go_ret
    exact ⟨ret_int (by rw [HZ.out]), hb1⟩
set_option maxRecDepth 20000 in
theorem mark_region (id ver : Int) (B k0 lo hi : Nat) (v : Value) (ps : Prs) (w : World) (h : OwnP w B v ps) (hin : Within lo hi v ps) (hn : ps.length ≤ 1048576) (hl : ∀ p ∈ ps, p.2.length ≤ 1048576) (h1 : 1 ≤ k0) (hk0 : k0 + 4 * evn ps ≤ 20000000) :
    Calls Tryz.prog 19 #[rv id ver v, .int .i64 (k0 : Int)] w fun e w' => e = .returned (.int .i64 ((k0 + 4 * evn ps : Nat) : Int)) ∧ OwnP w' B v (mkP k0 ps) ∧ KeptB lo hi w w' := by
  have HI := hide hin
  have HL := hide hl
  have hal := (Below.refl w.heap.size w).alloc (Nat.le_refl _) (.cells #[.int .i64 id, .int .i64 ver, v] 34)
  have HP := hide (h.down hal)
  have HK := hide (KeptB.of (lo := lo) (hi := hi) (gbT_below (gbT_refl w none) hal) (fun g hg => by cases hg))
  obtain ⟨a, cap, rfl⟩ := h.form
  clear h hin hl hal
  go_enter Tryz.func19, Tryz.ntmps19
  go_wp2_with fail
  refine (mark_tell B k0 lo hi _ ps _ HP.out HI.out hn HL.out h1 hk0).mono ?_
  rintro e w1 ⟨rfl, hO, hk⟩
  have HO := hide hO
  have HK2 := hide (HK.out.trans hk)
  clear hO hk HK HP
  go_wp2
  go_ret
  exact ⟨rfl, HO.out, HK2.out⟩
set_option maxRecDepth 20000 in
theorem held_region (id ver : Int) (B k0 : Nat) (v : Value) (ps : Prs) (w : World) (h : OwnP w B v (mkP k0 ps)) (hn : ps.length ≤ 1048576) (hl : ∀ p ∈ ps, p.2.length ≤ 1048576) (h1 : 1 ≤ k0) (hk0 : k0 + 4 * evn ps ≤ 20000000) :
    Calls Tryz.prog 20 #[rv id ver v, .int .i64 (k0 : Int)] w fun e w' => e = .returned (.int .i64 ((k0 + 4 * evn ps : Nat) : Int)) ∧ Below w.heap.size w w' := by
  have HL := hide hl
  have hal := (Below.refl w.heap.size w).alloc (Nat.le_refl _) (.cells #[.int .i64 id, .int .i64 ver, v] 34)
  have HP := hide (h.down hal)
  obtain ⟨a, cap, hv⟩ := h.form
  rw [mkP_len] at hv
  subst hv
  have hkn : ¬ (((k0 + 4 * evn ps : Nat) : Int) < 0) := by omega
  obtain ⟨mm, hmm⟩ : ∃ mm, k0 + 4 * evn ps = mm := ⟨_, rfl⟩
  have HMM := hide hmm
  rw [hmm] at hkn ⊢
  clear h hl hmm
  go_enter Tryz.func20, Tryz.ntmps20
  go_wp2_with fail
  refine (held_tell B k0 _ ps _ HP.out hn HL.out h1 (by have := HMM.out; omega)).mono ?_
  rw [HMM.out]
  rintro e w1 ⟨rfl, hb⟩
  have hbw := hal.trans (hb.mono hal.size)
  clear hb hal HP
  go_wp2
  go_ret
  exact ⟨rfl, hbw⟩
end Go.Proofs.YtfkeokglifpkoaaGreatDoor

/-
  GoodState in both texts: it returns whether the state is good; nothing that was there is turned.
-/
namespace Go.Proofs.YtfkeokglifpkoaaGreatDoor
open Go.RowKit M
open Go.Sort (grow)
set_option maxRecDepth 20000 in
set_option maxHeartbeats 4000000 in
theorem impl_goodSt (v0 v1 : Value) (s : St) (b : Bool) (w : World) (hv : StC w v0 v1 s) (hs : ShortT s) (hn : NmT s) (hb : BP b (GoodSt s)) :
    Calls Tryz.prog 150 #[stv v0 v1 s] w fun e w' => e = .returned (.bool b) ∧ Below w.heap.size w w' := by
  obtain ⟨st, nx, ca, dn, sg, tm⟩ := s
  obtain ⟨a0, c0, rfl⟩ := hv.1.1.form
  obtain ⟨a1, c1, rfl⟩ := hv.2.1.form
  have hbA := (Below.refl w.heap.size w).alloc (Nat.le_refl _) (.cells #[.int .i64 st, .int .i64 nx, .bool ca, .int .i64 dn, .slice a0 sg.length c0, .slice a1 tm.length c1] 60)
  have HV := hide (show TxC _ (.slice a0 sg.length c0) sg ∧ TxC _ (.slice a1 tm.length c1) tm from hv.below hbA)
  have HS := hide (show sg.length ≤ 1048576 ∧ tm.length ≤ 1048576 from hs)
  have HN := hide (show (∀ x ∈ sg, x.size ≤ maxLen) ∧ ∀ x ∈ tm, x.size ≤ maxLen from hn)
  have HB := hide (show b = true ↔ ((1 ≤ nx ∧ nx ≤ 1001) ∧ (0 ≤ dn ∧ dn ≤ 1000) ∧ Nms false sg ∧ Nms true tm ∧ ((st = 0 ∧ nx = 1 ∧ ca = false ∧ dn = 0 ∧ sg = [] ∧ tm = []) ∨ ((st = 1 ∨ st = 2) ∧ 1 < nx))) from hb)
  clear hv hs hn hb
  obtain ⟨b3, hb3⟩ := bp_ex (Nms false sg)
  obtain ⟨b4, hb4⟩ := bp_ex (Nms true tm)
  have HB3 := hide hb3
  have HB4 := hide hb4
  clear hb3 hb4
  cases h1 : inB nx 1 1001
  · have HF := hide (BP.no HB.out (fun h => by have := h.1; simp only [inB, Bool.and_eq_false_iff, decide_eq_false_iff_not] at h1; omega))
    go_enter Tryz.func150, Tryz.ntmps150
    go_wp2_with (go_at_call 133; refine (impl_in _ _ _ _).mono ?_; rintro e w' ⟨rfl, rfl⟩; first | rw [h1])
    go_ret
    exact ⟨ret_bool HF.out.symm, hbA⟩
  cases h2 : inB dn 0 1000
  · have HF := hide (BP.no HB.out (fun h => by have := h.2.1; simp only [inB, Bool.and_eq_false_iff, decide_eq_false_iff_not] at h2; omega))
    go_enter Tryz.func150, Tryz.ntmps150
    go_wp2_with (go_at_call 133; refine (impl_in _ _ _ _).mono ?_; rintro e w' ⟨rfl, rfl⟩; first | rw [h1] | rw [h2])
    go_ret
    exact ⟨ret_bool HF.out.symm, hbA⟩
  cases b3 with
  | false =>
    have HF := hide (BP.no HB.out (fun h => by have := HB3.out.2 h.2.2.1; cases this))
    go_enter Tryz.func150, Tryz.ntmps150
    go_wp2_with (first | (go_at_call 133; refine (impl_in _ _ _ _).mono ?_; rintro e w' ⟨rfl, rfl⟩; first | rw [h1] | rw [h2]) | (go_at_call 179; refine (impl_signals _ _ false _ HV.out.1 HS.out.1 HN.out.1 HB3.out).mono ?_; rintro e w' ⟨rfl, rfl⟩))
    go_ret
    exact ⟨ret_bool HF.out.symm, hbA⟩
  | true =>
  cases b4 with
  | false =>
    have HF := hide (BP.no HB.out (fun h => by have := HB4.out.2 h.2.2.2.1; cases this))
    go_enter Tryz.func150, Tryz.ntmps150
    go_wp2_with (first | (go_at_call 133; refine (impl_in _ _ _ _).mono ?_; rintro e w' ⟨rfl, rfl⟩; first | rw [h1] | rw [h2]) | (go_at_call 179; refine (impl_signals _ _ true _ HV.out.1 HS.out.1 HN.out.1 HB3.out).mono ?_; rintro e w' ⟨rfl, rfl⟩) | (go_at_call 180; refine (impl_timers _ _ false _ HV.out.2 HS.out.2 HN.out.2 HB4.out).mono ?_; rintro e w' ⟨rfl, rfl⟩))
    go_ret
    exact ⟨ret_bool HF.out.symm, hbA⟩
  | true =>
  have HG := hide (show (b = true ↔ ((st = 0 ∧ nx = 1 ∧ ca = false ∧ dn = 0 ∧ sg = [] ∧ tm = []) ∨ ((st = 1 ∨ st = 2) ∧ 1 < nx))) from by
    simp only [inB, Bool.and_eq_true, decide_eq_true_eq] at h1 h2
    exact ⟨fun h => (HB.out.1 h).2.2.2.2, fun h => HB.out.2 ⟨h1, h2, HB3.out.1 rfl, HB4.out.1 rfl, h⟩⟩)
  have no := fun (h : ¬ ((st = 0 ∧ nx = 1 ∧ ca = false ∧ dn = 0 ∧ sg = [] ∧ tm = []) ∨ ((st = 1 ∨ st = 2) ∧ 1 < nx))) => (show b = false by
    cases hbb : b with
    | false => rfl
    | true => exact absurd (HG.out.1 hbb) h)
  have NO := hide no
  clear no
  by_cases h5 : st = 0 ∨ st = 1 ∨ st = 2
  case neg =>
    have HF := hide (NO.out (fun h => by omega))
    have g0 : ¬ st = 0 := fun h => h5 (.inl h)
    have g1 : ¬ st = 1 := fun h => h5 (.inr (.inl h))
    have g2 : ¬ st = 2 := fun h => h5 (.inr (.inr h))
    clear h5
    go_enter Tryz.func150, Tryz.ntmps150
    go_wp2_with (first | (go_at_call 133; refine (impl_in _ _ _ _).mono ?_; rintro e w' ⟨rfl, rfl⟩; first | rw [h1] | rw [h2]) | (go_at_call 179; refine (impl_signals _ _ true _ HV.out.1 HS.out.1 HN.out.1 HB3.out).mono ?_; rintro e w' ⟨rfl, rfl⟩) | (go_at_call 180; refine (impl_timers _ _ true _ HV.out.2 HS.out.2 HN.out.2 HB4.out).mono ?_; rintro e w' ⟨rfl, rfl⟩))
    go_ret
    exact ⟨ret_bool HF.out.symm, hbA⟩
  by_cases h0 : st = 0
  · subst h0
    by_cases k1 : nx = 1
    case neg =>
      have HF := hide (NO.out (fun h => by rcases h with h | h <;> omega))
      go_enter Tryz.func150, Tryz.ntmps150
      go_wp2_with (first | (go_at_call 133; refine (impl_in _ _ _ _).mono ?_; rintro e w' ⟨rfl, rfl⟩; first | rw [h1] | rw [h2]) | (go_at_call 179; refine (impl_signals _ _ true _ HV.out.1 HS.out.1 HN.out.1 HB3.out).mono ?_; rintro e w' ⟨rfl, rfl⟩) | (go_at_call 180; refine (impl_timers _ _ true _ HV.out.2 HS.out.2 HN.out.2 HB4.out).mono ?_; rintro e w' ⟨rfl, rfl⟩))
      go_ret
      exact ⟨ret_bool HF.out.symm, hbA⟩
    subst k1
    cases ca with
    | true =>
      have HF := hide (NO.out (fun h => by rcases h with h | h <;> simp at h))
      go_enter Tryz.func150, Tryz.ntmps150
      go_wp2_with (first | (go_at_call 133; refine (impl_in _ _ _ _).mono ?_; rintro e w' ⟨rfl, rfl⟩; first | rw [h1] | rw [h2]) | (go_at_call 179; refine (impl_signals _ _ true _ HV.out.1 HS.out.1 HN.out.1 HB3.out).mono ?_; rintro e w' ⟨rfl, rfl⟩) | (go_at_call 180; refine (impl_timers _ _ true _ HV.out.2 HS.out.2 HN.out.2 HB4.out).mono ?_; rintro e w' ⟨rfl, rfl⟩))
      go_ret
      exact ⟨ret_bool HF.out.symm, hbA⟩
    | false =>
    by_cases k2 : dn = 0
    case neg =>
      have HF := hide (NO.out (fun h => by rcases h with h | h <;> omega))
      go_enter Tryz.func150, Tryz.ntmps150
      go_wp2_with (first | (go_at_call 133; refine (impl_in _ _ _ _).mono ?_; rintro e w' ⟨rfl, rfl⟩; first | rw [h1] | rw [h2]) | (go_at_call 179; refine (impl_signals _ _ true _ HV.out.1 HS.out.1 HN.out.1 HB3.out).mono ?_; rintro e w' ⟨rfl, rfl⟩) | (go_at_call 180; refine (impl_timers _ _ true _ HV.out.2 HS.out.2 HN.out.2 HB4.out).mono ?_; rintro e w' ⟨rfl, rfl⟩))
      go_ret
      exact ⟨ret_bool HF.out.symm, hbA⟩
    subst k2
    by_cases k3 : sg = []
    case neg =>
      have HF := hide (NO.out (fun h => by rcases h with h | h <;> simp [k3] at h))
      have k3' : ¬ (sg.length : Int) = 0 := by
        have := List.length_pos_iff.2 k3
        omega
      have k3n : ¬ sg.length = 0 := by omega
      clear k3
      go_enter Tryz.func150, Tryz.ntmps150
      go_wp2_with (first | (go_at_call 133; refine (impl_in _ _ _ _).mono ?_; rintro e w' ⟨rfl, rfl⟩; first | rw [h1] | rw [h2]) | (go_at_call 179; refine (impl_signals _ _ true _ HV.out.1 HS.out.1 HN.out.1 HB3.out).mono ?_; rintro e w' ⟨rfl, rfl⟩) | (go_at_call 180; refine (impl_timers _ _ true _ HV.out.2 HS.out.2 HN.out.2 HB4.out).mono ?_; rintro e w' ⟨rfl, rfl⟩))
      go_ret
      exact ⟨ret_bool HF.out.symm, hbA⟩
    subst k3
    by_cases k4 : tm = []
    case neg =>
      have HF := hide (NO.out (fun h => by rcases h with h | h <;> simp [k4] at h))
      have k4' : ¬ (tm.length : Int) = 0 := by
        have := List.length_pos_iff.2 k4
        omega
      have k4n : ¬ tm.length = 0 := by omega
      clear k4
      go_enter Tryz.func150, Tryz.ntmps150
      go_wp2_with (first | (go_at_call 133; refine (impl_in _ _ _ _).mono ?_; rintro e w' ⟨rfl, rfl⟩; first | rw [h1] | rw [h2]) | (go_at_call 179; refine (impl_signals _ _ true _ HV.out.1 HS.out.1 HN.out.1 HB3.out).mono ?_; rintro e w' ⟨rfl, rfl⟩) | (go_at_call 180; refine (impl_timers _ _ true _ HV.out.2 HS.out.2 HN.out.2 HB4.out).mono ?_; rintro e w' ⟨rfl, rfl⟩))
      go_ret
      exact ⟨ret_bool (by rw [HF.out, beq_eq_false_iff_ne]; exact k4'), hbA⟩
    subst k4
    have HF := hide (HG.out.2 (.inl ⟨rfl, rfl, rfl, rfl, rfl, rfl⟩))
    go_enter Tryz.func150, Tryz.ntmps150
    go_wp2_with (first | (go_at_call 133; refine (impl_in _ _ _ _).mono ?_; rintro e w' ⟨rfl, rfl⟩; first | rw [h1] | rw [h2]) | (go_at_call 179; refine (impl_signals _ _ true _ HV.out.1 HS.out.1 HN.out.1 HB3.out).mono ?_; rintro e w' ⟨rfl, rfl⟩) | (go_at_call 180; refine (impl_timers _ _ true _ HV.out.2 HS.out.2 HN.out.2 HB4.out).mono ?_; rintro e w' ⟨rfl, rfl⟩))
    go_ret
    exact ⟨ret_bool HF.out.symm, hbA⟩
  · have HF := hide (show b = decide (1 < nx) from by
      rw [Bool.eq_iff_iff, decide_eq_true_eq, HG.out]
      constructor
      · intro h; rcases h with h | h <;> omega
      · intro h; exact .inr ⟨by omega, h⟩)
    have h5' : st = 1 ∨ st = 2 := by omega
    clear h5
    by_cases h9 : 1 < nx
    · have h9' : nx > 1 := h9
      rcases h5' with rfl | rfl
      · go_enter Tryz.func150, Tryz.ntmps150
        go_wp2_with (first | (go_at_call 133; refine (impl_in _ _ _ _).mono ?_; rintro e w' ⟨rfl, rfl⟩; first | rw [h1] | rw [h2]) | (go_at_call 179; refine (impl_signals _ _ true _ HV.out.1 HS.out.1 HN.out.1 HB3.out).mono ?_; rintro e w' ⟨rfl, rfl⟩) | (go_at_call 180; refine (impl_timers _ _ true _ HV.out.2 HS.out.2 HN.out.2 HB4.out).mono ?_; rintro e w' ⟨rfl, rfl⟩))
        go_ret
        exact ⟨ret_bool (by rw [HF.out, decide_eq_true (by omega)]), hbA⟩
      · go_enter Tryz.func150, Tryz.ntmps150
        go_wp2_with (first | (go_at_call 133; refine (impl_in _ _ _ _).mono ?_; rintro e w' ⟨rfl, rfl⟩; first | rw [h1] | rw [h2]) | (go_at_call 179; refine (impl_signals _ _ true _ HV.out.1 HS.out.1 HN.out.1 HB3.out).mono ?_; rintro e w' ⟨rfl, rfl⟩) | (go_at_call 180; refine (impl_timers _ _ true _ HV.out.2 HS.out.2 HN.out.2 HB4.out).mono ?_; rintro e w' ⟨rfl, rfl⟩))
        go_ret
        exact ⟨ret_bool (by rw [HF.out, decide_eq_true (by omega)]), hbA⟩
    · have h9' : ¬ nx > 1 := h9
      rcases h5' with rfl | rfl
      · go_enter Tryz.func150, Tryz.ntmps150
        go_wp2_with (first | (go_at_call 133; refine (impl_in _ _ _ _).mono ?_; rintro e w' ⟨rfl, rfl⟩; first | rw [h1] | rw [h2]) | (go_at_call 179; refine (impl_signals _ _ true _ HV.out.1 HS.out.1 HN.out.1 HB3.out).mono ?_; rintro e w' ⟨rfl, rfl⟩) | (go_at_call 180; refine (impl_timers _ _ true _ HV.out.2 HS.out.2 HN.out.2 HB4.out).mono ?_; rintro e w' ⟨rfl, rfl⟩))
        go_ret
        exact ⟨ret_bool (by rw [HF.out, decide_eq_false (by omega)]), hbA⟩
      · go_enter Tryz.func150, Tryz.ntmps150
        go_wp2_with (first | (go_at_call 133; refine (impl_in _ _ _ _).mono ?_; rintro e w' ⟨rfl, rfl⟩; first | rw [h1] | rw [h2]) | (go_at_call 179; refine (impl_signals _ _ true _ HV.out.1 HS.out.1 HN.out.1 HB3.out).mono ?_; rintro e w' ⟨rfl, rfl⟩) | (go_at_call 180; refine (impl_timers _ _ true _ HV.out.2 HS.out.2 HN.out.2 HB4.out).mono ?_; rintro e w' ⟨rfl, rfl⟩))
        go_ret
        exact ⟨ret_bool (by rw [HF.out, decide_eq_false (by omega)]), hbA⟩
set_option maxRecDepth 20000 in
set_option maxHeartbeats 4000000 in
theorem spec_goodSt (v0 v1 : Value) (s : St) (b : Bool) (w : World) (hv : StC w v0 v1 s) (hs : ShortT s) (hn : NmT s) (hb : BP b (GoodSt s)) :
    Calls Tryz.prog 149 #[stv v0 v1 s] w fun e w' => e = .returned (.bool b) ∧ Below w.heap.size w w' := by
  obtain ⟨st, nx, ca, dn, sg, tm⟩ := s
  obtain ⟨a0, c0, rfl⟩ := hv.1.1.form
  obtain ⟨a1, c1, rfl⟩ := hv.2.1.form
  have hbA := (Below.refl w.heap.size w).alloc (Nat.le_refl _) (.cells #[.int .i64 st, .int .i64 nx, .bool ca, .int .i64 dn, .slice a0 sg.length c0, .slice a1 tm.length c1] 60)
  have HV := hide (show TxC _ (.slice a0 sg.length c0) sg ∧ TxC _ (.slice a1 tm.length c1) tm from hv.below hbA)
  have HS := hide (show sg.length ≤ 1048576 ∧ tm.length ≤ 1048576 from hs)
  have HN := hide (show (∀ x ∈ sg, x.size ≤ maxLen) ∧ ∀ x ∈ tm, x.size ≤ maxLen from hn)
  have HB := hide (show b = true ↔ ((1 ≤ nx ∧ nx ≤ 1001) ∧ (0 ≤ dn ∧ dn ≤ 1000) ∧ Nms false sg ∧ Nms true tm ∧ ((st = 0 ∧ nx = 1 ∧ ca = false ∧ dn = 0 ∧ sg = [] ∧ tm = []) ∨ ((st = 1 ∨ st = 2) ∧ 1 < nx))) from hb)
  clear hv hs hn hb
  obtain ⟨b3, hb3⟩ := bp_ex (Nms false sg)
  obtain ⟨b4, hb4⟩ := bp_ex (Nms true tm)
  have HB3 := hide hb3
  have HB4 := hide hb4
  clear hb3 hb4
  cases h1 : inB nx 1 1001
  · have HF := hide (BP.no HB.out (fun h => by have := h.1; simp only [inB, Bool.and_eq_false_iff, decide_eq_false_iff_not] at h1; omega))
    go_enter Tryz.func149, Tryz.ntmps149
    go_wp2_with (go_at_call 93; refine (spec_in _ _ _ _).mono ?_; rintro e w' ⟨rfl, rfl⟩; first | rw [h1])
    go_ret
    exact ⟨ret_bool HF.out.symm, hbA⟩
  cases h2 : inB dn 0 1000
  · have HF := hide (BP.no HB.out (fun h => by have := h.2.1; simp only [inB, Bool.and_eq_false_iff, decide_eq_false_iff_not] at h2; omega))
    go_enter Tryz.func149, Tryz.ntmps149
    go_wp2_with (go_at_call 93; refine (spec_in _ _ _ _).mono ?_; rintro e w' ⟨rfl, rfl⟩; first | rw [h1] | rw [h2])
    go_ret
    exact ⟨ret_bool HF.out.symm, hbA⟩
  cases b3 with
  | false =>
    have HF := hide (BP.no HB.out (fun h => by have := HB3.out.2 h.2.2.1; cases this))
    go_enter Tryz.func149, Tryz.ntmps149
    go_wp2_with (first | (go_at_call 93; refine (spec_in _ _ _ _).mono ?_; rintro e w' ⟨rfl, rfl⟩; first | rw [h1] | rw [h2]) | (go_at_call_of 178 (Value.bool false); refine (spec_names false _ _ false _ HV.out.1 HS.out.1 HN.out.1 HB3.out).mono ?_; rintro e w' ⟨rfl, rfl⟩))
    go_ret
    exact ⟨ret_bool HF.out.symm, hbA⟩
  | true =>
  cases b4 with
  | false =>
    have HF := hide (BP.no HB.out (fun h => by have := HB4.out.2 h.2.2.2.1; cases this))
    go_enter Tryz.func149, Tryz.ntmps149
    go_wp2_with (first | (go_at_call 93; refine (spec_in _ _ _ _).mono ?_; rintro e w' ⟨rfl, rfl⟩; first | rw [h1] | rw [h2]) | (go_at_call_of 178 (Value.bool false); refine (spec_names false _ _ true _ HV.out.1 HS.out.1 HN.out.1 HB3.out).mono ?_; rintro e w' ⟨rfl, rfl⟩) | (go_at_call_of 178 (Value.bool true); refine (spec_names true _ _ false _ HV.out.2 HS.out.2 HN.out.2 HB4.out).mono ?_; rintro e w' ⟨rfl, rfl⟩))
    go_ret
    exact ⟨ret_bool HF.out.symm, hbA⟩
  | true =>
  have HG := hide (show (b = true ↔ ((st = 0 ∧ nx = 1 ∧ ca = false ∧ dn = 0 ∧ sg = [] ∧ tm = []) ∨ ((st = 1 ∨ st = 2) ∧ 1 < nx))) from by
    simp only [inB, Bool.and_eq_true, decide_eq_true_eq] at h1 h2
    exact ⟨fun h => (HB.out.1 h).2.2.2.2, fun h => HB.out.2 ⟨h1, h2, HB3.out.1 rfl, HB4.out.1 rfl, h⟩⟩)
  have no := fun (h : ¬ ((st = 0 ∧ nx = 1 ∧ ca = false ∧ dn = 0 ∧ sg = [] ∧ tm = []) ∨ ((st = 1 ∨ st = 2) ∧ 1 < nx))) => (show b = false by
    cases hbb : b with
    | false => rfl
    | true => exact absurd (HG.out.1 hbb) h)
  have NO := hide no
  clear no
  cases h5 : inB st 0 2
  · have HF := hide (NO.out (fun h => by simp only [inB, Bool.and_eq_false_iff, decide_eq_false_iff_not] at h5; rcases h with h | h <;> omega))
    go_enter Tryz.func149, Tryz.ntmps149
    go_wp2_with (first | (go_at_call 93; refine (spec_in _ _ _ _).mono ?_; rintro e w' ⟨rfl, rfl⟩; first | rw [h1] | rw [h2] | rw [h5]) | (go_at_call_of 178 (Value.bool false); refine (spec_names false _ _ true _ HV.out.1 HS.out.1 HN.out.1 HB3.out).mono ?_; rintro e w' ⟨rfl, rfl⟩) | (go_at_call_of 178 (Value.bool true); refine (spec_names true _ _ true _ HV.out.2 HS.out.2 HN.out.2 HB4.out).mono ?_; rintro e w' ⟨rfl, rfl⟩))
    go_ret
    exact ⟨ret_bool HF.out.symm, hbA⟩
  by_cases h0 : st = 0
  · subst h0
    by_cases k1 : nx = 1
    case neg =>
      have HF := hide (NO.out (fun h => by rcases h with h | h <;> omega))
      go_enter Tryz.func149, Tryz.ntmps149
      go_wp2_with (first | (go_at_call 93; refine (spec_in _ _ _ _).mono ?_; rintro e w' ⟨rfl, rfl⟩; first | rw [h1] | rw [h2] | rw [h5]) | (go_at_call_of 178 (Value.bool false); refine (spec_names false _ _ true _ HV.out.1 HS.out.1 HN.out.1 HB3.out).mono ?_; rintro e w' ⟨rfl, rfl⟩) | (go_at_call_of 178 (Value.bool true); refine (spec_names true _ _ true _ HV.out.2 HS.out.2 HN.out.2 HB4.out).mono ?_; rintro e w' ⟨rfl, rfl⟩))
      go_ret
      exact ⟨ret_bool HF.out.symm, hbA⟩
    subst k1
    cases ca with
    | true =>
      have HF := hide (NO.out (fun h => by rcases h with h | h <;> simp at h))
      go_enter Tryz.func149, Tryz.ntmps149
      go_wp2_with (first | (go_at_call 93; refine (spec_in _ _ _ _).mono ?_; rintro e w' ⟨rfl, rfl⟩; first | rw [h1] | rw [h2] | rw [h5]) | (go_at_call_of 178 (Value.bool false); refine (spec_names false _ _ true _ HV.out.1 HS.out.1 HN.out.1 HB3.out).mono ?_; rintro e w' ⟨rfl, rfl⟩) | (go_at_call_of 178 (Value.bool true); refine (spec_names true _ _ true _ HV.out.2 HS.out.2 HN.out.2 HB4.out).mono ?_; rintro e w' ⟨rfl, rfl⟩))
      go_ret
      exact ⟨ret_bool HF.out.symm, hbA⟩
    | false =>
    by_cases k2 : dn = 0
    case neg =>
      have HF := hide (NO.out (fun h => by rcases h with h | h <;> omega))
      go_enter Tryz.func149, Tryz.ntmps149
      go_wp2_with (first | (go_at_call 93; refine (spec_in _ _ _ _).mono ?_; rintro e w' ⟨rfl, rfl⟩; first | rw [h1] | rw [h2] | rw [h5]) | (go_at_call_of 178 (Value.bool false); refine (spec_names false _ _ true _ HV.out.1 HS.out.1 HN.out.1 HB3.out).mono ?_; rintro e w' ⟨rfl, rfl⟩) | (go_at_call_of 178 (Value.bool true); refine (spec_names true _ _ true _ HV.out.2 HS.out.2 HN.out.2 HB4.out).mono ?_; rintro e w' ⟨rfl, rfl⟩))
      go_ret
      exact ⟨ret_bool HF.out.symm, hbA⟩
    subst k2
    by_cases k3 : sg = []
    case neg =>
      have HF := hide (NO.out (fun h => by rcases h with h | h <;> simp [k3] at h))
      have k3' : ¬ (sg.length : Int) = 0 := by
        have := List.length_pos_iff.2 k3
        omega
      have k3n : ¬ sg.length = 0 := by omega
      clear k3
      go_enter Tryz.func149, Tryz.ntmps149
      go_wp2_with (first | (go_at_call 93; refine (spec_in _ _ _ _).mono ?_; rintro e w' ⟨rfl, rfl⟩; first | rw [h1] | rw [h2] | rw [h5]) | (go_at_call_of 178 (Value.bool false); refine (spec_names false _ _ true _ HV.out.1 HS.out.1 HN.out.1 HB3.out).mono ?_; rintro e w' ⟨rfl, rfl⟩) | (go_at_call_of 178 (Value.bool true); refine (spec_names true _ _ true _ HV.out.2 HS.out.2 HN.out.2 HB4.out).mono ?_; rintro e w' ⟨rfl, rfl⟩))
      go_ret
      exact ⟨ret_bool HF.out.symm, hbA⟩
    subst k3
    by_cases k4 : tm = []
    case neg =>
      have HF := hide (NO.out (fun h => by rcases h with h | h <;> simp [k4] at h))
      have k4' : ¬ (tm.length : Int) = 0 := by
        have := List.length_pos_iff.2 k4
        omega
      have k4n : ¬ tm.length = 0 := by omega
      clear k4
      go_enter Tryz.func149, Tryz.ntmps149
      go_wp2_with (first | (go_at_call 93; refine (spec_in _ _ _ _).mono ?_; rintro e w' ⟨rfl, rfl⟩; first | rw [h1] | rw [h2] | rw [h5]) | (go_at_call_of 178 (Value.bool false); refine (spec_names false _ _ true _ HV.out.1 HS.out.1 HN.out.1 HB3.out).mono ?_; rintro e w' ⟨rfl, rfl⟩) | (go_at_call_of 178 (Value.bool true); refine (spec_names true _ _ true _ HV.out.2 HS.out.2 HN.out.2 HB4.out).mono ?_; rintro e w' ⟨rfl, rfl⟩))
      go_ret
      exact ⟨ret_bool (by rw [HF.out, beq_eq_false_iff_ne]; exact k4'), hbA⟩
    subst k4
    have HF := hide (HG.out.2 (.inl ⟨rfl, rfl, rfl, rfl, rfl, rfl⟩))
    go_enter Tryz.func149, Tryz.ntmps149
    go_wp2_with (first | (go_at_call 93; refine (spec_in _ _ _ _).mono ?_; rintro e w' ⟨rfl, rfl⟩; first | rw [h1] | rw [h2] | rw [h5]) | (go_at_call_of 178 (Value.bool false); refine (spec_names false _ _ true _ HV.out.1 HS.out.1 HN.out.1 HB3.out).mono ?_; rintro e w' ⟨rfl, rfl⟩) | (go_at_call_of 178 (Value.bool true); refine (spec_names true _ _ true _ HV.out.2 HS.out.2 HN.out.2 HB4.out).mono ?_; rintro e w' ⟨rfl, rfl⟩))
    go_ret
    exact ⟨ret_bool HF.out.symm, hbA⟩
  · have HF := hide (show b = decide (1 < nx) from by
      rw [Bool.eq_iff_iff, decide_eq_true_eq, HG.out]
      simp only [inB, Bool.and_eq_true, decide_eq_true_eq] at h5
      constructor
      · intro h; rcases h with h | h <;> omega
      · intro h; exact .inr ⟨by omega, h⟩)
    go_enter Tryz.func149, Tryz.ntmps149
    by_cases h9 : 1 < nx
    · have h9' : nx > 1 := h9
      go_wp2_with (first | (go_at_call 93; refine (spec_in _ _ _ _).mono ?_; rintro e w' ⟨rfl, rfl⟩; first | rw [h1] | rw [h2] | rw [h5]) | (go_at_call_of 178 (Value.bool false); refine (spec_names false _ _ true _ HV.out.1 HS.out.1 HN.out.1 HB3.out).mono ?_; rintro e w' ⟨rfl, rfl⟩) | (go_at_call_of 178 (Value.bool true); refine (spec_names true _ _ true _ HV.out.2 HS.out.2 HN.out.2 HB4.out).mono ?_; rintro e w' ⟨rfl, rfl⟩))
      all_goals (go_ret; exact ⟨ret_bool (by rw [HF.out, decide_eq_true (by omega)]), hbA⟩)
    · have h9' : ¬ nx > 1 := h9
      go_wp2_with (first | (go_at_call 93; refine (spec_in _ _ _ _).mono ?_; rintro e w' ⟨rfl, rfl⟩; first | rw [h1] | rw [h2] | rw [h5]) | (go_at_call_of 178 (Value.bool false); refine (spec_names false _ _ true _ HV.out.1 HS.out.1 HN.out.1 HB3.out).mono ?_; rintro e w' ⟨rfl, rfl⟩) | (go_at_call_of 178 (Value.bool true); refine (spec_names true _ _ true _ HV.out.2 HS.out.2 HN.out.2 HB4.out).mono ?_; rintro e w' ⟨rfl, rfl⟩))
      all_goals (go_ret; exact ⟨ret_bool (by rw [HF.out, decide_eq_false (by omega)]), hbA⟩)
end Go.Proofs.YtfkeokglifpkoaaGreatDoor

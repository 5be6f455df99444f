/-
  The law's helpers on regions: size, a copy in memory of its own, that two of the same are told alike, marks on a copy.
-/
import Derived.Test.YtjgopjnkkhkcnaaGreatDoorRgX
import Derived.Test.YtjgopjnkkhkcnaaGreatDoorBrHd
namespace Go.Proofs.YtjgopjnkkhkcnaaGreatDoor
open Go.RowKit M
open Go.Sort (grow)
namespace M
/-- A copy under way: the argument's box, the result's, the one that is built. -/
structure TR (w W : World) (id ver : Int) (v x : Value) : Prop where
  low : Below w.heap.size w W
  arg : Blk W w.heap.size 3 (q3 (.int .i64 id) (.int .i64 ver) v) 26
  res : Blk W (w.heap.size + 1) 3 (q3 (.int .i64 0) (.int .i64 0) (.slice none 0 0)) 32
  out : Blk W (w.heap.size + 1 + 1) 3 (q3 (.int .i64 id) (.int .i64 ver) x) 32
  big : w.heap.size + 3 ≤ W.heap.size
theorem TR.down {w W W' : World} {id ver : Int} {v x : Value} (h : TR w W id ver v x) (hb : Below W.heap.size W W') : TR w W' id ver v x :=
  ⟨h.low.trans (hb.mono h.low.size), h.arg.down hb, h.res.down hb, h.out.down hb, Nat.le_trans h.big hb.size⟩
theorem TR.new (w : World) (id ver : Int) (v : Value) : TR w (((w.alloc (.cells #[.int .i64 id, .int .i64 ver, v] 26)).alloc (.cells #[.int .i64 0, .int .i64 0, .slice none 0 0] 32)).alloc (.cells #[.int .i64 id, .int .i64 ver, .slice none 0 0] 32)) id ver v (.slice none 0 0) := by
  refine ⟨(((Below.refl _ w).alloc (Nat.le_refl _) _).alloc (by simp) _).alloc (by simp; omega) _, ((new3 w _ _ _ 26).alloc _).alloc _, ?_, ?_, by simp⟩
  · have := (new3 (w.alloc (.cells #[.int .i64 id, .int .i64 ver, v] 26)) (.int .i64 0) (.int .i64 0) (.slice none 0 0) 32).alloc (.cells #[.int .i64 id, .int .i64 ver, .slice none 0 0] 32)
    rw [World.size_alloc] at this; exact this
  · have := new3 ((w.alloc (.cells #[.int .i64 id, .int .i64 ver, v] 26)).alloc (.cells #[.int .i64 0, .int .i64 0, .slice none 0 0] 32)) (.int .i64 id) (.int .i64 ver) (.slice none 0 0) 32
    rw [World.size_alloc, World.size_alloc] at this; exact this
theorem TR.put {w W : World} {id ver : Int} {v x : Value} (h : TR w W id ver v x) (u : Value) : TR w (W.setCell ⟨w.heap.size + 1 + 1, 2, none⟩ u) id ver v u :=
  ⟨h.low.setCell (p := ⟨w.heap.size + 1 + 1, 2, none⟩) (by show w.heap.size ≤ w.heap.size + 1 + 1; omega) _, h.arg.off (by omega) _, h.res.off (by omega) _, h.out.tri2 _, by rw [World.size_setCell]; exact h.big⟩
end M
set_option maxHeartbeats 1000000 in
set_option maxRecDepth 20000 in
theorem to_region (id ver : Int) (v : Value) (bs : Brs) (w : World) (hv : BrsOf w v bs) (hf : FineS bs) :
    Calls Tryz.prog 15 #[rv id ver v] w fun e w' => (∃ g ps, e = .returned (rv id ver (.slice (some ⟨g, 0, none⟩) bs.length bs.length)) ∧ OwnP w' w.heap.size (.slice (some ⟨g, 0, none⟩) bs.length bs.length) ps ∧ bsP ps = bs) ∧ Below w.heap.size w w' := by
  have HV := hide hv
  have HF := hide hf
  obtain ⟨a1, c1, rfl⟩ := hv.form
  obtain ⟨W, hW⟩ : ∃ W, ((w.alloc (.cells #[.int .i64 id, .int .i64 ver, .slice a1 bs.length c1] 26)).alloc (.cells #[.int .i64 0, .int .i64 0, .slice none 0 0] 32)).alloc (.cells #[.int .i64 id, .int .i64 ver, .slice none 0 0] 32) = W := ⟨_, rfl⟩
  have HT0 := hide (show TR w W id ver (.slice a1 bs.length c1) (.slice none 0 0) from by rw [← hW]; exact TR.new w _ _ _)
  have HWW := hide hW
  clear hv hf hW
  go_enter Tryz.func15, Tryz.ntmps15
  go_wp2_with fail
  rw [HWW.out]
  clear HWW
  refine (to_tell _ bs _ (HV.out.below HT0.out.low) HF.out).mono ?_
  rintro e w1 ⟨⟨g, ps, rfl, hX, hps⟩, hb1⟩
  have HT1 := hide (HT0.out.down hb1)
  have HO := hide (hX.mono (show w.heap.size + 3 ≤ W.heap.size from HT0.out.big))
  have HPS := hide hps
  obtain ⟨⟨f0, f1, f2⟩, f3, f4, f5⟩ := HT1.out.out.tri
  obtain ⟨⟨g0, g1, g2⟩, g3, g4, g5⟩ := HT1.out.res.tri
  obtain ⟨WZ, hWZ⟩ : ∃ WZ, ((((w1.setCell ⟨w.heap.size + 1 + 1, 2, none⟩ (.slice (some ⟨g, 0, none⟩) bs.length bs.length)).setCell ⟨w.heap.size + 1, 0, none⟩ (.int .i64 id)).setCell ⟨w.heap.size + 1, 1, none⟩ (.int .i64 ver)).setCell ⟨w.heap.size + 1, 2, none⟩ (.slice (some ⟨g, 0, none⟩) bs.length bs.length)) = WZ := ⟨_, rfl⟩
  have HZ := hide (show Blk WZ (w.heap.size + 1) 3 (q3 (.int .i64 id) (.int .i64 ver) (.slice (some ⟨g, 0, none⟩) bs.length bs.length)) 32 from by rw [← hWZ]; exact (HT1.out.put _).res.put3 _ _ _)
  have HZO := hide (show OwnP WZ w.heap.size (.slice (some ⟨g, 0, none⟩) bs.length bs.length) ps from by
    rw [← hWZ]; exact ((((HO.out.set_low (by omega) _).set_low (by omega) _).set_low (by omega) _).set_low (by omega) _).mono (by omega))
  have HZB := hide (show Below w.heap.size w WZ from by
    rw [← hWZ]; exact ((((HT1.out.low.setCell (p := ⟨w.heap.size + 1 + 1, 2, none⟩) (by show w.heap.size ≤ w.heap.size + 1 + 1; omega) _).setCell (p := ⟨w.heap.size + 1, 0, none⟩) (by show w.heap.size ≤ w.heap.size + 1; omega) _).setCell (p := ⟨w.heap.size + 1, 1, none⟩) (by show w.heap.size ≤ w.heap.size + 1; omega) _).setCell (p := ⟨w.heap.size + 1, 2, none⟩) (by show w.heap.size ≤ w.heap.size + 1; omega) _))
  have HWZ := hide hWZ
  clear hWZ hb1 hX hps HO HT1 HT0 HV HF
  go_wp2
  rw [HWZ.out]
  clear f0 f1 f2 f3 f4 f5 g0 g1 g2 g3 g4 g5
  obtain ⟨⟨e0, e1, e2⟩, -⟩ := HZ.out.tri
  exact bodyPost_ret (v := rv id ver (.slice (some ⟨g, 0, none⟩) bs.length bs.length)) (by simp [results, Tryz.results15, go_sem, e0, e1, e2]) rfl ⟨⟨_, ps, rfl, HZO.out, HPS.out⟩, HZB.out⟩
set_option maxRecDepth 20000 in
theorem eq_region (id ver : Int) (v u : Value) (bs : Brs) (w : World) (hv : BrsOf w v bs) (hu : BrsOf w u bs) (hf : FineS bs) :
    Calls Tryz.prog 17 #[rv id ver v, rv id ver u] w fun e w' => e = .returned (.bool true) ∧ Below w.heap.size w w' := by
  have HF := hide hf
  have hal := ((Below.refl w.heap.size w).alloc (Nat.le_refl _) (.cells #[.int .i64 id, .int .i64 ver, v] 32)).alloc (by simp) (.cells #[.int .i64 id, .int .i64 ver, u] 32)
  have HV := hide (hv.below hal)
  have HU := hide (hu.below hal)
  obtain ⟨a1, c1, rfl⟩ := hv.form
  obtain ⟨a2, c2, rfl⟩ := hu.form
  have h1 : (id != id) = false := by simp
  have h2 : (ver != ver) = false := by simp
  clear hv hu hf
  go_enter Tryz.func17, Tryz.ntmps17
  go_wp2_with fail
  refine (eq_tell _ _ bs _ HV.out HU.out HF.out).mono ?_
  rintro e w1 ⟨rfl, hb1⟩
  have hbw := hal.trans (hb1.mono hal.size)
  clear hb1 hal
  go_wp2
  go_ret
  exact ⟨rfl, hbw⟩
set_option maxRecDepth 20000 in
theorem sz_region (id ver : Int) (v : Value) (bs : Brs) (left : Int) (w : World) (hv : BrsOf w v bs) (hf : Fine bs) (hl0 : 0 ≤ left) (hl1 : left ≤ 1048576) :
    Calls Tryz.prog 13 #[rv id ver v, .int .i64 left] w fun e w' => e = .returned (.int .i64 (szr left (bs.length + wb bs))) ∧ Below w.heap.size w w' := by
  have HF := hide hf
  have ha := (Below.refl w.heap.size w).alloc (Nat.le_refl _) (.cells #[.int .i64 id, .int .i64 ver, v] 26)
  have HV := hide (hv.below ha)
  obtain ⟨a, c, rfl⟩ := hv.form
  clear hv hf
  by_cases hfit : ((bs.length + wb bs : Nat) : Int) ≤ left
  · have hz := szr_yes hfit
    have hge : ¬ (szr left (bs.length + wb bs) < 0) := by rw [hz]; omega
    clear hz
    go_enter Tryz.func13, Tryz.ntmps13
    go_wp2_with fail
    refine (sz_tell _ bs left _ HV.out HF.out hl0 hl1).mono ?_
    rintro e w1 ⟨rfl, hb⟩
    have hb1 := ha.trans (hb.mono ha.size)
    clear hb ha
    go_wp2
    go_ret
    exact ⟨rfl, hb1⟩
  · have hz := szr_no (left := left) (n := bs.length + wb bs) (by omega)
    have hge : szr left (bs.length + wb bs) < 0 := by rw [hz]; omega
    have HZ := hide hz
    clear hz
    go_enter Tryz.func13, Tryz.ntmps13
    go_wp2_with fail
    refine (sz_tell _ bs left _ HV.out HF.out hl0 hl1).mono ?_
    rintro e w1 ⟨rfl, hb⟩
    have hb1 := ha.trans (hb.mono ha.size)
    clear hb ha
    go_wp2
    go_ret
    exact ⟨ret_int (by rw [HZ.out]), hb1⟩
set_option maxRecDepth 20000 in
theorem mark_region (id ver : Int) (B k0 lo hi : Nat) (v : Value) (ps : Prs) (w : World) (h : OwnP w B v ps) (hin : Within lo hi v ps) (hn : ps.length ≤ 1048576) (hl : ∀ p ∈ ps, p.2.length ≤ 1048576) (h1 : 1 ≤ k0) (hk0 : k0 + 4 * evn ps ≤ 20000000) :
    Calls Tryz.prog 18 #[rv id ver v, .int .i64 (k0 : Int)] w fun e w' => e = .returned (.int .i64 ((k0 + 4 * evn ps : Nat) : Int)) ∧ OwnP w' B v (mkP k0 ps) ∧ KeptB lo hi w w' := by
  have HI := hide hin
  have HL := hide hl
  have hal := (Below.refl w.heap.size w).alloc (Nat.le_refl _) (.cells #[.int .i64 id, .int .i64 ver, v] 32)
  have HP := hide (h.down hal)
  have HK := hide (KeptB.of (lo := lo) (hi := hi) (gbT_below (gbT_refl w none) hal) (fun g hg => by cases hg))
  obtain ⟨a, cap, rfl⟩ := h.form
  clear h hin hl hal
  go_enter Tryz.func18, Tryz.ntmps18
  go_wp2_with fail
  refine (mark_tell B k0 lo hi _ ps _ HP.out HI.out hn HL.out h1 hk0).mono ?_
  rintro e w1 ⟨rfl, hO, hk⟩
  have HO := hide hO
  have HK2 := hide (HK.out.trans hk)
  clear hO hk HK HP
  go_wp2
  go_ret
  exact ⟨rfl, HO.out, HK2.out⟩
set_option maxRecDepth 20000 in
theorem held_region (id ver : Int) (B k0 : Nat) (v : Value) (ps : Prs) (w : World) (h : OwnP w B v (mkP k0 ps)) (hn : ps.length ≤ 1048576) (hl : ∀ p ∈ ps, p.2.length ≤ 1048576) (h1 : 1 ≤ k0) (hk0 : k0 + 4 * evn ps ≤ 20000000) :
    Calls Tryz.prog 19 #[rv id ver v, .int .i64 (k0 : Int)] w fun e w' => e = .returned (.int .i64 ((k0 + 4 * evn ps : Nat) : Int)) ∧ Below w.heap.size w w' := by
  have HL := hide hl
  have hal := (Below.refl w.heap.size w).alloc (Nat.le_refl _) (.cells #[.int .i64 id, .int .i64 ver, v] 32)
  have HP := hide (h.down hal)
  obtain ⟨a, cap, hv⟩ := h.form
  rw [mkP_len] at hv
  subst hv
  have hkn : ¬ (((k0 + 4 * evn ps : Nat) : Int) < 0) := by omega
  obtain ⟨mm, hmm⟩ : ∃ mm, k0 + 4 * evn ps = mm := ⟨_, rfl⟩
  have HMM := hide hmm
  rw [hmm] at hkn ⊢
  clear h hl hmm
  go_enter Tryz.func19, Tryz.ntmps19
  go_wp2_with fail
  refine (held_tell B k0 _ ps _ HP.out hn HL.out h1 (by have := HMM.out; omega)).mono ?_
  rw [HMM.out]
  rintro e w1 ⟨rfl, hb⟩
  have hbw := hal.trans (hb.mono hal.size)
  clear hb hal HP
  go_wp2
  go_ret
  exact ⟨rfl, hbw⟩
end Go.Proofs.YtjgopjnkkhkcnaaGreatDoor

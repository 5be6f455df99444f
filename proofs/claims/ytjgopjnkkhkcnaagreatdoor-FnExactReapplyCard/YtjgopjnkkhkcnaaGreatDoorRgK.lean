/-
  A region at work in the program's text: its keeper, the call that it takes. Condition: the table knownKinds reads as its text lays it.
-/
import Derived.Test.YtjgopjnkkhkcnaaGreatDoorRgB
import Derived.Test.YtjgopjnkkhkcnaaGreatDoorBrT2
import Derived.Test.YtjgopjnkkhkcnaaGreatDoorStXI
import Derived.Test.YtjgopjnkkhkcnaaGreatDoorStZ
import Derived.Test.YtjgopjnkkhkcnaaGreatDoorAgr
import Derived.Test.YtjgopjnkkhkcnaaGreatDoorSgRp
import Derived.Lib.QuietBelow
import Derived.BigQuiet
import Derived.Deep.RegionWith
namespace Go.Proofs.YtjgopjnkkhkcnaaGreatDoor
open Go.RowKit M
open Clk (upd upd_same upd_other)
open Go.Sort (grow)
namespace M
/-- What was there is as it was, but for blocks of which S tells. -/
structure Chg (S : Nat → Prop) (w w' : World) : Prop where
  os : w'.os = w.os
  tape : w'.tape = w.tape
  output : w'.output = w.output
  size : w.heap.size ≤ w'.heap.size
  block : ∀ k, k < w.heap.size → ¬ S k → w'.heap[k]? = w.heap[k]?
theorem Chg.trans {S S2 : Nat → Prop} {a b c : World} (h : Chg S a b) (h2 : Chg S2 b c) (hs : ∀ k, S2 k → S k ∨ a.heap.size ≤ k) : Chg S a c :=
  ⟨h2.os.trans h.os, h2.tape.trans h.tape, h2.output.trans h.output, Nat.le_trans h.size h2.size, fun k hk hn => (h2.block k (Nat.lt_of_lt_of_le hk h.size) (fun e => by
    rcases hs k e with h' | h'
    · exact hn h'
    · omega)).trans (h.block k hk hn)⟩
theorem Below.chg {w w' : World} (h : Below w.heap.size w w') (S : Nat → Prop) : Chg S w w' := ⟨h.os, h.tape, h.output, h.size, fun k hk _ => h.block k hk⟩
theorem Chg.gb {S : Nat → Prop} {w w' : World} {row : Option Nat} (h : w.grownBy w' row) (hr : ∀ g, row = some g → S g) : Chg S w w' :=
  ⟨h.os, h.tape, h.output, h.size, fun k hk hn => h.block k hk (fun e => hn (hr k e.symm))⟩
theorem Chg.low {S : Nat → Prop} {w w' : World} {B : Nat} (h : Chg S w w') (hS : ∀ k, S k → B ≤ k) (hB : B ≤ w.heap.size) : Below B w w' :=
  ⟨h.os, h.tape, h.output, h.size, fun k hk => h.block k (by omega) (fun e => by have := hS k e; omega)⟩
theorem Chg.mono {S S2 : Nat → Prop} {w w' : World} (h : Chg S w w') (hs : ∀ k, S k → S2 k) : Chg S2 w w' := ⟨h.os, h.tape, h.output, h.size, fun k hk hn => h.block k hk (fun e => hn (hs k e))⟩
theorem Blk.chg {S : Nat → Prop} {w w' : World} {g n : Nat} {f : Nat → Value} {t : TypeId} (h : Blk w g n f t) (hc : Chg S w w') (hn : ¬ S g) : Blk w' g n f t := by
  unfold Blk; rw [hc.block g h.lt hn]; exact h
theorem owns_chg {S : Nat → Prop} {w w' : World} {B e s n : Nat} {v : Value} {l : List Value} (h : w.ownsRow B e s v n l) (hc : Chg S w w') (hn : ∀ k, v.ownBlock = some k → ¬ S k) : w'.ownsRow B e s v n l := by
  refine ⟨h.1, ?_⟩
  rcases h.2 with h0 | ⟨g, cap, cur, hv, hBg, hb, r⟩
  · exact .inl h0
  · refine .inr ⟨g, cap, cur, hv, hBg, ?_, r⟩
    rw [hc.block g ?_ (hn g (by rw [hv]; rfl))]
    · exact hb
    · rcases Nat.lt_or_ge g w.heap.size with h' | h'
      · exact h'
      · rw [Array.getElem?_eq_none h'] at hb; cases hb
theorem owns_set {w : World} {B e s n g : Nat} {v : Value} {l : List Value} (h : w.ownsRow B e s v n l) (hn : v.ownBlock ≠ some g) (o : Nat) (u : Value) : (w.setCell ⟨g, o, none⟩ u).ownsRow B e s v n l :=
  owns_other h (gbT_set (gbT_refl w (some g))) (fun g' hg' e => hn (by rw [hg', e]))
theorem owns_ne_blk {w : World} {B g n e s m : Nat} {v : Value} {xs : List Value} {f : Nat → Value} {t : TypeId} (h : w.ownsRow B e s v m xs) (hb : Blk w g n f t) (ht : e ≠ t) : v.ownBlock ≠ some g := by
  intro hv
  rcases h.2 with ⟨rfl, _⟩ | ⟨g', cap, cur, rfl, _, hg, _⟩
  · cases hv
  · simp only [Value.ownBlock, Option.some.injEq] at hv
    subst hv
    unfold Blk at hb
    rw [hg] at hb
    simp only [Option.some.injEq, Obj.cells.injEq] at hb
    exact ht hb.2.1
/-- A region at work: its box, and branches of its own. -/
structure KP (W : World) (B g : Nat) (u : Value) (ps : Prs) (id ver : Int) : Prop where
  box : Blk W g 3 (q3 u (.int .i64 id) (.int .i64 ver)) 103
  own : OwnP W B u ps
  lo : B ≤ g
def KS (g : Nat) (u : Value) (q : Nat) : Prop := q = g ∨ u.ownBlock = some q
theorem KP.down {W W' : World} {B g : Nat} {u : Value} {ps : Prs} {id ver : Int} (h : KP W B g u ps id ver) (hb : Below W.heap.size W W') : KP W' B g u ps id ver := ⟨h.box.down hb, h.own.down hb, h.lo⟩
theorem KP.ks {W : World} {B g : Nat} {u : Value} {ps : Prs} {id ver : Int} (h : KP W B g u ps id ver) : ∀ q, KS g u q → B ≤ q := by
  rintro q (rfl | e)
  · exact h.lo
  · exact (h.own.rowBlock e).1
theorem KP.apart {W : World} {B g : Nat} {u : Value} {ps : Prs} {id ver : Int} (h : KP W B g u ps id ver) : u.ownBlock ≠ some g := owns_ne_blk h.own.row h.box (by decide)
theorem OwnP.set_off {w : World} {B g i n : Nat} {v : Value} {ps : Prs} {f : Nat → Value} {t : TypeId} (h : OwnP w B v ps) (hb : Blk w g n f t) (h1 : 148 ≠ t) (h2 : 150 ≠ t) (x : Value) : OwnP (w.setCell ⟨g, i, none⟩ x) B v ps :=
  ⟨owns_set h.row (owns_ne_blk h.row hb h1) i x, fun p hp => owns_set (h.evs p hp) (owns_ne_blk (h.evs p hp) hb h2) i x, h.ap⟩
theorem OwnP.cap {w : World} {B : Nat} {v : Value} {ps : Prs} {i : Nat} {p : Value × Evs} (h : OwnP w B v ps) (hp : ps[i]? = some p) : CapOk p.1 := by
  rcases (h.evs p (List.mem_of_getElem? hp)).split with ⟨e, _⟩ | ⟨g, cap, rest, e, _, _, hc, _⟩
  · rw [e]; exact Nat.le_refl 0
  · rw [e]; exact hc
end M
set_option maxHeartbeats 1000000 in
/-- The history that counts, of branches of the call's own: it has room for what it holds. -/
theorem impl_currentO (B : Nat) (v : Value) (ps : Prs) (w : World) (h : OwnP w B v ps) (hg : GdT (bsP ps)) :
    Calls Tryz.prog 118 #[.agg #[v]] w fun e w' => (∃ a c, e = .returned (.slice a (cB (bsP ps)).length c) ∧ (cB (bsP ps)).length ≤ c ∧ SliceOf w' (.slice a (cB (bsP ps)).length c) (cB (bsP ps))) ∧ Below w.heap.size w w' := by
  have hf : FineS (bsP ps) := hg.2.fine (by have := hg.1; omega)
  by_cases h0 : bsP ps = []
  · have hcb : cB (bsP ps) = [] := by unfold cB; rw [if_pos h0]
    rw [hcb]
    obtain ⟨a1, c1, rfl⟩ := h.form
    have hl : ps.length = 0 := by have := bsP_len ps; rw [h0] at this; simpa using this.symm
    rw [hl]
    refine (current_none a1 c1 w).mono ?_
    rintro e w' ⟨rfl, hb⟩
    exact ⟨⟨none, 0, rfl, Nat.le_refl _, ⟨none, 0, rfl, fun h => absurd rfl h⟩⟩, hb⟩
  · have hp : 0 < (bsP ps).length := List.length_pos_iff.2 h0
    have hcb : cB (bsP ps) = curB (bsP ps) := if_neg h0
    rw [hcb]
    have HO := hide h
    refine (current_among _ (bsP ps) w h.brs hf hp hg).mono ?_
    rintro e w' ⟨⟨a, c, rfl, hs, hcell⟩, hb⟩
    refine ⟨⟨a, c, rfl, ?_, hs.below hb⟩, hb⟩
    have hcu := cur_b hp
    obtain ⟨u, hu⟩ := bsP_at hcu
    rcases HO.out.split with ⟨rfl, e0⟩ | ⟨g, cap, rfl, -⟩
    · rw [e0] at h0; exact absurd rfl h0
    · have h1 := hcell g 0 _ _ rfl
      rw [Nat.zero_add] at h1
      have h2 := own1_cell HO.out.row (vsP_at hu)
      rw [h2] at h1
      simp only [Option.some.injEq] at h1
      have h3 := HO.out.cap hu
      simp only [h1] at h3
      exact h3
set_option maxHeartbeats 1000000 in
theorem copy_tell (v : Value) (bs : Brs) (w : World) (hv : BrsOf w v bs) (hf : FineS bs) (ht : ∀ b ∈ bs, Tl b) :
    Calls Tryz.prog 117 #[.agg #[v]] w fun e w' => (∃ r ps, e = .returned (.agg #[r]) ∧ OwnP w' w.heap.size r ps ∧ bsP ps = bs) ∧ Below w.heap.size w w' := by
  have HV := hide hv
  have HF := hide hf
  have HT := hide ht
  obtain ⟨a1, c1, rfl⟩ := hv.form
  obtain ⟨W, hW⟩ : ∃ W, (w.alloc (.cells #[.slice a1 bs.length c1] 30)).alloc (.cells #[.slice none 0 0] 30) = W := ⟨_, rfl⟩
  obtain ⟨m0, m1, hbW, hsW⟩ := two1 w _ _ _ _ W hW.symm
  have HW := hide hW
  clear hv hf ht hW
  go_enter Tryz.func117, Tryz.ntmps117
  go_wp2_with fail
  rw [HW.out]
  refine (copy_brs _ bs _ (HV.out.below hbW) HF.out HT.out).mono ?_
  rintro e w2 ⟨⟨r, ps, rfl, hO, hps⟩, hb2⟩
  have n1 := m1.down hb2
  have e1 := n1.cell
  have r1 := n1.thaw
  have HO := hide (hO.mono (show w.heap.size + 1 + 1 ≤ W.heap.size by omega))
  have HPS := hide hps
  obtain ⟨ar, cr, rfl⟩ := hO.form
  have hbx := hbW.trans (hb2.mono (by omega))
  have HN := hide (n1.set (.slice ar ps.length cr))
  clear hO hps hb2 hbW HV m0 m1 n1 HW
  go_wp2
  have e2 := HN.out.cell
  refine bodyPost_ret (v := .agg #[.slice ar ps.length cr]) (by simp [results, Tryz.results117, go_sem, e2]) rfl ⟨⟨_, ps, rfl, ?_, HPS.out⟩, ?_⟩
  · exact (HO.out.set_low (by omega) _).mono (by omega)
  · exact hbx.setCell (p := ⟨w.heap.size + 1, 0, none⟩) (by show w.heap.size ≤ w.heap.size + 1; omega) _
set_option maxHeartbeats 1000000 in
theorem keeper_of (id ver : Int) (v : Value) (bs : Brs) (w : World) (hv : BrsOf w v bs) (hf : FineS bs) (ht : ∀ b ∈ bs, Tl b) :
    Calls Tryz.prog 61 #[rv id ver v] w fun e w' => (∃ g u ps, e = .returned (.pointer (some ⟨g, 0, none⟩)) ∧ KP w' w.heap.size g u ps id ver ∧ bsP ps = bs) ∧ Below w.heap.size w w' := by
  have hal := low1 w (.cells #[.int .i64 id, .int .i64 ver, v] 32)
  have HV := hide (hv.below hal)
  have HC := hide (new3 w (.int .i64 id) (.int .i64 ver) v 32)
  have HF := hide hf
  have HT := hide ht
  obtain ⟨a1, c1, rfl⟩ := hv.form
  obtain ⟨⟨d0, d1, d2⟩, -⟩ := HC.out.tri
  obtain ⟨W, hW⟩ : ∃ W, w.alloc (.cells #[.int .i64 id, .int .i64 ver, .slice a1 bs.length c1] 32) = W := ⟨_, rfl⟩
  rw [hW] at HV HC hal d0 d1 d2
  have HM := hide (show ∀ wx wy : World, wx.heap = W.heap → Below wx.heap.size wx wy → wy.cell? ⟨w.heap.size, 0, none⟩ = some (.int .i64 id) ∧ wy.cell? ⟨w.heap.size, 1, none⟩ = some (.int .i64 ver) ∧ wy.cell? ⟨w.heap.size, 2, none⟩ = some (.slice a1 bs.length c1) from fun wx wy hh hb => by
    have h : Blk wx w.heap.size 3 (q3 (.int .i64 id) (.int .i64 ver) (.slice a1 bs.length c1)) 32 := by unfold Blk; rw [hh]; exact HC.out
    exact (h.down hb).tri.1)
  have HW := hide hW
  clear hv hf ht hW
  go_enter Tryz.func61, Tryz.ntmps61
  go_upto_region 1 with fail
  rw [HW.out]
  clear HW
  go_region_with (go_at_call 117; refine (copy_tell _ bs _ (HV.out.below (Below.refl _ _).drew) HF.out HT.out).mono ?_; rintro e w2 ⟨⟨r, ps, rfl, hO, hps⟩, hb2⟩; obtain ⟨m0, m1, m2⟩ := HM.out W.drew w2 rfl hb2; have HO := hide hO; have HPS := hide hps; obtain ⟨ar, cr, rfl⟩ := hO.form; clear hO hps)
  all_goals
    have hbx := hal.trans (((Below.refl W.heap.size W).drew.trans hb2).mono hal.size)
    have hal3 := low1 w2 (.cells #[.slice ar ps.length cr, .int .i64 id, .int .i64 ver] 103)
    have HK := hide (show KP (w2.alloc (.cells #[.slice ar ps.length cr, .int .i64 id, .int .i64 ver] 103)) w.heap.size w2.heap.size (.slice ar ps.length cr) ps id ver from ⟨new3 w2 _ _ _ _, (HO.out.mono hal.size).down hal3, hbx.size⟩)
    have hbz := hbx.trans (hal3.mono hbx.size)
    clear hbx hal3 HO HM hb2 m0 m1 m2 d0 d1 d2
    go_wp2
    go_ret
    exact ⟨⟨_, _, ps, rfl, HK.out, HPS.out⟩, hbz⟩
set_option maxHeartbeats 1000000 in
theorem keeper_region (id ver : Int) (g B : Nat) (u : Value) (ps : Prs) (w : World) (h : KP w B g u ps id ver) :
    Calls Tryz.prog 63 #[.pointer (some ⟨g, 0, none⟩)] w fun e w' => e = .returned (rv id ver u) ∧ Below w.heap.size w w' := by
  have hal := low1 w (.cells #[.int .i64 0, .int .i64 0, .slice none 0 0] 32)
  have HR := hide (new3 w (.int .i64 0) (.int .i64 0) (.slice none 0 0) 32)
  have HK := hide (h.down hal)
  obtain ⟨a1, c1, rfl⟩ := h.own.form
  obtain ⟨W, hW⟩ : ∃ W, w.alloc (.cells #[.int .i64 0, .int .i64 0, .slice none 0 0] 32) = W := ⟨_, rfl⟩
  rw [hW] at HR HK hal
  have HW := hide hW
  obtain ⟨⟨d0, d1, d2⟩, -⟩ := HK.out.box.tri
  have k0 := cell_regrown d0
  have k1 := cell_regrown d1
  have k2 := cell_regrown d2
  clear h hW
  go_enter Tryz.func63, Tryz.ntmps63
  go_upto_region 1 with fail
  rw [HW.out]
  refine region_lastP rfl (by kernel_rfl) (by kernel_rfl) rfl (by kernel_rfl) ?_
  simp only [still, noop, List.dropLast, List.getLast?_cons_cons, List.getLast?_singleton, Option.map_some, Option.toList_some, List.cons_append, List.nil_append, List.getLast_cons_cons, List.getLast_singleton]
  repeat (go_big_quiet_step (fail))
  refine wpQuiet_nil ?_
  rintro _ ⟨⟨dq, osq⟩, rfl⟩
  have hbg := below_regrown W dq osq
  have hR := HR.out.down hbg
  have hbw := hal.trans (hbg.mono hal.size)
  obtain ⟨W1, hW1⟩ : ∃ W1, grow (redrawn W dq) osq = W1 := ⟨_, rfl⟩
  rw [hW1] at hR hbw ⊢
  clear hW1 hbg k0 k1 k2 d0 d1 d2 HW HK HR hal
  obtain ⟨⟨e0, e1, e2⟩, f0, f1, f2⟩ := hR.tri
  obtain ⟨WZ, hWZ⟩ : ∃ WZ, ((W1.setCell ⟨w.heap.size, 0, none⟩ (.int .i64 id)).setCell ⟨w.heap.size, 1, none⟩ (.int .i64 ver)).setCell ⟨w.heap.size, 2, none⟩ (.slice a1 ps.length c1) = WZ := ⟨_, rfl⟩
  have HZ := hide (show Blk WZ w.heap.size 3 (q3 (.int .i64 id) (.int .i64 ver) (.slice a1 ps.length c1)) 32 ∧ Below w.heap.size w WZ from by
    rw [← hWZ]
    exact ⟨hR.put3 _ _ _, ((hbw.setCell (p := ⟨w.heap.size, 0, none⟩) (Nat.le_refl _) _).setCell (p := ⟨w.heap.size, 1, none⟩) (Nat.le_refl _) _).setCell (p := ⟨w.heap.size, 2, none⟩) (Nat.le_refl _) _⟩)
  have HWZ := hide hWZ
  clear hWZ hR hbw
  go_wp2
  rw [HWZ.out]
  clear e0 e1 e2 f0 f1 f2
  obtain ⟨⟨e0, e1, e2⟩, -⟩ := HZ.out.1.tri
  exact bodyPost_ret (v := rv id ver (.slice a1 ps.length c1)) (by simp [results, Tryz.results63, go_sem, e0, e1, e2]) rfl ⟨rfl, HZ.out.2⟩
end Go.Proofs.YtjgopjnkkhkcnaaGreatDoor

/-
  The law of HearWord, walked, wherever both texts tell the same. Condition: the table knownKinds reads as the program's text lays it.
-/
import Derived.Test.YtfkeokglifpkoaaGreatDoorJoin10
import Derived.Test.YtfkeokglifpkoaaGreatDoorJoin37
import Derived.Test.YtfkeokglifpkoaaGreatDoorJoin30
import Derived.Deep.RegionWith
import Derived.Deep.RegionHeld3
import Derived.Deep.Cut
namespace Go.Proofs.YtfkeokglifpkoaaGreatDoor
open Go.RowKit M
open Go.Sort (grow)
namespace M
/-- In the midst of a statement that draws its order: the answer's box may be there (o), the copies may be there (c1, c2). -/
def ST (w0 W : World) (l1 l2 : Brs) (o : Option Nat) (c1 c2 : Option Value) : Prop :=
  Below w0.heap.size w0 W ∧ (∀ g, o = some g → Blk W g 3 (q3 (.int .i64 0) (.int .i64 0) (.slice none 0 0)) 34 ∧ w0.heap.size ≤ g) ∧ (∀ u, c1 = some u → BrsOf W u l1 ∧ CapOk u) ∧ (∀ u, c2 = some u → BrsOf W u l2 ∧ CapOk u)
theorem ST.down {w0 W W' : World} {l1 l2 : Brs} {o : Option Nat} {c1 c2 : Option Value} (h : ST w0 W l1 l2 o c1 c2) (hb : Below W.heap.size W W') : ST w0 W' l1 l2 o c1 c2 :=
  ⟨h.1.trans (hb.mono h.1.size), fun g e => ⟨(h.2.1 g e).1.down hb, (h.2.1 g e).2⟩, fun u e => ⟨(h.2.2.1 u e).1.below hb, (h.2.2.1 u e).2⟩, fun u e => ⟨(h.2.2.2 u e).1.below hb, (h.2.2.2 u e).2⟩⟩
theorem ST.alloc {w0 W : World} {l1 l2 : Brs} {c1 c2 : Option Value} (h : ST w0 W l1 l2 none c1 c2) : ST w0 (W.alloc (.cells #[.int .i64 0, .int .i64 0, .slice none 0 0] 34)) l1 l2 (some W.heap.size) c1 c2 := by
  have hb := low1 W (.cells #[.int .i64 0, .int .i64 0, .slice none 0 0] 34)
  refine ⟨h.1.trans (hb.mono h.1.size), fun g e => ?_, fun u e => ⟨(h.2.2.1 u e).1.below hb, (h.2.2.1 u e).2⟩, fun u e => ⟨(h.2.2.2 u e).1.below hb, (h.2.2.2 u e).2⟩⟩
  cases e
  exact ⟨new3 W _ _ _ _, h.1.size⟩
theorem ST.alloc1 {w0 W : World} {l1 l2 : Brs} {c1 c2 : Option Value} (h : ST w0 W l1 l2 none c1 c2) : ST w0 (W.alloc (.cells #[.int .i64 0, .int .i64 0, .slice none 0 0] 34)).drew l1 l2 (some W.heap.size) c1 c2 := (ST.alloc h).down (Below.refl _ _).drew
/-- Behind the call: the answer's box may be there; the answer is owned. -/
def SV (w0 W : World) (o : Option Nat) (v : Value) (l : Brs) : Prop :=
  Below w0.heap.size w0 W ∧ (∀ g, o = some g → Blk W g 3 (q3 (.int .i64 0) (.int .i64 0) (.slice none 0 0)) 34 ∧ w0.heap.size ≤ g) ∧ ∃ ps, OwnP W w0.heap.size v ps ∧ bsP ps = l
/-- Behind the statement. -/
def LX (w0 W : World) (g : Nat) (i1 x1 : Int) (v : Value) (l : Brs) : Prop := Below w0.heap.size w0 W ∧ Blk W g 3 (q3 (.int .i64 i1) (.int .i64 x1) v) 34 ∧ ∃ ps, OwnP W w0.heap.size v ps ∧ bsP ps = l
theorem SV.fresh {w0 W : World} {v : Value} {l : Brs} (i1 x1 : Int) (h : SV w0 W none v l) : LX w0 (W.alloc (.cells #[.int .i64 i1, .int .i64 x1, v] 34)) W.heap.size i1 x1 v l := by
  have hb := low1 W (.cells #[.int .i64 i1, .int .i64 x1, v] 34)
  obtain ⟨ps, h1, h2⟩ := h.2.2
  exact ⟨h.1.trans (hb.mono h.1.size), new3 W _ _ _ _, ps, h1.down hb, h2⟩
theorem SV.cells {w0 W : World} {g : Nat} {v : Value} {l : Brs} (h : SV w0 W (some g) v l) : (W.cell? ⟨g, 0, none⟩ = some (.int .i64 0) ∧ W.cell? ⟨g, 1, none⟩ = some (.int .i64 0) ∧ W.cell? ⟨g, 2, none⟩ = some (.slice none 0 0)) ∧ W.frozen? ⟨g, 0, none⟩ = false ∧ W.frozen? ⟨g, 1, none⟩ = false ∧ W.frozen? ⟨g, 2, none⟩ = false := (h.2.1 g rfl).1.tri
theorem SV.set {w0 W : World} {g : Nat} {v : Value} {l : Brs} (i1 x1 : Int) (h : SV w0 W (some g) v l) : LX w0 (((W.setCell ⟨g, 0, none⟩ (.int .i64 i1)).setCell ⟨g, 1, none⟩ (.int .i64 x1)).setCell ⟨g, 2, none⟩ v) g i1 x1 v l := by
  obtain ⟨hx, hg⟩ := h.2.1 g rfl
  obtain ⟨ps, h1, h2⟩ := h.2.2
  exact ⟨((h.1.setCell (p := ⟨g, 0, none⟩) hg _).setCell (p := ⟨g, 1, none⟩) hg _).setCell (p := ⟨g, 2, none⟩) hg _, hx.put3 _ _ _, ps, ((h1.set_off hx (by decide) (by decide) _).set_off (hx.tri0 _) (by decide) (by decide) _).set_off ((hx.tri0 _).tri1 _) (by decide) (by decide) _, h2⟩
theorem LX.brs {w0 W : World} {g : Nat} {i1 x1 : Int} {v : Value} {l : Brs} (h : LX w0 W g i1 x1 v l) : BrsOf W v l := by
  obtain ⟨ps, h1, h2⟩ := h.2.2
  have := h1.brs
  rwa [h2] at this
end M
set_option maxRecDepth 20000 in
set_option maxHeartbeats 16000000 in
theorem law_HearWord_run (id ver : Int) (v : Value) (bs : Brs) (wver : Int) (u : Value) (ys : Brs) (w : World) (hv : BrsOf w v bs) (hf : Fine bs) (hu : BrsOf w u ys) (hf2 : Fine ys) (hkk : KK w)
    (hC : FineS bs → FineS ys → ∃ (i1 x1 : Int) (l : Brs) (ok : Bool), (l.length ≤ 12 ∧ ∀ b ∈ l, b.length ≤ 60 ∧ ∀ e ∈ b, e.name.size ≤ 12) ∧ (∀ (v u : Value) (W : World), BrsOf W v bs → CapOk v → BrsOf W u ys → CapOk u → Calls Tryz.prog 29 #[rv id ver v, wv wver u] W fun e w' => (∃ v ps, e = .returned (.tuple #[rv i1 x1 v, .bool ok]) ∧ OwnP w' W.heap.size v ps ∧ bsP ps = l) ∧ Below W.heap.size W w') ∧
      (∀ (v u : Value) (W : World), BrsOf W v bs → BrsOf W u ys → KK W → Calls Tryz.prog 31 #[rv id ver v, wv wver u] W fun e w' => (∃ v ps, e = .returned (.tuple #[rv i1 x1 v, .bool ok]) ∧ OwnP w' W.heap.size v ps ∧ bsP ps = l) ∧ Below W.heap.size W w')) :
    Calls Tryz.prog 7 #[rv id ver v, wv wver u] w fun e w' => e = .returned (.bool true) ∧ Below w.heap.size w w' := by
  obtain ⟨a, c, rfl⟩ := hv.form
  obtain ⟨a2, c2, rfl⟩ := hu.form
  obtain ⟨W0, hW0⟩ : ∃ W0, (w.alloc (.cells #[.int .i64 id, .int .i64 ver, .slice a bs.length c] 26)).alloc (.cells #[.int .i64 wver, .slice a2 ys.length c2] 51) = W0 := ⟨_, rfl⟩
  have hb0 : Below w.heap.size w W0 := by rw [← hW0]; exact (low1 w _).alloc (by simp) _
  have m0 : Blk W0 w.heap.size 3 (q3 (.int .i64 id) (.int .i64 ver) (.slice a bs.length c)) 26 := by rw [← hW0]; exact (new3 w _ _ _ _).alloc _
  have m1 : Blk W0 (w.heap.size + 1) 2 (q2 (.int .i64 wver) (.slice a2 ys.length c2)) 51 := by
    have := new2 (w.alloc (.cells #[.int .i64 id, .int .i64 ver, .slice a bs.length c] 26)) (.int .i64 wver) (.slice a2 ys.length c2) 51
    rw [World.size_alloc] at this; rw [← hW0]; exact this
  have HN0 := hide (And.intro m0 m1)
  have HW0 := hide hW0
  obtain ⟨⟨hd0, hd1, hd2⟩, -⟩ := m0.tri
  rw [← hW0] at hd0 hd1 hd2
  clear hW0 m0 m1
  have HV := hide hv
  have HF := hide hf
  have HU := hide hu
  have HF2 := hide hf2
  have HK := hide hkk
  have HC := hide hC
  clear hv hf hu hf2 hkk hC
  by_cases hfit : bs.length + wb bs ≤ 1048576
  case neg =>
    have hz := szr_no (left := 1048576) (n := bs.length + wb bs) (by omega)
    have hge : szr 1048576 (bs.length + wb bs) < 0 := by rw [hz]; omega
    clear hz HN0
    go_enter Tryz.func7, Tryz.ntmps7
    go_wp2_with fail
    rw [HW0.out]
    refine (sz_region id ver _ bs 1048576 _ (HV.out.below hb0) HF.out (by decide) (by decide)).mono ?_
    rintro e w1 ⟨rfl, hb⟩
    have hb1 := hb0.trans (hb.mono hb0.size)
    clear hb hd0 hd1 hd2
    go_wp2
    go_ret
    exact ⟨rfl, hb1⟩
  obtain ⟨nn, hnn⟩ : ∃ nn, bs.length + wb bs = nn := ⟨_, rfl⟩
  have hz := szr_yes (left := 1048576) (n := nn) (by omega)
  have hge : ¬ ((1048576 : Int) - (nn : Int) < 0) := by omega
  have HZ := hide hz
  have HNN := hide hnn
  have HS := hide (fine_small HF.out hfit)
  have hwl : wb bs ≤ 1048576 := by omega
  have HWL := hide hwl
  have hnl : nn ≤ 1048576 := by omega
  clear hz hnn hfit hwl
  obtain ⟨n2, hn2⟩ : ∃ n2, (ys.length + wb ys) = n2 := ⟨_, rfl⟩
  have HN2E := hide hn2
  by_cases hfit2 : nn + n2 ≤ 1048576
  case neg =>
    have hz := szr_no (left := (1048576 : Int) - (nn : Int)) (n := n2) (by omega)
    have hge2 : szr ((1048576 : Int) - (nn : Int)) n2 < 0 := by rw [hz]; omega
    clear hz hn2
    go_enter Tryz.func7, Tryz.ntmps7
    go_wp2_with fail
    rw [HW0.out]
    refine (sz_region id ver _ bs 1048576 _ (HV.out.below hb0) HF.out (by decide) (by decide)).mono ?_
    rw [HNN.out, HZ.out]
    rintro e w1 ⟨rfl, hb⟩
    have hb1 := hb0.trans (hb.mono hb0.size)
    clear hd0 hd1 hd2
    have HN1 := hide (And.intro (HN0.out.1.down hb) (HN0.out.2.down hb))
    obtain ⟨⟨d1, d2⟩, -⟩ := HN1.out.2.duo
    clear hb
    go_wp2_with fail
    refine (sz_word wver _ ys _ _ (HU.out.below hb1) HF2.out (by omega) (by omega)).mono ?_
    rw [HN2E.out]
    rintro e w2 ⟨rfl, hb⟩
    have hb2 := hb1.trans (hb.mono hb1.size)
    clear hb
    go_wp2
    go_ret
    exact ⟨rfl, hb2⟩
  have hz := szr_yes (left := (1048576 : Int) - (nn : Int)) (n := n2) (by omega)
  have hge2 : ¬ ((1048576 : Int) - (nn : Int) - (n2 : Int) < 0) := by omega
  have HZ2 := hide hz
  have HS2 := hide (fine_small HF2.out (by omega))
  have hwl2 : wb ys ≤ 1048576 := by omega
  have HWL2 := hide hwl2
  clear hwl2
  clear hz hn2
  obtain ⟨i1, x1, l, ok, hgl, hS, hI⟩ := HC.out HS.out HS2.out
  have CS := hide hS
  have CI := hide hI
  have HGL := hide hgl
  have HFL := hide (show FineS l from ⟨by omega, fun b hb => ⟨by have := (hgl.2 b hb).1; omega, fun e he => by have := (hgl.2 b hb).2 e he; unfold maxLen; omega⟩⟩)
  have hkk2 : (ok != ok) = false := by simp
  clear hS hI hgl HC
  go_enter Tryz.func7, Tryz.ntmps7
  go_wp2_with fail
  rw [HW0.out]
  refine (sz_region id ver _ bs 1048576 _ (HV.out.below hb0) HF.out (by decide) (by decide)).mono ?_
  rw [HNN.out, HZ.out]
  rintro e w1 ⟨rfl, hb⟩
  have hb1 := hb0.trans (hb.mono hb0.size)
  have HN1 := hide (And.intro (HN0.out.1.down hb) (HN0.out.2.down hb))
  clear hb hb0 HN0 hd0 hd1 hd2 HW0
  obtain ⟨⟨d1, d2⟩, -⟩ := HN1.out.2.duo
  go_wp2_with fail
  refine (sz_word wver _ ys _ _ (HU.out.below hb1) HF2.out (by omega) (by omega)).mono ?_
  rw [HN2E.out, HZ2.out]
  rintro e w2 ⟨rfl, hb⟩
  have hb2 := hb1.trans (hb.mono hb1.size)
  have HN2 := hide (And.intro (HN1.out.1.down hb) (HN1.out.2.down hb))
  clear hb hb1 HN1 HZ HZ2 HNN HN2E hfit2 hnl d1 d2
  go_upto_region 8 with fail
  have hF1 : ST w2 w2 bs ys none none none := ⟨Below.refl w2.heap.size w2, fun g e => (by cases e), fun _ e => (by cases e), fun _ e => (by cases e)⟩
  have hF0 : ST w2 w2.drew bs ys none none none := ⟨(Below.refl w2.heap.size w2).drew, fun g e => (by cases e), fun _ e => (by cases e), fun _ e => (by cases e)⟩
  have HS0 := hide (show ∀ W, Below w2.heap.size w2 W → W.cell? ⟨w.heap.size, 0, none⟩ = some (.int .i64 id) ∧ W.cell? ⟨w.heap.size, 1, none⟩ = some (.int .i64 ver) ∧ W.cell? ⟨w.heap.size, 2, none⟩ = some (.slice a bs.length c) ∧ W.cell? ⟨w.heap.size + 1, 0, none⟩ = some (.int .i64 wver) ∧ W.cell? ⟨w.heap.size + 1, 1, none⟩ = some (.slice a2 ys.length c2) from fun W hW => ⟨(HN2.out.1.down hW).tri.1.1, (HN2.out.1.down hW).tri.1.2.1, (HN2.out.1.down hW).tri.1.2.2, (HN2.out.2.down hW).duo.1.1, (HN2.out.2.down hW).duo.1.2⟩)
  have HT1 := hide (show ∀ W o k1 k2, ST w2 W bs ys o k1 k2 → Calls Tryz.prog 14 #[rv id ver (.slice a bs.length c)] W fun e W' => ∃ g, e = .returned (rv id ver (.slice (some ⟨g, 0, none⟩) bs.length bs.length)) ∧ ST w2 W' bs ys o (some (.slice (some ⟨g, 0, none⟩) bs.length bs.length)) k2 from fun W o k1 k2 hW => (to_region id ver _ bs W ((HV.out.below hb2).below hW.1) HS.out).mono (by
    rintro e W' ⟨⟨g, ps, rfl, hO, hps⟩, hb⟩
    have hx := hO.brs
    rw [hps] at hx
    have h := hW.down hb
    exact ⟨g, rfl, h.1, h.2.1, fun u e => by cases e; exact ⟨hx, Nat.le_refl _⟩, h.2.2.2⟩))
  have HT2 := hide (show ∀ W o k1 k2, ST w2 W bs ys o k1 k2 → Calls Tryz.prog 30 #[wv wver (.slice a2 ys.length c2)] W fun e W' => ∃ g, e = .returned (wv wver (.slice (some ⟨g, 0, none⟩) ys.length ys.length)) ∧ ST w2 W' bs ys o k1 (some (.slice (some ⟨g, 0, none⟩) ys.length ys.length)) from fun W o k1 k2 hW => (to_word wver _ ys W ((HU.out.below hb2).below hW.1) HS2.out).mono (by
    rintro e W' ⟨⟨g, ps, rfl, hO, hps⟩, hb⟩
    have hx := hO.brs
    rw [hps] at hx
    have h := hW.down hb
    exact ⟨g, rfl, h.1, h.2.1, h.2.2.1, fun u e => by cases e; exact ⟨hx, Nat.le_refl _⟩⟩))
  have HFN := hide (show ∀ W o u1 u2, ST w2 W bs ys o (some u1) (some u2) → Calls Tryz.prog 29 #[rv id ver u1, wv wver u2] W fun e W' => ∃ a c, e = .returned (.tuple #[rv i1 x1 (.slice a l.length c), .bool ok]) ∧ SV w2 W' o (.slice a l.length c) l from fun W o u1 u2 hW => (CS.out u1 u2 W (hW.2.2.1 u1 rfl).1 (hW.2.2.1 u1 rfl).2 (hW.2.2.2 u2 rfl).1 (hW.2.2.2 u2 rfl).2).mono (by
    rintro e W' ⟨⟨v, ps, rfl, hO, hps⟩, hb⟩
    have hpl : ps.length = l.length := by rw [← hps, bsP_len]
    obtain ⟨a, c, rfl⟩ := hO.form
    have h := hW.down hb
    rw [hpl] at hO ⊢
    exact ⟨a, c, rfl, h.1, h.2.1, ps, hO.mono hW.1.size, hps⟩))
  go_cut [6, 7] from 27 (fun p bb wx => ∃ (g : Nat) (a3 : Option Addr) (c3 : Nat), p = .pointer (some ⟨g, 0, none⟩) ∧ bb = .bool ok ∧ Hid (LX w2 wx g i1 x1 (.slice a3 l.length c3) l))
  case first =>
    go_region_held3 (fun W => W.cell? ⟨w.heap.size, 0, none⟩ = some (.int .i64 id) ∧ W.cell? ⟨w.heap.size, 1, none⟩ = some (.int .i64 ver) ∧ W.cell? ⟨w.heap.size, 2, none⟩ = some (.slice a bs.length c) ∧ W.cell? ⟨w.heap.size + 1, 0, none⟩ = some (.int .i64 wver) ∧ W.cell? ⟨w.heap.size + 1, 1, none⟩ = some (.slice a2 ys.length c2)) (first
      | exact HS0.out _ (by with_reducible assumption)
      | exact HS0.out _ (ST.down (by with_reducible assumption) (Below.refl _ _)).1
      | exact HS0.out _ (ST.alloc (by with_reducible assumption)).1
      | exact HS0.out _ (ST.alloc1 (by with_reducible assumption)).1
      | exact HS0.out _ (show SV _ _ _ _ _ from (by with_reducible assumption)).1
      | exact HS0.out _ (SV.set _ _ (by with_reducible assumption)).1
      | exact HS0.out _ (SV.fresh _ _ (by with_reducible assumption)).1
      | exact HS0.out _ ((show SV _ _ _ _ _ from (by with_reducible assumption)).1.alloc (show SV _ _ _ _ _ from (by with_reducible assumption)).1.size _)) (first
      | (go_at_call 14; with_reducible refine Calls.mono (HT1.out _ _ _ _ (by first | assumption | exact ST.alloc1 (by assumption) | exact ST.alloc (by assumption))) ?_; rintro e wo ⟨go, rfl, hSo⟩)
      | (go_at_call 30; with_reducible refine Calls.mono (HT2.out _ _ _ _ (by first | assumption | exact ST.alloc1 (by assumption) | exact ST.alloc (by assumption))) ?_; rintro e wt ⟨gt, rfl, hSt⟩)
      | (go_at_call 29; with_reducible refine Calls.mono (HFN.out _ _ _ _ (by first | assumption | exact ST.alloc1 (by assumption) | exact ST.alloc (by assumption))) ?_; rintro e wf ⟨af, cf', rfl, hSf⟩; first | (obtain ⟨⟨k0, k1, k2⟩, k3, k4, k5⟩ := hSf.cells) | skip))
    all_goals
      go_wp2_with fail
      go_meet
      first
        | exact ⟨_, af, cf', rfl, rfl, hide (hSf.set _ _)⟩
        | exact ⟨_, af, cf', rfl, rfl, hide (hSf.fresh _ _)⟩
  case rest =>
  rename World => A
  obtain ⟨gW, a5, c5, rfl, rfl, HLX⟩ := hcut
  have hbA := hb2.trans (HLX.out.1.mono hb2.size)
  have HXA := hide HLX.out.brs
  have HWA := hide HLX.out.2.1
  have HNA := hide (And.intro (HN2.out.1.down HLX.out.1) (HN2.out.2.down HLX.out.1))
  have HVA := hide (HV.out.below hbA)
  have HUA := hide (HU.out.below hbA)
  clear hF1 hF0 HS0 HT1 HT2 HFN HLX hb2 HN2
  obtain ⟨⟨d0, d1, d2⟩, -⟩ := HNA.out.1.tri
  go_wp2_with fail
  clear d0 d1 d2
  refine (to_region id ver _ bs _ HVA.out HS.out).mono ?_
  rintro e w6 ⟨⟨g6, ps6, rfl, hO6, hps6⟩, hb6⟩
  obtain ⟨gY, hgY⟩ : ∃ gY, w6.heap.size = gY := ⟨_, rfl⟩
  obtain ⟨w7, hw7⟩ : ∃ w7, w6.alloc (.cells #[.int .i64 id, .int .i64 ver, .slice (some ⟨g6, 0, none⟩) bs.length bs.length] 34) = w7 := ⟨_, rfl⟩
  have h67 : Below w6.heap.size w6 w7 := by rw [← hw7]; exact (Below.refl _ _).alloc (Nat.le_refl _) _
  have hY7 : Blk w7 gY 3 (q3 (.int .i64 id) (.int .i64 ver) (.slice (some ⟨g6, 0, none⟩) bs.length bs.length)) 34 := by rw [← hw7, ← hgY]; exact new3 _ _ _ _ _
  have HIN := hide (show Within A.heap.size gY (.slice (some ⟨g6, 0, none⟩) bs.length bs.length) ps6 by rw [← hgY]; exact hO6.within)
  have HPS := hide hps6
  have hAY : A.heap.size ≤ gY := by rw [← hgY]; exact hb6.size
  have hY7s : gY < w7.heap.size := hY7.lt
  have hs7 := hb6.trans (h67.mono hb6.size)
  have HP7 := hide (hO6.down h67)
  have HY7 := hide hY7
  have Hw7 := hide hw7
  have HgY := hide hgY
  clear hb6 hO6 hps6 h67 hY7 hgY
  obtain ⟨⟨g0, g1⟩, -⟩ := (HNA.out.2.down hs7).duo
  rw [← hw7] at g0 g1
  clear hw7
  go_wp2_with fail
  rw [Hw7.out, HgY.out]
  clear Hw7 HgY g0 g1
  refine (to_word wver _ ys _ (HUA.out.below hs7) HS2.out).mono ?_
  rintro e w8 ⟨⟨g8, ps8, rfl, hO8, hps8⟩, hb8⟩
  obtain ⟨gZ, hgZ⟩ : ∃ gZ, w8.heap.size = gZ := ⟨_, rfl⟩
  obtain ⟨w9, hw9⟩ : ∃ w9, w8.alloc (.cells #[.int .i64 wver, .slice (some ⟨g8, 0, none⟩) ys.length ys.length] 45) = w9 := ⟨_, rfl⟩
  have h89 : Below w8.heap.size w8 w9 := by rw [← hw9]; exact (Below.refl _ _).alloc (Nat.le_refl _) _
  have hZ9 : Blk w9 gZ 2 (q2 (.int .i64 wver) (.slice (some ⟨g8, 0, none⟩) ys.length ys.length)) 45 := by rw [← hw9, ← hgZ]; exact new2 _ _ _ _
  have HIN2 := hide (show Within w7.heap.size gZ (.slice (some ⟨g8, 0, none⟩) ys.length ys.length) ps8 by rw [← hgZ]; exact hO8.within)
  have HPS2 := hide hps8
  have h7Z : w7.heap.size ≤ gZ := by rw [← hgZ]; exact hb8.size
  have hZ9s : gZ < w9.heap.size := hZ9.lt
  have h79 := hb8.trans (h89.mono hb8.size)
  have hs9 := hs7.trans (h79.mono hs7.size)
  have HQ9 := hide (hO8.down h89)
  have HZ9 := hide hZ9
  have HP9 := hide (HP7.out.down h79)
  have HY9 := hide (HY7.out.down h79)
  have Hw9 := hide hw9
  have HgZ := hide hgZ
  obtain ⟨⟨d0, d1, d2⟩, -⟩ := HY9.out.tri
  obtain ⟨⟨g0, g1⟩, -⟩ := HZ9.out.duo
  rw [← hw9] at d0 d1 d2 g0 g1
  rw [← hgZ] at g0 g1
  have HXP := hide (show BrsOf w9 (.slice (some ⟨g6, 0, none⟩) bs.length bs.length) bs by have := HP9.out.brs; rwa [HPS.out] at this)
  have HXQ := hide (show BrsOf w9 (.slice (some ⟨g8, 0, none⟩) ys.length ys.length) ys by have := HQ9.out.brs; rwa [HPS2.out] at this)
  clear hb8 hO8 hps8 h89 hZ9 h79 hs7 HP7 HY7 hw9 hgZ
  go_wp2_with fail
  rw [Hw9.out, HgZ.out]
  clear Hw9 HgZ d0 d1 d2 g0 g1
  have hb9 := hbA.trans (hs9.mono hbA.size)
  refine (CI.out _ _ _ HXP.out HXQ.out (HK.out.below hb9)).mono ?_
  rintro e w10 ⟨⟨v10, ps10, rfl, hO10, hps10⟩, hb⟩
  obtain ⟨a10, c10, rfl⟩ := hO10.form
  have hpl10 : ps10.length = l.length := by rw [← hps10, bsP_len]
  rw [hpl10] at hO10 ⊢
  obtain ⟨gG, hgG⟩ : ∃ gG, w10.heap.size = gG := ⟨_, rfl⟩
  obtain ⟨w11, hw11⟩ : ∃ w11, w10.alloc (.cells #[.int .i64 i1, .int .i64 x1, .slice a10 l.length c10] 34) = w11 := ⟨_, rfl⟩
  have h1011 : Below w10.heap.size w10 w11 := by rw [← hw11]; exact (Below.refl _ _).alloc (Nat.le_refl _) _
  have hG11 : Blk w11 gG 3 (q3 (.int .i64 i1) (.int .i64 x1) (.slice a10 l.length c10)) 34 := by rw [← hw11, ← hgG]; exact new3 _ _ _ _ _
  have h911 := hb.trans (h1011.mono hb.size)
  have hs11 := hs9.trans (h911.mono hs9.size)
  have HO11 := hide (hO10.down h1011)
  have HIG := hide (show Within w9.heap.size gG (.slice a10 l.length c10) ps10 by rw [← hgG]; exact hO10.within)
  have h9G : w9.heap.size ≤ gG := by rw [← hgG]; exact hb.size
  have HPG := hide hps10
  have HPL := hide hpl10
  have HG11 := hide hG11
  have HP11 := hide (HP9.out.down h911)
  have HQ11 := hide (HQ9.out.down h911)
  have HY11 := hide (HY9.out.down h911)
  have HZ11 := hide (HZ9.out.down h911)
  have hxg : BrsOf w11 (.slice a10 l.length c10) l := by have := HO11.out.brs; rwa [hps10] at this
  have HXG := hide hxg
  obtain ⟨⟨p0, p1, p2⟩, -⟩ := (HWA.out.down hs11).tri
  obtain ⟨⟨q0, q1, q2⟩, -⟩ := HG11.out.tri
  rw [← hw11] at p0 p1 p2 q0 q1 q2
  rw [← hgG] at q0 q1 q2
  have Hw11 := hide hw11
  have HgG := hide hgG
  clear hb hO10 hps10 hpl10 hgG hw11 h1011 hG11 h911 hs9 hb9 HXP HXQ hxg HP9 HQ9 HY9 HZ9
  go_wp2_with fail
  rw [Hw11.out, HgG.out]
  clear Hw11 HgG p0 p1 p2 q0 q1 q2
  refine (eq_region i1 x1 _ _ l _ HXG.out (HXA.out.below hs11) HFL.out).mono ?_
  rintro e w12 ⟨rfl, hb⟩
  have hs12 := hs11.trans (hb.mono hs11.size)
  have HO12 := hide (HO11.out.down hb)
  have HG12 := hide (HG11.out.down hb)
  have HP12 := hide (HP11.out.down hb)
  have HQ12 := hide (HQ11.out.down hb)
  have HY12 := hide (HY11.out.down hb)
  have HZ12 := hide (HZ11.out.down hb)
  clear hb hs11 HO11 HG11 HP11 HQ11 HY11 HZ11 HXG
  obtain ⟨⟨d0, d1, d2⟩, -⟩ := (HNA.out.1.down hs12).tri
  obtain ⟨⟨e0, e1, e2⟩, -⟩ := HY12.out.tri
  have HMX := hide (show ∀ wx wy : World, wx.heap = w12.heap → Below wx.heap.size wx wy → wy.cell? ⟨gY, 0, none⟩ = some (.int .i64 id) ∧ wy.cell? ⟨gY, 1, none⟩ = some (.int .i64 ver) ∧ wy.cell? ⟨gY, 2, none⟩ = some (.slice (some ⟨g6, 0, none⟩) bs.length bs.length) from fun wx wy hh hb => by
    have h : Blk wx gY 3 (q3 (.int .i64 id) (.int .i64 ver) (.slice (some ⟨g6, 0, none⟩) bs.length bs.length)) 34 := by unfold Blk; rw [hh]; exact HY12.out
    exact (h.down hb).tri.1)
  have HXX := hide (show BrsOf w12 (.slice (some ⟨g6, 0, none⟩) bs.length bs.length) bs by have := HP12.out.brs; rwa [HPS.out] at this)
  go_wp2_with fail
  go_cut [58] from 54 (fun bb wx => bb = .bool false ∧ Hid (Below w12.heap.size w12 wx))
  case first =>
    go_region_with (first | (go_at_call 14; refine (to_region id ver _ bs _ (HVA.out.below hs12.drew) HS.out).mono ?_; rintro e wx ⟨⟨gx, psx, rfl, hOx, hpsx⟩, hbx⟩; have hxx := hOx.brs; rw [hpsx] at hxx; have HXN := hide hxx; clear hxx hOx hpsx; obtain ⟨m0, m1, m2⟩ := HMX.out w12.drew wx rfl hbx) | (go_at_call 16; refine (eq_region id ver _ _ bs _ ((HXX.out.below ((Below.refl w12.heap.size w12).drew)).below hbx) HXN.out HS.out).mono ?_; rintro e wy ⟨rfl, hby⟩))
    all_goals
      go_wp2_with fail
      go_meet
      exact ⟨rfl, hide (((Below.refl w12.heap.size w12).drew.trans hbx).trans (hby.mono hbx.size))⟩
  case rest =>
  rename World => w13
  obtain ⟨rfl, HCC⟩ := hcut
  have hs13 := hs12.trans (HCC.out.mono hs12.size)
  have HO13 := hide (HO12.out.down HCC.out)
  have HG13 := hide (HG12.out.down HCC.out)
  have HP13 := hide (HP12.out.down HCC.out)
  have HQ13 := hide (HQ12.out.down HCC.out)
  have HY13 := hide (HY12.out.down HCC.out)
  have HZ13 := hide (HZ12.out.down HCC.out)
  clear hs12 HO12 HG12 HP12 HQ12 HY12 HZ12 HCC HMX HXX d0 d1 d2 e0 e1 e2
  obtain ⟨⟨d0, d1⟩, -⟩ := (HNA.out.2.down hs13).duo
  obtain ⟨⟨e0, e1⟩, -⟩ := HZ13.out.duo
  have HMX := hide (show ∀ wx wy : World, wx.heap = w13.heap → Below wx.heap.size wx wy → wy.cell? ⟨gZ, 0, none⟩ = some (.int .i64 wver) ∧ wy.cell? ⟨gZ, 1, none⟩ = some (.slice (some ⟨g8, 0, none⟩) ys.length ys.length) from fun wx wy hh hb => by
    have h : Blk wx gZ 2 (q2 (.int .i64 wver) (.slice (some ⟨g8, 0, none⟩) ys.length ys.length)) 45 := by unfold Blk; rw [hh]; exact HZ13.out
    exact (h.down hb).duo.1)
  have HXX := hide (show BrsOf w13 (.slice (some ⟨g8, 0, none⟩) ys.length ys.length) ys by have := HQ13.out.brs; rwa [HPS2.out] at this)
  go_wp2_with fail
  go_cut [63] from 59 (fun bb wx => bb = .bool false ∧ Hid (Below w13.heap.size w13 wx))
  case first =>
    go_region_with (first | (go_at_call 30; refine (to_word wver _ ys _ (HUA.out.below hs13.drew) HS2.out).mono ?_; rintro e wx ⟨⟨gx, psx, rfl, hOx, hpsx⟩, hbx⟩; have hxx := hOx.brs; rw [hpsx] at hxx; have HXN := hide hxx; clear hxx hOx hpsx; obtain ⟨m0, m1⟩ := HMX.out w13.drew wx rfl hbx) | (go_at_call 25; refine (eq_word wver _ _ ys _ ((HXX.out.below ((Below.refl w13.heap.size w13).drew)).below hbx) HXN.out HS2.out).mono ?_; rintro e wy ⟨rfl, hby⟩))
    all_goals
      go_wp2_with fail
      go_meet
      exact ⟨rfl, hide (((Below.refl w13.heap.size w13).drew.trans hbx).trans (hby.mono hbx.size))⟩
  case rest =>
  rename World => w14
  obtain ⟨rfl, HCC⟩ := hcut
  have hs14 := hs13.trans (HCC.out.mono hs13.size)
  have HO14 := hide (HO13.out.down HCC.out)
  have HG14 := hide (HG13.out.down HCC.out)
  have HP14 := hide (HP13.out.down HCC.out)
  have HQ14 := hide (HQ13.out.down HCC.out)
  have HY14 := hide (HY13.out.down HCC.out)
  have HZ14 := hide (HZ13.out.down HCC.out)
  clear hs13 HO13 HG13 HP13 HQ13 HY13 HZ13 HCC HMX HXX d0 d1 e0 e1
  have HEV := hide (show evn ps6 ≤ 1048576 from by
    have := evn_wb ps6
    rw [HPS.out] at this
    have := HWL.out
    omega)
  obtain ⟨⟨e0, e1, e2⟩, -⟩ := HY14.out.tri
  go_wp2_with fail
  refine (mark_region id ver A.heap.size 1 A.heap.size gY _ ps6 _ HP14.out HIN.out (by have := congrArg List.length HPS.out; rw [bsP_len] at this; rw [this]; exact HS.out.1) (fun q hq => (HS.out.2 q.2 (by rw [← HPS.out]; exact List.mem_map_of_mem hq)).1) (Nat.le_refl _) (by have := HEV.out; omega)).mono ?_
  rintro e w15 ⟨rfl, -, hk⟩
  have hs15 := hs14.trans (hk.below (Nat.le_refl _) hs14.size)
  have HO15 := hide (HO14.out.kept hk (by omega))
  have HG15 := hide (show Blk w15 gG 3 (q3 (.int .i64 i1) (.int .i64 x1) (.slice a10 l.length c10)) 34 from hk.blk HG14.out (.inr (by omega)))
  have HQ15 := hide (HQ14.out.kept hk (by omega))
  have HZ15 := hide (show Blk w15 gZ 2 (q2 (.int .i64 wver) (.slice (some ⟨g8, 0, none⟩) ys.length ys.length)) 45 from hk.blk HZ14.out (.inr (by omega)))
  obtain ⟨k1, hk1⟩ : ∃ k1, 1 + 4 * evn ps6 = k1 := ⟨_, rfl⟩
  have HK1 := hide (show 1 ≤ k1 ∧ k1 ≤ 4194305 by have := HEV.out; omega)
  rw [hk1]
  clear hs14 HO14 HG14 HP14 HQ14 HY14 HZ14 hk e0 e1 e2 HIN HEV hk1
  have HEV2 := hide (show evn ps8 ≤ 1048576 from by
    have := evn_wb ps8
    rw [HPS2.out] at this
    have := HWL2.out
    omega)
  obtain ⟨⟨e0, e1⟩, -⟩ := HZ15.out.duo
  go_wp2_with fail
  refine (mark_word wver w7.heap.size k1 w7.heap.size gZ _ ps8 _ HQ15.out HIN2.out (by have := congrArg List.length HPS2.out; rw [bsP_len] at this; rw [this]; exact HS2.out.1) (fun q hq => (HS2.out.2 q.2 (by rw [← HPS2.out]; exact List.mem_map_of_mem hq)).1) HK1.out.1 (by have := HEV2.out; have := HK1.out; omega)).mono ?_
  rintro e w16 ⟨rfl, -, hk⟩
  have hs16 := hs15.trans (hk.below (by omega) hs15.size)
  have HO16 := hide (HO15.out.kept hk (by omega))
  have HG16 := hide (show Blk w16 gG 3 (q3 (.int .i64 i1) (.int .i64 x1) (.slice a10 l.length c10)) 34 from hk.blk HG15.out (.inr (by omega)))
  obtain ⟨k2, hk2⟩ : ∃ k2, k1 + 4 * evn ps8 = k2 := ⟨_, rfl⟩
  rw [hk2]
  clear hs15 HO15 HG15 HQ15 HZ15 hk e0 e1 HIN2 HEV2 hk2
  have hk20 : ¬ ((k2 : Int) < 0) := by omega
  obtain ⟨⟨p0, p1, p2⟩, -⟩ := HG16.out.tri
  obtain ⟨⟨q0, q1, q2⟩, -⟩ := (HWA.out.down hs16).tri
  have HXG := hide (show BrsOf w16 (.slice a10 l.length c10) l by have := HO16.out.brs; rwa [HPG.out] at this)
  go_wp2_with fail
  refine (eq_region i1 x1 _ _ l _ HXG.out (HXA.out.below hs16) HFL.out).mono ?_
  rintro e w17 ⟨rfl, hb⟩
  have hs17 := hs16.trans (hb.mono hs16.size)
  have HO17 := hide (HO16.out.down hb)
  have HG17 := hide (HG16.out.down hb)
  clear hb hs16 HO16 HG16 HXG p0 p1 p2 q0 q1 q2
  have HLE := hide (show ∀ q ∈ ps10, q.2.length ≤ 60 from fun q hq => (HGL.out.2 q.2 (by rw [← HPG.out]; exact List.mem_map_of_mem hq)).1)
  have HEG := hide (show evn ps10 ≤ 720 from by
    have h1 := evn_le HLE.out
    have h2 := HGL.out.1
    rw [HPL.out] at h1
    omega)
  obtain ⟨mm, hmm⟩ : ∃ mm, 1 + 4 * evn ps10 = mm := ⟨_, rfl⟩
  have hm0 : ¬ ((mm : Int) < 0) := by omega
  have hm1 : ((mm : Int) != (mm : Int)) = false := by simp
  have HMM := hide hmm
  clear hmm
  obtain ⟨⟨p0, p1, p2⟩, -⟩ := HG17.out.tri
  go_wp2_with fail
  refine (mark_region i1 x1 w9.heap.size 1 w9.heap.size gG _ ps10 _ HO17.out HIG.out (by have := HPL.out; have := HGL.out.1; omega) (fun q hq => by have := HLE.out q hq; omega) (Nat.le_refl _) (by have := HEG.out; omega)).mono ?_
  rw [HMM.out]
  rintro e w18 ⟨rfl, hOm, hk⟩
  have hs18 := hs17.trans (hk.below (by have := hs17.size; omega) hs17.size)
  have HO18 := hide hOm
  have HG18 := hide (show Blk w18 gG 3 (q3 (.int .i64 i1) (.int .i64 x1) (.slice a10 l.length c10)) 34 from hk.blk HG17.out (.inr (Nat.le_refl _)))
  clear hs17 HO17 HG17 hOm hk p0 p1 p2 HIG
  obtain ⟨⟨p0, p1, p2⟩, -⟩ := HG18.out.tri
  go_wp2_with fail
  refine (held_region i1 x1 w9.heap.size 1 _ ps10 _ HO18.out (by have := HPL.out; have := HGL.out.1; omega) (fun q hq => by have := HLE.out q hq; omega) (Nat.le_refl _) (by have := HEG.out; omega)).mono ?_
  rw [HMM.out]
  rintro e w19 ⟨rfl, hb⟩
  have hs19 := hs18.trans (hb.mono hs18.size)
  have HO19 := hide (HO18.out.down hb)
  have HG19 := hide (HG18.out.down hb)
  clear hb hs18 HO18 HG18 p0 p1 p2
  have hb19 := hbA.trans (hs19.mono hbA.size)
  go_upto_region 31 with fail
  have hF1 : ST w19 w19 bs ys none none none := ⟨Below.refl w19.heap.size w19, fun g e => (by cases e), fun _ e => (by cases e), fun _ e => (by cases e)⟩
  have hF0 : ST w19 w19.drew bs ys none none none := ⟨(Below.refl w19.heap.size w19).drew, fun g e => (by cases e), fun _ e => (by cases e), fun _ e => (by cases e)⟩
  have HS0 := hide (show ∀ W, Below w19.heap.size w19 W → W.cell? ⟨w.heap.size, 0, none⟩ = some (.int .i64 id) ∧ W.cell? ⟨w.heap.size, 1, none⟩ = some (.int .i64 ver) ∧ W.cell? ⟨w.heap.size, 2, none⟩ = some (.slice a bs.length c) ∧ W.cell? ⟨w.heap.size + 1, 0, none⟩ = some (.int .i64 wver) ∧ W.cell? ⟨w.heap.size + 1, 1, none⟩ = some (.slice a2 ys.length c2) from fun W hW => ⟨((HNA.out.1.down hs19).down hW).tri.1.1, ((HNA.out.1.down hs19).down hW).tri.1.2.1, ((HNA.out.1.down hs19).down hW).tri.1.2.2, ((HNA.out.2.down hs19).down hW).duo.1.1, ((HNA.out.2.down hs19).down hW).duo.1.2⟩)
  have HT1 := hide (show ∀ W o k1 k2, ST w19 W bs ys o k1 k2 → Calls Tryz.prog 14 #[rv id ver (.slice a bs.length c)] W fun e W' => ∃ g, e = .returned (rv id ver (.slice (some ⟨g, 0, none⟩) bs.length bs.length)) ∧ ST w19 W' bs ys o (some (.slice (some ⟨g, 0, none⟩) bs.length bs.length)) k2 from fun W o k1 k2 hW => (to_region id ver _ bs W ((HVA.out.below hs19).below hW.1) HS.out).mono (by
    rintro e W' ⟨⟨g, ps, rfl, hO, hps⟩, hb⟩
    have hx := hO.brs
    rw [hps] at hx
    have h := hW.down hb
    exact ⟨g, rfl, h.1, h.2.1, fun u e => by cases e; exact ⟨hx, Nat.le_refl _⟩, h.2.2.2⟩))
  have HT2 := hide (show ∀ W o k1 k2, ST w19 W bs ys o k1 k2 → Calls Tryz.prog 30 #[wv wver (.slice a2 ys.length c2)] W fun e W' => ∃ g, e = .returned (wv wver (.slice (some ⟨g, 0, none⟩) ys.length ys.length)) ∧ ST w19 W' bs ys o k1 (some (.slice (some ⟨g, 0, none⟩) ys.length ys.length)) from fun W o k1 k2 hW => (to_word wver _ ys W ((HUA.out.below hs19).below hW.1) HS2.out).mono (by
    rintro e W' ⟨⟨g, ps, rfl, hO, hps⟩, hb⟩
    have hx := hO.brs
    rw [hps] at hx
    have h := hW.down hb
    exact ⟨g, rfl, h.1, h.2.1, h.2.2.1, fun u e => by cases e; exact ⟨hx, Nat.le_refl _⟩⟩))
  have HFN := hide (show ∀ W o u1 u2, ST w19 W bs ys o (some u1) (some u2) → Calls Tryz.prog 31 #[rv id ver u1, wv wver u2] W fun e W' => ∃ a c, e = .returned (.tuple #[rv i1 x1 (.slice a l.length c), .bool ok]) ∧ SV w19 W' o (.slice a l.length c) l from fun W o u1 u2 hW => (CI.out u1 u2 W (hW.2.2.1 u1 rfl).1 (hW.2.2.2 u2 rfl).1 ((HK.out.below hb19).below hW.1)).mono (by
    rintro e W' ⟨⟨v, ps, rfl, hO, hps⟩, hb⟩
    have hpl : ps.length = l.length := by rw [← hps, bsP_len]
    obtain ⟨a, c, rfl⟩ := hO.form
    have h := hW.down hb
    rw [hpl] at hO ⊢
    exact ⟨a, c, rfl, h.1, h.2.1, ps, hO.mono hW.1.size, hps⟩))
  go_cut [15, 16] from 94 (fun p bb wx => ∃ (g : Nat) (a3 : Option Addr) (c3 : Nat), p = .pointer (some ⟨g, 0, none⟩) ∧ bb = .bool ok ∧ Hid (LX w19 wx g i1 x1 (.slice a3 l.length c3) l))
  case first =>
    go_region_held3 (fun W => W.cell? ⟨w.heap.size, 0, none⟩ = some (.int .i64 id) ∧ W.cell? ⟨w.heap.size, 1, none⟩ = some (.int .i64 ver) ∧ W.cell? ⟨w.heap.size, 2, none⟩ = some (.slice a bs.length c) ∧ W.cell? ⟨w.heap.size + 1, 0, none⟩ = some (.int .i64 wver) ∧ W.cell? ⟨w.heap.size + 1, 1, none⟩ = some (.slice a2 ys.length c2)) (first
      | exact HS0.out _ (by with_reducible assumption)
      | exact HS0.out _ (ST.down (by with_reducible assumption) (Below.refl _ _)).1
      | exact HS0.out _ (ST.alloc (by with_reducible assumption)).1
      | exact HS0.out _ (ST.alloc1 (by with_reducible assumption)).1
      | exact HS0.out _ (show SV _ _ _ _ _ from (by with_reducible assumption)).1
      | exact HS0.out _ (SV.set _ _ (by with_reducible assumption)).1
      | exact HS0.out _ (SV.fresh _ _ (by with_reducible assumption)).1
      | exact HS0.out _ ((show SV _ _ _ _ _ from (by with_reducible assumption)).1.alloc (show SV _ _ _ _ _ from (by with_reducible assumption)).1.size _)) (first
      | (go_at_call 14; with_reducible refine Calls.mono (HT1.out _ _ _ _ (by first | assumption | exact ST.alloc1 (by assumption) | exact ST.alloc (by assumption))) ?_; rintro e wo ⟨go, rfl, hSo⟩)
      | (go_at_call 30; with_reducible refine Calls.mono (HT2.out _ _ _ _ (by first | assumption | exact ST.alloc1 (by assumption) | exact ST.alloc (by assumption))) ?_; rintro e wt ⟨gt, rfl, hSt⟩)
      | (go_at_call 31; with_reducible refine Calls.mono (HFN.out _ _ _ _ (by first | assumption | exact ST.alloc1 (by assumption) | exact ST.alloc (by assumption))) ?_; rintro e wf ⟨af, cf', rfl, hSf⟩; first | (obtain ⟨⟨k0, k1, k2⟩, k3, k4, k5⟩ := hSf.cells) | skip))
    all_goals
      go_wp2_with fail
      go_meet
      first
        | exact ⟨_, af, cf', rfl, rfl, hide (hSf.set _ _)⟩
        | exact ⟨_, af, cf', rfl, rfl, hide (hSf.fresh _ _)⟩
  case rest =>
  rename World => w23
  obtain ⟨gH, a22, c22, rfl, rfl, HLY⟩ := hcut
  have hs23 := hs19.trans (HLY.out.1.mono hs19.size)
  have HO23 := hide (HO19.out.down HLY.out.1)
  have HG23 := hide (HG19.out.down HLY.out.1)
  have HXH := hide HLY.out.brs
  obtain ⟨⟨p0, p1, p2⟩, -⟩ := HLY.out.2.1.tri
  obtain ⟨⟨q0, q1, q2⟩, -⟩ := (HWA.out.down hs23).tri
  clear hF1 hF0 HS0 HT1 HT2 HFN HLY hs19 hb19 HO19 HG19
  go_wp2_with fail
  clear p0 p1 p2 q0 q1 q2
  refine (eq_region i1 x1 _ _ l _ HXH.out (HXA.out.below hs23) HFL.out).mono ?_
  rintro e w24 ⟨rfl, hb⟩
  have hs24 := hs23.trans (hb.mono hs23.size)
  have HO24 := hide (HO23.out.down hb)
  have HG24 := hide (HG23.out.down hb)
  clear hb hs23 HO23 HG23 HXH
  obtain ⟨⟨p0, p1, p2⟩, -⟩ := HG24.out.tri
  go_wp2_with fail
  refine (held_region i1 x1 w9.heap.size 1 _ ps10 _ HO24.out (by have := HPL.out; have := HGL.out.1; omega) (fun q hq => by have := HLE.out q hq; omega) (Nat.le_refl _) (by have := HEG.out; omega)).mono ?_
  rw [HMM.out]
  rintro e w25 ⟨rfl, hb⟩
  have hs25 := hs24.trans (hb.mono hs24.size)
  have hbz := hbA.trans (hs25.mono hbA.size)
  clear hb hs24 HO24 HG24 HV HF HU HK HS HS2 CS CI HGL HFL HXA HWA HNA HVA HUA HPS HPG HPL HLE HEG HMM HWL p0 p1 p2
  go_wp2
  go_ret
  exact ⟨rfl, hbz⟩
end Go.Proofs.YtfkeokglifpkoaaGreatDoor

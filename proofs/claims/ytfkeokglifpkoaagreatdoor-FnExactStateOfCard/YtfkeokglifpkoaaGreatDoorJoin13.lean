/-
  Texts that follow one another, joined: StF, StH.
-/
import Derived.Test.YtfkeokglifpkoaaGreatDoorJoin10
import Derived.Test.YtfkeokglifpkoaaGreatDoorJoin12
import Derived.Lib.AppendZeros
import Derived.Maps.AppendAt
/-
  Copies of names and of states in both texts, in memory of their own; where a text stands; a timer that is turned, in the specification's text.
-/
namespace Go.Proofs.YtfkeokglifpkoaaGreatDoor
open Go.RowKit M
open Clk (upd upd_same upd_other)
open Go.Sort (grow)
namespace M
theorem OwnT.alloc {w : World} {B : Nat} {v : Value} {l : Txs} (h : OwnT w B v l) (o : Obj) : OwnT (w.alloc o) B v l := h.down ((Below.refl _ w).alloc (Nat.le_refl _) o)
theorem OwnT.lit0 (w : World) : OwnT (w.alloc (.cells #[] 9)) w.heap.size (.slice (some ⟨w.heap.size, 0, none⟩) 0 0) [] :=
  World.ownsRow_lit (base := w.heap.size) (e := 9) (size := 1) w #[] 0 (Nat.le_refl _) (Nat.zero_le _) rfl
theorem lit_txc {w : World} {vb : Nat} {x : ByteArray} (h : w.heap[vb]? = some (.cells #[.string x] 9 (0, 0))) : TxC w (.slice (some ⟨vb, 0, none⟩) 1 1) [x] := by
  have hlt : vb < w.heap.size := by
    rcases Nat.lt_or_ge vb w.heap.size with h' | h'
    · exact h'
    · rw [Array.getElem?_eq_none h'] at h; cases h
  refine ⟨⟨_, _, rfl, fun _ => ⟨vb, 0, rfl, hlt, fun i y hi => ?_⟩⟩, _, _, rfl, Nat.le_refl _, fun e => by cases e⟩
  match i, hi with
  | 0, hi => simp at hi; subst hi; simp [World.cell?, h]
/-- Texts appended to a row of the call's own. -/
theorem wpList_app (w : World) {ops : Array Oper} {rest : List Oper} {o : Oper} {a : Act} {Q : Exit → Act → World → Prop} (hgd : o.guard = none) (s x : Operand)
    (ho : o.op = .call { callee := .builtin .append, args := #[s, x], argTypes := #[58, 58] }) (B : Nat) (l0 l : Txs) (v u : Value) (hs : a.eval s = v) (hown : OwnT w B v l0)
    (hx : a.eval x = u) (hu : TxC w u l) (hl : l0.length + l.length ≤ 2097152) (hbase : B ≤ w.heap.size)
    (h : ∀ a' n' c' w', OwnT w' B (.slice a' n' c') (l0 ++ l) → w.grownBy w' v.ownBlock → ((Value.slice a' n' c').ownBlock = v.ownBlock ∨ (Value.slice a' n' c').ownBlock = some w.heap.size) → wpList Tryz.prog ops Q rest (a.put o.dst (.slice a' n' c')) w') : wpList Tryz.prog ops Q (o :: rest) a w := by
  obtain ⟨i0, hi, hz0, hz1, hz2⟩ := info_parts info_str
  obtain ⟨au, cu, rfl, -, hrow⟩ := hu.parts
  cases au with
  | none =>
    obtain ⟨h1, rfl, rfl⟩ := hu.nil0
    have hr := run_append_owned_none (P := Tryz.prog) (w := w) B 58 o.type 9 i0 1 Tryz.underlying58 hi _ _ _ hown
    obtain ⟨a', c', rfl⟩ := hown.form
    exact Lib.wpList_append_run (P := Tryz.prog) w hgd s x 58 58 ho _ _ hs hx _ _ hr (h _ _ _ w (by rw [List.append_nil]; exact hown) (gbT_refl w _) (.inl rfl))
  | some ad =>
    obtain ⟨v', w', hr, hown', hgr, -, hblk⟩ := run_append_own_at (P := Tryz.prog) (w := w) B 58 o.type 9 i0 _ 1 16 Tryz.underlying58 hi hz0 hz1 hz2 rfl (by decide) v _ _ hown ad l.length cu (sv l) (by rw [sv_len]; omega) (fun j v hj => by
      obtain ⟨y, hy, rfl⟩ := sv_get hj
      obtain ⟨b, off, ha, _, hc⟩ := hrow (by have := lt_of_get hy; omega)
      simp only [Option.some.injEq] at ha
      subst ha
      have : (⟨b, off, none⟩ : Addr).add j = ⟨b, off + j, none⟩ := by unfold Addr.add; split <;> simp_all
      rw [this]; exact hc j y hy) (sv_one l) (by unfold maxLen; omega) (by omega) hbase
    have hO : OwnT w' B v' (l0 ++ l) := by
      unfold OwnT
      rw [List.length_append, sv_app]; exact hown'
    obtain ⟨a', c', rfl⟩ := hO.form
    exact Lib.wpList_append_run (P := Tryz.prog) w hgd s x 58 58 ho _ _ hs hx _ _ hr (h _ _ _ w' hO hgr hblk)
end M
theorem clone_s (s : ByteArray) (w : World) (hlim : s.size ≤ 281474976710656) :
    Calls Tryz.prog 137 #[.string s] w fun e w' => e = .returned (.string s) ∧ Below w.heap.size w w' := by
  go_enter Tryz.func137, Tryz.ntmps137
  go_wp2_with (go_at_call 169; refine (Tryz.stringslite_Clone _ _ hlim).mono ?_; rintro e w1 ⟨rfl, hb1⟩)
  go_ret
  exact ⟨rfl, hb1⟩
set_option maxHeartbeats 2000000 in
theorem copy_names (v : Value) (l : Txs) (w : World) (hv : TxsOf w v l) (hn : l.length ≤ 1048576) (hnm : ∀ x ∈ l, x.size ≤ 12) :
    Calls Tryz.prog 195 #[v] w fun e w' => (∃ a n c, e = .returned (.slice a n c) ∧ OwnT w' w.heap.size (.slice a n c) l) ∧ Below w.heap.size w w' := by
  obtain ⟨a, cap, rfl, hr⟩ := hv
  have HR := hide hr
  have HN := hide hnm
  clear hr hnm
  go_enter Tryz.func195, Tryz.ntmps195
  go_wp2
  go_loopw [3, 8] (fun o i wr => ∃ (k n c : Nat) (ao : Option Addr), k ≤ l.length ∧ i = .int .i64 k ∧ o = .slice ao n c ∧ Hid (OwnT wr w.heap.size (.slice ao n c) (l.take k)) ∧ Below w.heap.size w wr) (fun _ i _ => l.length - (intOf i).toNat)
  case atStart => exact ⟨0, 0, 0, none, Nat.zero_le _, rfl, rfl, hide (OwnT.nil _ _), Below.refl _ _⟩
  case round =>
    obtain ⟨k, n, c, ao, hk, rfl, rfl, HO, hbw⟩ := hrel
    by_cases hlt : k < l.length
    · obtain ⟨b, off, rfl, hb, hrow⟩ := HR.out (by omega)
      obtain ⟨x, hx⟩ : ∃ x, l[k]? = some x := ⟨l[k], List.getElem?_eq_getElem hlt⟩
      have c0 := (hbw.cell (p := ⟨b, off + k, none⟩) hb).trans (hrow k x hx)
      have hxs : x.size ≤ 281474976710656 := by have := HN.out x (List.mem_of_getElem? hx); omega
      have HX := hide hx
      clear hrow hx HR HN
      go_wp2_with fail
      refine (clone_s x _ hxs).mono ?_
      rintro e w2 ⟨rfl, hb2⟩
      have hbw2 := hbw.trans (hb2.mono hbw.size)
      have hown := (HO.out.down hb2).alloc (.cells #[.string x] 9)
      have hlit := lit_txc (w := w2.alloc (.cells #[.string x] 9)) (heap_alloc_new w2 (.cells #[.string x] 9))
      clear hb2 HO c0
      go_wp2_with (at_builtin; refine wpList_app _ rfl _ _ rfl w.heap.size (l.take k) [x] _ _ rfl hown rfl hlit (by rw [List.length_take]; simp; omega) (by have := hbw2.size; simp; omega) ?_)
      intro a4 n4 c4 w4 hO4 hgr _
      have hbw4 : Below w.heap.size w w4 := (hbw2.alloc hbw2.size _).grown hgr (by have := hbw2.size; simp; omega) (fun j hj => (hown.lt hj).1)
      have HO4 := hide (show OwnT w4 w.heap.size (.slice a4 n4 c4) (l.take (k + 1)) from by rw [take_snoc' HX.out]; exact hO4)
      clear hO4 hgr hown hlit hbw2
      go_wp2
      go_roundw
      case rel => exact ⟨k + 1, n4, c4, a4, by omega, by go_num, rfl, HO4, hbw4⟩
      case measure => simp [intOf]; omega
    · have HB := hide (show OwnT wr w.heap.size (.slice ao n c) l from by have := HO.out; rwa [List.take_of_length_le (by omega)] at this)
      clear HO HR HN
      go_wp2
      go_ret
      exact ⟨⟨_, _, _, rfl, HB.out⟩, hbw⟩
namespace M
/-- While a state is copied in its own box: that box, and that of the answer. -/
structure CB (w W : World) (s : St) (x4 x5 : Value) : Prop where
  low : Below w.heap.size w W
  arg : Blk W w.heap.size 6 (sq x4 x5 s) 60
  res : Blk W (w.heap.size + 1) 6 (q6 (.int .i64 0) (.int .i64 0) (.bool false) (.int .i64 0) (.slice none 0 0) (.slice none 0 0)) 60
  big : w.heap.size + 2 ≤ W.heap.size
theorem CB.new (w : World) (s : St) (x4 x5 : Value) : CB w ((w.alloc (.cells (sarr x4 x5 s) 60)).alloc (.cells #[.int .i64 0, .int .i64 0, .bool false, .int .i64 0, .slice none 0 0, .slice none 0 0] 60)) s x4 x5 := by
  refine ⟨((Below.refl _ w).alloc (Nat.le_refl _) _).alloc (by simp) _, (new6 w _ _ _ _ _ _ 60).alloc _, ?_, by simp⟩
  have := new6 (w.alloc (.cells (sarr x4 x5 s) 60)) (.int .i64 0) (.int .i64 0) (.bool false) (.int .i64 0) (.slice none 0 0) (.slice none 0 0) 60
  rw [World.size_alloc] at this; exact this
theorem CB.down {w W W' : World} {s : St} {x4 x5 : Value} (h : CB w W s x4 x5) (hb : Below W.heap.size W W') : CB w W' s x4 x5 :=
  ⟨h.low.trans (hb.mono h.low.size), h.arg.down hb, h.res.down hb, Nat.le_trans h.big hb.size⟩
theorem CB.gb {w W W' : World} {s : St} {x4 x5 : Value} {row : Option Nat} (h : CB w W s x4 x5) (hg : W.grownBy W' row) (hr : ∀ g, row = some g → w.heap.size + 2 ≤ g) : CB w W' s x4 x5 :=
  ⟨h.low.trans (gbT_low hg (fun g e => by have := hr g e; omega) h.low.size), h.arg.gb hg (fun e => by have := hr _ e.symm; omega), h.res.gb hg (fun e => by have := hr _ e.symm; omega), Nat.le_trans h.big hg.size⟩
theorem CB.set4 {w W : World} {s : St} {x4 x5 : Value} (h : CB w W s x4 x5) (u : Value) : CB w (W.setCell ⟨w.heap.size, 4, none⟩ u) s u x5 :=
  ⟨h.low.setCell (p := ⟨w.heap.size, 4, none⟩) (Nat.le_refl _) u, h.arg.hex4 u, h.res.set_other (by omega) _ _, by rw [World.size_setCell]; exact h.big⟩
theorem CB.set5 {w W : World} {s : St} {x4 x5 : Value} (h : CB w W s x4 x5) (u : Value) : CB w (W.setCell ⟨w.heap.size, 5, none⟩ u) s x4 u :=
  ⟨h.low.setCell (p := ⟨w.heap.size, 5, none⟩) (Nat.le_refl _) u, h.arg.hex5 u, h.res.set_other (by omega) _ _, by rw [World.size_setCell]; exact h.big⟩
/-- The end of a copy: the answer's box is filled. -/
theorem CB.fin {w W : World} {s : St} {x4 x5 : Value} (h : CB w W s x4 x5) {B2 : Nat} (h4 : OwnT W (w.heap.size + 2) x4 s.sg) (h5 : OwnT W B2 x5 s.tm) (hlt : ∀ g, x4.ownBlock = some g → g < B2) (hB2 : w.heap.size + 2 ≤ B2) :
    ∀ WZ, (((((W.setCell ⟨w.heap.size + 1, 0, none⟩ (.int .i64 s.st)).setCell ⟨w.heap.size + 1, 1, none⟩ (.int .i64 s.nx)).setCell ⟨w.heap.size + 1, 2, none⟩ (.bool s.ca)).setCell ⟨w.heap.size + 1, 3, none⟩ (.int .i64 s.dn)).setCell ⟨w.heap.size + 1, 4, none⟩ x4).setCell ⟨w.heap.size + 1, 5, none⟩ x5 = WZ →
    Blk WZ (w.heap.size + 1) 6 (sq x4 x5 s) 60 ∧ Below w.heap.size w WZ ∧ AnsL WZ w.heap.size WZ.heap.size x4 x5 s.sg s.tm := by
  intro WZ hWZ
  obtain ⟨k1, k2, k3⟩ := put6 h.res h.low (by omega) _ _ _ _ _ _ WZ hWZ
  refine ⟨k1, k2, AnsL.of ((h4.other k3 (fun g hg e => ?_)).mono (by omega)) ((h5.other k3 (fun g hg e => ?_)).mono (by omega)) (fun g hg e => ?_)⟩
  · have := (h4.lt hg).1
    simp only [Option.some.injEq] at e; omega
  · have := (h5.lt hg).1
    simp only [Option.some.injEq] at e; omega
  · have h1 := hlt g hg
    have h2 := (h5.lt e).1
    omega
end M
set_option maxRecDepth 20000 in
set_option maxHeartbeats 2000000 in
theorem copy_state (v0 v1 : Value) (s : St) (w : World) (hv : StQ w v0 v1 s) (hs : ShortT s) (hn : (∀ x ∈ s.sg, x.size ≤ 12) ∧ ∀ x ∈ s.tm, x.size ≤ 12) :
    Calls Tryz.prog 165 #[stv v0 v1 s] w fun e w' => (∃ u0 u1, e = .returned (stv u0 u1 s) ∧ AnsL w' w.heap.size w'.heap.size u0 u1 s.sg s.tm) ∧ Below w.heap.size w w' := by
  have HY := hide hv
  have HS := hide hs
  have HN := hide hn
  obtain ⟨a0, c0, rfl⟩ := hv.1.form
  obtain ⟨a1, c1, rfl⟩ := hv.2.form
  clear hv hs hn
  obtain ⟨W, hW⟩ : ∃ W, (w.alloc (.cells (sarr (.slice a0 s.sg.length c0) (.slice a1 s.tm.length c1) s) 60)).alloc (.cells #[.int .i64 0, .int .i64 0, .bool false, .int .i64 0, .slice none 0 0, .slice none 0 0] 60) = W := ⟨_, rfl⟩
  have HT0 := hide (show CB w W s (.slice a0 s.sg.length c0) (.slice a1 s.tm.length c1) from hW ▸ CB.new w s _ _)
  have HWW := hide hW
  clear hW
  go_enter Tryz.func165, Tryz.ntmps165
  go_wp2_with fail
  rw [HWW.out]
  clear HWW
  refine (copy_names _ s.sg _ (HY.out.1.below HT0.out.low) HS.out.1 HN.out.1).mono ?_
  rintro e w1 ⟨⟨a4, n4, c4, rfl, hk1⟩, hb⟩
  have HT1 := hide (HT0.out.down hb)
  have HO1 := hide hk1
  clear hk1 hb
  obtain ⟨⟨-, -, -, -, f4, f5⟩, -, -, -, -, g4, -⟩ := HT1.out.arg.hex
  obtain ⟨W2, hW2⟩ : ∃ W2, w1.setCell ⟨w.heap.size, 4, none⟩ (.slice a4 n4 c4) = W2 := ⟨_, rfl⟩
  have HT2 := hide (show CB w W2 s (.slice a4 n4 c4) (.slice a1 s.tm.length c1) from by rw [← hW2]; exact HT1.out.set4 _)
  have HO2 := hide (show OwnT W2 W.heap.size (.slice a4 n4 c4) s.sg from by
    rw [← hW2]; exact HO1.out.set_other (by have := HT0.out.big; omega) _ _)
  have HWW2 := hide hW2
  clear hW2
  go_wp2_with fail
  rw [HWW2.out]
  clear HWW2 HT1 HO1 f4 f5 g4
  refine (copy_names _ s.tm _ (HY.out.2.below HT2.out.low) HS.out.2 HN.out.2).mono ?_
  rintro e w3 ⟨⟨a5, n5, c5, rfl, hk3⟩, hb⟩
  have HT3 := hide (HT2.out.down hb)
  have HO3 := hide (HO2.out.down hb)
  have HP3 := hide hk3
  clear hk3 hb
  obtain ⟨⟨f0, f1, f2, f3, f4, f5⟩, g0, g1, g2, g3, g4, g5⟩ := HT3.out.arg.hex
  obtain ⟨⟨e0, e1, e2, e3, e4, e5⟩, h0, h1, h2, h3, h4, h5⟩ := HT3.out.res.hex
  obtain ⟨W4, hW4⟩ : ∃ W4, w3.setCell ⟨w.heap.size, 5, none⟩ (.slice a5 n5 c5) = W4 := ⟨_, rfl⟩
  obtain ⟨WZ, hWZ⟩ : ∃ WZ, (((((W4.setCell ⟨w.heap.size + 1, 0, none⟩ (.int .i64 s.st)).setCell ⟨w.heap.size + 1, 1, none⟩ (.int .i64 s.nx)).setCell ⟨w.heap.size + 1, 2, none⟩ (.bool s.ca)).setCell ⟨w.heap.size + 1, 3, none⟩ (.int .i64 s.dn)).setCell ⟨w.heap.size + 1, 4, none⟩ (.slice a4 n4 c4)).setCell ⟨w.heap.size + 1, 5, none⟩ (.slice a5 n5 c5) = WZ := ⟨_, rfl⟩
  have HZ := hide (show Blk WZ (w.heap.size + 1) 6 (sq (.slice a4 n4 c4) (.slice a5 n5 c5) s) 60 ∧ Below w.heap.size w WZ ∧ AnsL WZ w.heap.size WZ.heap.size (.slice a4 n4 c4) (.slice a5 n5 c5) s.sg s.tm from by
    have h1 := HT0.out.big
    have h2 := HT2.out.big
    refine CB.fin (W := W4) (B2 := W2.heap.size) (by rw [← hW4]; exact HT3.out.set5 _) ?_ ?_ (fun g hg => (HO2.out.lt hg).2) h2 WZ hWZ
    · rw [← hW4]; exact (HO3.out.mono h1).set_other (by omega) _ _
    · rw [← hW4]; exact HP3.out.set_other (by omega) _ _)
  rw [← hW4] at hWZ
  have HWZ := hide hWZ
  clear hWZ hW4 HT2 HT3 HO3 HP3 HO2 HT0
  go_wp2
  rw [HWZ.out]
  clear e0 e1 e2 e3 e4 e5 f0 f1 f2 f3 f4 f5 g0 g1 g2 g3 g4 g5 h0 h1 h2 h3 h4 h5
  obtain ⟨⟨e0, e1, e2, e3, e4, e5⟩, -⟩ := HZ.out.1.hex
  exact bodyPost_ret (v := stv (.slice a4 n4 c4) (.slice a5 n5 c5) s) (by simp [results, Tryz.results165, go_sem, e0, e1, e2, e3, e4, e5]) rfl ⟨⟨_, _, rfl, HZ.out.2.2⟩, HZ.out.2.1⟩
set_option maxRecDepth 20000 in
set_option maxHeartbeats 4000000 in
theorem own_state (v0 v1 : Value) (s : St) (w : World) (hv : StC w v0 v1 s) (hs : ShortT s) :
    Calls Tryz.prog 75 #[stv v0 v1 s] w fun e w' => (∃ u0 u1, e = .returned (stv u0 u1 s) ∧ AnsL w' w.heap.size w'.heap.size u0 u1 s.sg s.tm) ∧ Below w.heap.size w w' := by
  have HY := hide hv
  have HS := hide hs
  obtain ⟨a0, c0, rfl⟩ := hv.1.1.form
  obtain ⟨a1, c1, rfl⟩ := hv.2.1.form
  clear hv hs
  obtain ⟨W, hW⟩ : ∃ W, (w.alloc (.cells (sarr (.slice a0 s.sg.length c0) (.slice a1 s.tm.length c1) s) 60)).alloc (.cells #[.int .i64 0, .int .i64 0, .bool false, .int .i64 0, .slice none 0 0, .slice none 0 0] 60) = W := ⟨_, rfl⟩
  have HT0 := hide (show CB w W s (.slice a0 s.sg.length c0) (.slice a1 s.tm.length c1) from hW ▸ CB.new w s _ _)
  have hsz : W.heap.size = w.heap.size + 2 := by rw [← hW]; simp
  have hTx := HT0.out.down ((Below.refl W.heap.size W).alloc (Nat.le_refl _) (.cells #[] 9))
  have hY0 := HY.out.below hTx.low
  have hown := OwnT.lit0 W
  rw [hsz] at hown
  rw [← hW] at hTx hY0 hown
  clear hW
  go_enter Tryz.func75, Tryz.ntmps75
  go_wp2_with (at_builtin; refine wpList_app _ rfl _ _ rfl (w.heap.size + 2) [] s.sg _ _ rfl hown rfl hY0.1 (by have := HS.out.1; simp; omega) (by simp) ?_)
  intro a4 n4 c4 w1 hO1 hgr _
  have HT1 := hide (hTx.gb hgr (fun g hg => (hown.lt hg).1))
  have HO1 := hide (show OwnT w1 (w.heap.size + 2) (.slice a4 n4 c4) s.sg from hO1)
  clear hO1 hgr hTx hY0 hown hsz HT0
  obtain ⟨⟨-, -, -, -, f4, f5⟩, -, -, -, -, g4, -⟩ := HT1.out.arg.hex
  obtain ⟨W2, hW2⟩ : ∃ W2, w1.setCell ⟨w.heap.size, 4, none⟩ (.slice a4 n4 c4) = W2 := ⟨_, rfl⟩
  have HT2 := hide (show CB w W2 s (.slice a4 n4 c4) (.slice a1 s.tm.length c1) from by rw [← hW2]; exact HT1.out.set4 _)
  have HO2 := hide (show OwnT W2 (w.heap.size + 2) (.slice a4 n4 c4) s.sg from by
    rw [← hW2]; exact HO1.out.set_other (by omega) _ _)
  have hdn := (Below.refl W2.heap.size W2).alloc (Nat.le_refl _) (.cells #[] 9)
  have HT3 := hide (HT2.out.down hdn)
  have hY2 := HY.out.below HT3.out.low
  have HO3 := hide (HO2.out.down hdn)
  have hown := OwnT.lit0 W2
  have hW2s : W2.heap.size = w1.heap.size := by rw [← hW2]; simp
  rw [hW2s] at hown
  have HOW := hide hown
  have HBW := hide (show ∀ g, (Value.slice a4 n4 c4).ownBlock = some g → w.heap.size + 2 ≤ g ∧ g < w1.heap.size from fun g hg => by rw [← hW2s]; exact HO2.out.lt hg)
  rw [← hW2] at hY2 hown
  have h3b : w.heap.size + 2 ≤ w1.heap.size := by have := HT2.out.big; omega
  have h3c : w.heap.size < w1.heap.size := by omega
  have HWW2 := hide hW2
  clear hW2 hdn hW2s
  go_wp2_with (at_builtin; refine wpList_app _ rfl _ _ rfl w1.heap.size [] s.tm _ _ rfl hown rfl hY2.2 (by have := HS.out.2; simp; omega) (by simp) ?_)
  intro a5 n5 c5 w3 hP3 hgr _
  rw [HWW2.out] at hgr
  have HT4 := hide (HT3.out.gb hgr (fun g hg => Nat.le_trans h3b (HOW.out.lt hg).1))
  have HO4 := hide (show OwnT w3 (w.heap.size + 2) (.slice a4 n4 c4) s.sg from HO3.out.other hgr (fun g hg e => by
    have h1 := (HBW.out g hg).2
    have h2 := (HOW.out.lt e.symm).1
    omega))
  have HP4 := hide (show OwnT w3 w1.heap.size (.slice a5 n5 c5) s.tm from hP3)
  clear hP3 hgr hY2 hown HWW2 HT3 HO3 HT2 HO2 HT1 HO1 f4 f5 g4 HOW
  obtain ⟨⟨f0, f1, f2, f3, f4, f5⟩, g0, g1, g2, g3, g4, g5⟩ := HT4.out.arg.hex
  obtain ⟨⟨e0, e1, e2, e3, e4, e5⟩, h0, h1, h2, h3, h4, h5⟩ := HT4.out.res.hex
  obtain ⟨W4, hW4⟩ : ∃ W4, w3.setCell ⟨w.heap.size, 5, none⟩ (.slice a5 n5 c5) = W4 := ⟨_, rfl⟩
  obtain ⟨WZ, hWZ⟩ : ∃ WZ, (((((W4.setCell ⟨w.heap.size + 1, 0, none⟩ (.int .i64 s.st)).setCell ⟨w.heap.size + 1, 1, none⟩ (.int .i64 s.nx)).setCell ⟨w.heap.size + 1, 2, none⟩ (.bool s.ca)).setCell ⟨w.heap.size + 1, 3, none⟩ (.int .i64 s.dn)).setCell ⟨w.heap.size + 1, 4, none⟩ (.slice a4 n4 c4)).setCell ⟨w.heap.size + 1, 5, none⟩ (.slice a5 n5 c5) = WZ := ⟨_, rfl⟩
  have HZ := hide (show Blk WZ (w.heap.size + 1) 6 (sq (.slice a4 n4 c4) (.slice a5 n5 c5) s) 60 ∧ Below w.heap.size w WZ ∧ AnsL WZ w.heap.size WZ.heap.size (.slice a4 n4 c4) (.slice a5 n5 c5) s.sg s.tm from by
    refine CB.fin (W := W4) (B2 := w1.heap.size) (by rw [← hW4]; exact HT4.out.set5 _) ?_ ?_ (fun g hg => (HBW.out g hg).2) h3b WZ hWZ
    · rw [← hW4]; exact HO4.out.set_other (by omega) _ _
    · rw [← hW4]; exact HP4.out.set_other (by omega) _ _)
  rw [← hW4] at hWZ
  have HWZ := hide hWZ
  clear hWZ hW4 HT4 HO4 HP4 HBW h3b
  go_wp2
  rw [HWZ.out]
  clear e0 e1 e2 e3 e4 e5 f0 f1 f2 f3 f4 f5 g0 g1 g2 g3 g4 g5 h0 h1 h2 h3 h4 h5
  obtain ⟨⟨e0, e1, e2, e3, e4, e5⟩, -⟩ := HZ.out.1.hex
  exact bodyPost_ret (v := stv (.slice a4 n4 c4) (.slice a5 n5 c5) s) (by simp [results, Tryz.results75, go_sem, e0, e1, e2, e3, e4, e5]) rfl ⟨⟨_, _, rfl, HZ.out.2.2⟩, HZ.out.2.1⟩
end Go.Proofs.YtfkeokglifpkoaaGreatDoor

/-
  Where a text stands, and a timer that is turned, in the specification's text.
-/
namespace Go.Proofs.YtfkeokglifpkoaaGreatDoor
open Go.RowKit M
open Clk (upd upd_same upd_other)
open Go.Sort (grow)
set_option maxHeartbeats 1000000 in
theorem at_txs (v : Value) (l : Txs) (x : ByteArray) (w : World) (hv : TxsOf w v l) (hn : l.length ≤ 1048576) :
    Calls Tryz.prog 100 #[v, .string x] w fun e w' => (∃ r : Int, e = .returned (.int .i64 r) ∧ (0 ≤ r ↔ x ∈ l)) ∧ w' = w := by
  obtain ⟨a, cap, rfl, hr⟩ := hv
  have HR := hide hr
  clear hr
  go_enter Tryz.func100, Tryz.ntmps100
  go_wp2
  go_loop [9] (fun i => ∃ k : Nat, k ≤ l.length ∧ i = .int .i64 k ∧ Hid (x ∉ l.take k)) (fun i => l.length - (intOf i).toNat)
  case atStart => exact ⟨0, Nat.zero_le _, rfl, hide (by simp)⟩
  case round =>
    obtain ⟨k, hk, rfl, HX⟩ := hrel
    by_cases hlt : k < l.length
    · obtain ⟨b, off, rfl, hb, hrow⟩ := HR.out (by omega)
      obtain ⟨y, hy⟩ : ∃ y, l[k]? = some y := ⟨l[k], List.getElem?_eq_getElem hlt⟩
      have c0 := hrow k y hy
      have HY := hide hy
      clear hrow hy HR
      by_cases hxy : y = x
      · have hd : (y.toList == x.toList) = true := by rw [eqS]; exact decide_eq_true hxy
        have HM := hide (show x ∈ l from by rw [← hxy]; exact List.mem_of_getElem? HY.out)
        clear hxy
        go_wp2
        go_ret
        exact ⟨⟨_, rfl, fun _ => HM.out, fun _ => by omega⟩, rfl⟩
      · have hd : (y.toList == x.toList) = false := by rw [eqS]; exact decide_eq_false hxy
        have HX2 := hide (show x ∉ l.take (k + 1) from by
          rw [take_snoc' HY.out]; simp only [List.mem_append, List.mem_singleton, not_or]; exact ⟨HX.out, fun e => hxy e.symm⟩)
        clear hxy
        go_wp2
        go_round
        case rel => exact ⟨k + 1, by omega, by go_num, HX2⟩
        case measure => simp [intOf]; omega
    · have HN := hide (show x ∉ l from by have := HX.out; rwa [List.take_of_length_le (by omega)] at this)
      clear HR HX
      go_wp2
      go_ret
      exact ⟨⟨_, rfl, fun h => by omega, fun h => absurd h HN.out⟩, rfl⟩
set_option maxHeartbeats 4000000 in
theorem turn_txs (v : Value) (l : Txs) (x : ByteArray) (w : World) (hv : TxsOf w v l) (hn : l.length ≤ 1048576) (hr : Rise l) :
    Calls Tryz.prog 148 #[v, .string x] w fun e w' => (∃ a n c, e = .returned (.slice a n c) ∧ OwnT w' w.heap.size (.slice a n c) (tog l x)) ∧ Below w.heap.size w w' := by
  have HV := hide hv
  obtain ⟨a, cap, rfl, hrw⟩ := hv
  have HR := hide hrw
  have HI := hide hr
  clear hrw hr
  go_enter Tryz.func148, Tryz.ntmps148
  go_wp2_with fail
  refine (at_txs _ l x _ HV.out hn).mono ?_
  rintro e w0 ⟨⟨r, rfl, hrr⟩, hw0⟩
  subst w0
  obtain ⟨b0, hb0⟩ : ∃ b0, fnd l x = b0 := ⟨_, rfl⟩
  have HB0 := hide hb0
  have hge : decide (0 ≤ r) = b0 := by
    rw [← hb0, Bool.eq_iff_iff, decide_eq_true_eq, hrr, fnd_iff HI.out x]
  have hge2 : decide (r ≥ 0) = b0 := hge
  clear hrr hb0 HV
  go_wp2
  go_loopw [5, 6, 15] (fun o p i wr => ∃ (k n c : Nat) (ao : Option Addr) (b : Bool), k ≤ l.length ∧ i = .int .i64 k ∧ o = .slice ao n c ∧ p = .bool b ∧ Hid (b = pu l x k) ∧ Hid (OwnT wr w.heap.size (.slice ao n c) (pt l x k)) ∧ Below w.heap.size w wr) (fun _ _ i _ => l.length - (intOf i).toNat)
  case atStart => exact ⟨0, 0, 0, none, b0, Nat.zero_le _, rfl, rfl, rfl, hide (by rw [pu_zero]; exact HB0.out.symm), hide (by rw [pt_zero]; exact OwnT.nil _ _), Below.refl _ _⟩
  case round =>
    obtain ⟨k, n, c, ao, b, hk, rfl, rfl, rfl, HP, HO, hbw⟩ := hrel
    clear hge hge2 HB0
    by_cases hlt : k < l.length
    · obtain ⟨bb, off, rfl, hbb, hrow⟩ := HR.out (by omega)
      obtain ⟨y, hy⟩ : ∃ y, l[k]? = some y := ⟨l[k], List.getElem?_eq_getElem hlt⟩
      have c0 := (hbw.cell (p := ⟨bb, off + k, none⟩) hbb).trans (hrow k y hy)
      have HY := hide hy
      have hpl : (pt l x k).length + 2 ≤ 2097152 := by have := pt_len l x k; omega
      clear hrow hy HR
      by_cases hyx : y = x
      · have hd : (y.toList == x.toList) = true := by rw [eqS]; exact decide_eq_true hyx
        have HS := hide (show pt l x (k + 1) = pt l x k ∧ pu l x (k + 1) = pu l x k from pt_same HI.out (by rw [← hyx]; exact HY.out))
        clear hyx
        go_wp2
        exact ⟨⟨k + 1, n, c, ao, b, by omega, by go_num, rfl, rfl, hide (by rw [HS.out.2]; exact HP.out), hide (by rw [HS.out.1]; exact HO.out), hbw⟩, by simp [intOf]; omega⟩
      · have hd : (y.toList == x.toList) = false := by rw [eqS]; exact decide_eq_false hyx
        have HYX := hide hyx
        clear hyx
        have hdec : (b = true ∨ ltS x y = false) ∨ (b = false ∧ ltS x y = true) := by cases b <;> cases ltS x y <;> simp
        rcases hdec with hdec | ⟨hb, hg⟩
        · have HS := hide (show pt l x (k + 1) = pt l x k ++ [y] ∧ pu l x (k + 1) = pu l x k from pt_other HY.out HYX.out (by rw [← HP.out]; exact hdec))
          have hown := HO.out.alloc (.cells #[.string y] 9)
          have hlit := lit_txc (w := wr.alloc (.cells #[.string y] 9)) (heap_alloc_new wr (.cells #[.string y] 9))
          have fin : ∀ a4 n4 c4 w4, OwnT w4 w.heap.size (.slice a4 n4 c4) (pt l x k ++ [y]) → (wr.alloc (.cells #[.string y] 9)).grownBy w4 (Value.slice ao n c).ownBlock → OwnT w4 w.heap.size (.slice a4 n4 c4) (pt l x (k + 1)) ∧ Below w.heap.size w w4 := fun a4 n4 c4 w4 hO4 hgr => by
            refine ⟨by rw [HS.out.1]; exact hO4, (hbw.alloc hbw.size _).grown hgr (by have := hbw.size; simp; omega) (fun j hj => (hown.lt hj).1)⟩
          have HFin := hide fin
          clear fin
          cases b with
          | true =>
            clear hdec HO
            go_wp2_with (at_builtin; refine wpList_app _ rfl _ _ rfl w.heap.size (pt l x k) [y] _ _ rfl hown rfl hlit (by simp; omega) (by have := hbw.size; simp; omega) ?_)
            intro a4 n4 c4 w4 hO4 hgr _
            have HF4 := hide (HFin.out _ _ _ _ hO4 hgr)
            clear hO4 hgr hown hlit HFin
            go_wp2
            exact ⟨⟨k + 1, n4, c4, a4, true, by omega, by go_num, rfl, rfl, hide (by rw [HS.out.2]; exact HP.out), hide HF4.out.1, HF4.out.2⟩, by simp [intOf]; omega⟩
          | false =>
            have hg : ltS x y = false := hdec.resolve_left (by simp)
            have hl2 : Op.bytesLess y.toList x.toList = true := gt_of (fun e => HYX.out e.symm) hg
            clear hdec HO hg
            go_wp2_with (at_builtin; refine wpList_app _ rfl _ _ rfl w.heap.size (pt l x k) [y] _ _ rfl hown rfl hlit (by simp; omega) (by have := hbw.size; simp; omega) ?_)
            intro a4 n4 c4 w4 hO4 hgr _
            have HF4 := hide (HFin.out _ _ _ _ hO4 hgr)
            clear hO4 hgr hown hlit HFin
            go_wp2
            exact ⟨⟨k + 1, n4, c4, a4, false, by omega, by go_num, rfl, rfl, hide (by rw [HS.out.2]; exact HP.out), hide HF4.out.1, HF4.out.2⟩, by simp [intOf]; omega⟩
        · subst hb
          have HS := hide (show pt l x (k + 1) = pt l x k ++ [x] ++ [y] ∧ pu l x (k + 1) = true from pt_put HY.out (by rw [← HP.out]) hg)
          have hl2 : Op.bytesLess y.toList x.toList = false := lt_asym hg
          have hown := HO.out.alloc (.cells #[.string x] 9)
          have hlit := lit_txc (w := wr.alloc (.cells #[.string x] 9)) (heap_alloc_new wr (.cells #[.string x] 9))
          clear HO hg
          go_wp2_with (at_builtin; refine wpList_app _ rfl _ _ rfl w.heap.size (pt l x k) [x] _ _ rfl hown rfl hlit (by simp; omega) (by have := hbw.size; simp; omega) ?_)
          intro a4 n4 c4 w4 hO4 hgr _
          have hbw4 : Below w.heap.size w w4 := (hbw.alloc hbw.size _).grown hgr (by have := hbw.size; simp; omega) (fun j hj => (hown.lt hj).1)
          clear hgr hown hlit
          have hown := hO4.alloc (.cells #[.string y] 9)
          have hlit := lit_txc (w := w4.alloc (.cells #[.string y] 9)) (heap_alloc_new w4 (.cells #[.string y] 9))
          clear hO4
          go_wp2_with (at_builtin; refine wpList_app _ rfl _ _ rfl w.heap.size (pt l x k ++ [x]) [y] _ _ rfl hown rfl hlit (by simp; omega) (by have := hbw4.size; simp; omega) ?_)
          intro a5 n5 c5 w5 hO5 hgr _
          have hbw5 : Below w.heap.size w w5 := (hbw4.alloc hbw4.size _).grown hgr (by have := hbw4.size; simp; omega) (fun j hj => (hown.lt hj).1)
          have HO5 := hide (show OwnT w5 w.heap.size (.slice a5 n5 c5) (pt l x (k + 1)) from by rw [HS.out.1]; simpa using hO5)
          clear hgr hown hlit hO5
          go_wp2
          exact ⟨⟨k + 1, n5, c5, a5, true, by omega, by go_num, rfl, rfl, hide HS.out.2.symm, HO5, hbw5⟩, by simp [intOf]; omega⟩
    · obtain rfl : k = l.length := by omega
      clear HR
      cases b with
      | true =>
        have HB := hide (show OwnT wr w.heap.size (.slice ao n c) (tog l x) from by rw [← pt_end_put HP.out.symm]; exact HO.out)
        clear HO HP
        go_wp2
        go_ret
        exact ⟨⟨_, _, _, rfl, HB.out⟩, hbw⟩
      | false =>
        have hown := HO.out.alloc (.cells #[.string x] 9)
        have hlit := lit_txc (w := wr.alloc (.cells #[.string x] 9)) (heap_alloc_new wr (.cells #[.string x] 9))
        have hpl : (pt l x l.length).length + 1 ≤ 2097152 := by have := pt_len l x l.length; omega
        clear HO
        go_wp2_with (at_builtin; refine wpList_app _ rfl _ _ rfl w.heap.size (pt l x l.length) [x] _ _ rfl hown rfl hlit (by simp; omega) (by have := hbw.size; simp; omega) ?_)
        intro a4 n4 c4 w4 hO4 hgr _
        have hbw4 : Below w.heap.size w w4 := (hbw.alloc hbw.size _).grown hgr (by have := hbw.size; simp; omega) (fun j hj => (hown.lt hj).1)
        have HO4 := hide (show OwnT w4 w.heap.size (.slice a4 n4 c4) (tog l x) from by rw [← pt_end_new HP.out.symm]; exact hO4)
        clear hgr hown hlit hO4
        go_wp2
        go_ret
        exact ⟨⟨_, _, _, rfl, HO4.out⟩, hbw4⟩
end Go.Proofs.YtfkeokglifpkoaaGreatDoor

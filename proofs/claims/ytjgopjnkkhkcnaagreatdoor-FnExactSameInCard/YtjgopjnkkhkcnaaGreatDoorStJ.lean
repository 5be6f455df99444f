/-
  A state in a box of the call's own, and a timer that is turned there, in the program's text.
-/
import Derived.Test.YtjgopjnkkhkcnaaGreatDoorStF
namespace Go.Proofs.YtjgopjnkkhkcnaaGreatDoor
open Go.RowKit M
open Clk (upd upd_same upd_other)
open Go.Sort (grow)
namespace M
theorem OwnT.ne_blk {w : World} {B g n : Nat} {v : Value} {l : Txs} {f : Nat → Value} {t : TypeId} (h : OwnT w B v l) (hb : Blk w g n f t) (ht : t ≠ 9) : v.ownBlock ≠ some g := by
  intro e
  rcases h.2 with ⟨rfl, _⟩ | ⟨g1, cap, cur, rfl, _, hg, _⟩
  · cases e
  · simp only [Value.ownBlock, Option.some.injEq] at e
    subst e
    unfold Blk at hb
    rw [hg] at hb
    simp only [Option.some.injEq, Obj.cells.injEq] at hb
    exact ht hb.2.1.symm
/-- A state in a box g, its lists in rows of the call's own, all from block B on. -/
structure SM (w : World) (B g : Nat) (v0 v1 : Value) (s : St) : Prop where
  box : Blk w g 6 (sq v0 v1 s) 154
  o0 : OwnT w B v0 s.sg
  o1 : OwnT w B v1 s.tm
  ap : Apart v0 v1
  lo : B ≤ g
theorem SM.down {w w' : World} {B g : Nat} {v0 v1 : Value} {s : St} (h : SM w B g v0 v1 s) (hb : Below w.heap.size w w') : SM w' B g v0 v1 s := ⟨h.box.down hb, h.o0.down hb, h.o1.down hb, h.ap, h.lo⟩
theorem SM.same {w w' : World} {B g : Nat} {v0 v1 : Value} {s : St} (h : SM w B g v0 v1 s) (hh : w'.heap = w.heap) : SM w' B g v0 v1 s :=
  ⟨by unfold Blk; rw [hh]; exact h.box, ⟨h.o0.1, by rw [hh]; exact h.o0.2⟩, ⟨h.o1.1, by rw [hh]; exact h.o1.2⟩, h.ap, h.lo⟩
theorem SM.c {w : World} {B g : Nat} {v0 v1 : Value} {s : St} (h : SM w B g v0 v1 s) : StC w v0 v1 s := ⟨h.o0.c, h.o1.c⟩
theorem SM.ne0 {w : World} {B g : Nat} {v0 v1 : Value} {s : St} (h : SM w B g v0 v1 s) : v0.ownBlock ≠ some g := h.o0.ne_blk h.box (by decide)
theorem SM.ne1 {w : World} {B g : Nat} {v0 v1 : Value} {s : St} (h : SM w B g v0 v1 s) : v1.ownBlock ≠ some g := h.o1.ne_blk h.box (by decide)
theorem SM.rows {w : World} {B g : Nat} {v0 v1 : Value} {s : St} (h : SM w B g v0 v1 s) (i : Nat) (u : Value) : OwnT (w.setCell ⟨g, i, none⟩ u) B v0 s.sg ∧ OwnT (w.setCell ⟨g, i, none⟩ u) B v1 s.tm :=
  ⟨h.o0.other (gbT_set (gbT_refl w (some g))) (fun g' hg' e => h.ne0 (by rw [hg', e])), h.o1.other (gbT_set (gbT_refl w (some g))) (fun g' hg' e => h.ne1 (by rw [hg', e]))⟩
theorem SM.set0 {w : World} {B g : Nat} {v0 v1 : Value} {s : St} (h : SM w B g v0 v1 s) (x : Int) : SM (w.setCell ⟨g, 0, none⟩ (.int .i64 x)) B g v0 v1 ⟨x, s.nx, s.ca, s.dn, s.sg, s.tm⟩ := ⟨h.box.hex0 _, (h.rows _ _).1, (h.rows _ _).2, h.ap, h.lo⟩
theorem SM.set1 {w : World} {B g : Nat} {v0 v1 : Value} {s : St} (h : SM w B g v0 v1 s) (x : Int) : SM (w.setCell ⟨g, 1, none⟩ (.int .i64 x)) B g v0 v1 ⟨s.st, x, s.ca, s.dn, s.sg, s.tm⟩ := ⟨h.box.hex1 _, (h.rows _ _).1, (h.rows _ _).2, h.ap, h.lo⟩
theorem SM.set2 {w : World} {B g : Nat} {v0 v1 : Value} {s : St} (h : SM w B g v0 v1 s) (x : Bool) : SM (w.setCell ⟨g, 2, none⟩ (.bool x)) B g v0 v1 ⟨s.st, s.nx, x, s.dn, s.sg, s.tm⟩ := ⟨h.box.hex2 _, (h.rows _ _).1, (h.rows _ _).2, h.ap, h.lo⟩
theorem SM.set3 {w : World} {B g : Nat} {v0 v1 : Value} {s : St} (h : SM w B g v0 v1 s) (x : Int) : SM (w.setCell ⟨g, 3, none⟩ (.int .i64 x)) B g v0 v1 ⟨s.st, s.nx, s.ca, x, s.sg, s.tm⟩ := ⟨h.box.hex3 _, (h.rows _ _).1, (h.rows _ _).2, h.ap, h.lo⟩
/-- The signals' row has turned; it is put into the box. -/
theorem SM.put4 {w w' : World} {B g : Nat} {v0 v1 u : Value} {s : St} {l : Txs} (h : SM w B g v0 v1 s) (hg : w.grownBy w' v0.ownBlock) (hu : OwnT w' B u l) (hb : u.ownBlock = v0.ownBlock ∨ ∃ k, u.ownBlock = some k ∧ w.heap.size ≤ k) : SM (w'.setCell ⟨g, 4, none⟩ u) B g u v1 ⟨s.st, s.nx, s.ca, s.dn, l, s.tm⟩ := by
  have hbox := h.box.gb hg (fun e => h.ne0 e.symm)
  have h1 := h.o1.other hg (fun g' hg' e => h.ap g' e.symm hg')
  have hun : u.ownBlock ≠ some g := hu.ne_blk hbox (by decide)
  refine ⟨hbox.hex4 u, hu.other (gbT_set (gbT_refl w' (some g))) (fun g' hg' e => hun (by rw [hg', e])), h1.other (gbT_set (gbT_refl w' (some g))) (fun g' hg' e => h.ne1 (by rw [hg', e])), fun g' hg' e => ?_, h.lo⟩
  rcases hb with hb | ⟨k, hk, hlt⟩
  · exact h.ap g' (by rw [← hb]; exact hg') e
  · rw [hk] at hg'
    simp only [Option.some.injEq] at hg'
    have := (h.o1.lt e).2
    omega
/-- The same of the timers' row. -/
theorem SM.put5 {w w' : World} {B g : Nat} {v0 v1 u : Value} {s : St} {l : Txs} (h : SM w B g v0 v1 s) (hg : w.grownBy w' v1.ownBlock) (hu : OwnT w' B u l) (hb : u.ownBlock = v1.ownBlock ∨ ∃ k, u.ownBlock = some k ∧ w.heap.size ≤ k) : SM (w'.setCell ⟨g, 5, none⟩ u) B g v0 u ⟨s.st, s.nx, s.ca, s.dn, s.sg, l⟩ := by
  have hbox := h.box.gb hg (fun e => h.ne1 e.symm)
  have h0 := h.o0.other hg (fun g' hg' e => h.ap g' hg' e.symm)
  have hun : u.ownBlock ≠ some g := hu.ne_blk hbox (by decide)
  refine ⟨hbox.hex5 u, h0.other (gbT_set (gbT_refl w' (some g))) (fun g' hg' e => h.ne0 (by rw [hg', e])), hu.other (gbT_set (gbT_refl w' (some g))) (fun g' hg' e => hun (by rw [hg', e])), fun g' hg' e => ?_, h.lo⟩
  rcases hb with hb | ⟨k, hk, hlt⟩
  · exact h.ap g' hg' (by rw [← hb]; exact e)
  · rw [hk] at e
    simp only [Option.some.injEq] at e
    have := (h.o0.lt hg').2
    omega
theorem SM.low4 {w w' : World} {B g : Nat} {v0 v1 u : Value} {s : St} (h : SM w B g v0 v1 s) (hg : w.grownBy w' v0.ownBlock) (hB : B ≤ w.heap.size) (i : Nat) : Below B w (w'.setCell ⟨g, i, none⟩ u) :=
  (gbT_low hg (fun _ hk => (h.o0.lt hk).1) hB).setCell (p := ⟨g, i, none⟩) h.lo u
theorem SM.low5 {w w' : World} {B g : Nat} {v0 v1 u : Value} {s : St} (h : SM w B g v0 v1 s) (hg : w.grownBy w' v1.ownBlock) (hB : B ≤ w.heap.size) (i : Nat) : Below B w (w'.setCell ⟨g, i, none⟩ u) :=
  (gbT_low hg (fun _ hk => (h.o1.lt hk).1) hB).setCell (p := ⟨g, i, none⟩) h.lo u
theorem tog_del {l : Txs} {x : ByteArray} (h : fnd l x = true) : tog l x = l.take (ps l x) ++ l.drop (ps l x + 1) := by unfold tog; rw [if_pos h]
theorem tog_ins {l : Txs} {x : ByteArray} (h : fnd l x = false) : tog l x = l.take (ps l x) ++ x :: l.drop (ps l x) := by unfold tog; rw [if_neg (by rw [h]; simp)]
theorem fnd_lt {l : Txs} {x : ByteArray} (h : fnd l x = true) : ps l x < l.length := by unfold fnd at h; simp only [decide_eq_true_eq] at h; exact lt_of_get h
end M
set_option maxRecDepth 20000 in
set_option maxHeartbeats 4000000 in
theorem turn_impl (B g : Nat) (v0 v1 : Value) (s : St) (x : ByteArray) (w : World) (h : SM w B g v0 v1 s) (hr : Rise s.tm) (hn : s.tm.length ≤ 1048576) (hB : B ≤ w.heap.size) :
    Calls Tryz.prog 252 #[.pointer (some ⟨g, 0, none⟩), .string x] w fun e w' => e = .returned (.tuple #[]) ∧ (∃ a n c, SM w' B g v0 (.slice a n c) ⟨s.st, s.nx, s.ca, s.dn, s.sg, tog s.tm x⟩) ∧ Below B w w' := by
  have HM := hide h
  obtain ⟨a1, c1, rfl⟩ := h.o1.form
  have HR := hide hr
  obtain ⟨⟨-, -, -, -, -, d5⟩, -, -, -, -, -, f5⟩ := h.box.hex
  clear h hr
  go_enter Tryz.func252, Tryz.ntmps252
  go_wp2_with fail
  refine (bs_txs _ s.tm x B _ HM.out.o1 HR.out hn).mono ?_
  rintro e w1 ⟨rfl, q, hq⟩
  have HM1 := hide (show SM w1 B g v0 (.slice a1 s.tm.length c1) s from HM.out.same (by rw [hq]; rfl))
  have hb1 : Below B w w1 := by rw [hq]; exact ⟨rfl, rfl, rfl, Nat.le_refl _, fun _ _ => rfl⟩
  have hB1 : B ≤ w1.heap.size := Nat.le_trans hB hb1.size
  clear hq d5 f5 HM hB
  obtain ⟨⟨-, -, -, -, -, d5⟩, -, -, -, -, -, f5⟩ := HM1.out.box.hex
  have hpl := ps_le s.tm x
  cases hf : fnd s.tm x
  · have HT := hide (tog_ins hf)
    obtain ⟨p, hp⟩ : ∃ p, ps s.tm x = p := ⟨_, rfl⟩
    rw [hp] at HT hpl ⊢
    clear hp hf
    go_wp2_with fail
    obtain ⟨W2, hW2⟩ : ∃ W2, w1.alloc (.cells #[.string x] 9) = W2 := ⟨_, rfl⟩
    have hdn : Below w1.heap.size w1 W2 := by rw [← hW2]; exact (Below.refl _ _).alloc (Nat.le_refl _) _
    have hlit : W2.heap[w1.heap.size]? = some (.cells #[.string x] 9 (0, 0)) := by rw [← hW2]; exact heap_alloc_new w1 _
    have HM2 := hide (HM1.out.down hdn)
    have hne : (Value.slice a1 s.tm.length c1).ownBlock ≠ some w1.heap.size := fun e => by have := (HM1.out.o1.lt e).2; omega
    rw [hW2]
    clear d5 f5
    refine (ins_txs _ s.tm p w1.heap.size B x W2 HM2.out.o1 hpl hn (Nat.le_trans hB1 hdn.size) hlit hne).mono ?_
    rintro e w3 ⟨a3, n3, c3, rfl, hO3, hbk, hgr⟩
    have HO3 := hide (show OwnT w3 B (.slice a3 n3 c3) (tog s.tm x) from by rw [HT.out]; exact hO3)
    have HK := hide hbk
    have HG := hide hgr
    have hbox := HM2.out.box.gb hgr (fun e => HM2.out.ne1 e.symm)
    obtain ⟨⟨-, -, -, -, -, d5⟩, -, -, -, -, -, f5⟩ := hbox.hex
    have HF := hide (show SM (w3.setCell ⟨g, 5, none⟩ (.slice a3 n3 c3)) B g v0 (.slice a3 n3 c3) ⟨s.st, s.nx, s.ca, s.dn, s.sg, tog s.tm x⟩ from HM2.out.put5 hgr HO3.out (by
      rcases hbk with hh | hh
      · exact .inl hh
      · exact .inr ⟨_, hh, Nat.le_refl _⟩))
    have HL := hide (show Below B w (w3.setCell ⟨g, 5, none⟩ (.slice a3 n3 c3)) from (hb1.trans (hdn.mono hB1)).trans (HM2.out.low5 hgr (Nat.le_trans hB1 hdn.size) 5))
    clear hO3 hbk hgr hbox HO3 HK HG HM2 hlit hne hdn hW2 HT
    go_wp2
    go_end0
    exact ⟨rfl, ⟨_, _, _, HF.out⟩, HL.out⟩
  · have HT := hide (tog_del hf)
    have hlt := fnd_lt hf
    obtain ⟨p, hp⟩ : ∃ p, ps s.tm x = p := ⟨_, rfl⟩
    rw [hp] at HT hpl hlt ⊢
    clear hp hf
    go_wp2_with fail
    rw [show (p : Int) + 1 = ((p + 1 : Nat) : Int) by omega]
    clear d5 f5
    refine (del_txs _ s.tm p B w1 HM1.out.o1 hlt).mono ?_
    rintro e w3 ⟨a3, n3, c3, rfl, hO3, hbk, hgr⟩
    have HO3 := hide (show OwnT w3 B (.slice a3 n3 c3) (tog s.tm x) from by rw [HT.out]; exact hO3)
    have hbox := HM1.out.box.gb hgr (fun e => HM1.out.ne1 e.symm)
    obtain ⟨⟨-, -, -, -, -, d5⟩, -, -, -, -, -, f5⟩ := hbox.hex
    have HF := hide (show SM (w3.setCell ⟨g, 5, none⟩ (.slice a3 n3 c3)) B g v0 (.slice a3 n3 c3) ⟨s.st, s.nx, s.ca, s.dn, s.sg, tog s.tm x⟩ from HM1.out.put5 hgr HO3.out (.inl hbk))
    have HL := hide (show Below B w (w3.setCell ⟨g, 5, none⟩ (.slice a3 n3 c3)) from hb1.trans (HM1.out.low5 hgr hB1 5))
    clear hO3 hbk hgr hbox HO3 HT
    go_wp2
    exact bodyPost_ret (v := .tuple #[]) (by simp [results, Tryz.results252]) rfl ⟨rfl, ⟨_, _, _, HF.out⟩, HL.out⟩
end Go.Proofs.YtjgopjnkkhkcnaaGreatDoor

/-
  Texts that follow one another, joined: StJ, StK, StT, StT1.
-/
import Derived.Test.YtfkeokglifpkoaaGreatDoorJoin13
import Derived.Test.YtfkeokglifpkoaaGreatDoorJoin2
import Derived.Deep.RegionWith
import Derived.Deep.RegionLaw
import Derived.Deep.AppendLies
import Derived.Deep.Cut
/-
  A state in a box of the call's own, and a timer that is turned there, in the program's text.
-/
namespace Go.Proofs.YtfkeokglifpkoaaGreatDoor
open Go.RowKit M
open Clk (upd upd_same upd_other)
open Go.Sort (grow)
namespace M
theorem OwnT.ne_blk {w : World} {B g n : Nat} {v : Value} {l : Txs} {f : Nat → Value} {t : TypeId} (h : OwnT w B v l) (hb : Blk w g n f t) (ht : t ≠ 9) : v.ownBlock ≠ some g := by
  intro e
  rcases h.2 with ⟨rfl, _⟩ | ⟨g1, cap, cur, rfl, _, hg, _⟩
  · cases e
  · simp only [Value.ownBlock, Option.some.injEq] at e
    subst e
    unfold Blk at hb
    rw [hg] at hb
    simp only [Option.some.injEq, Obj.cells.injEq] at hb
    exact ht hb.2.1.symm
/-- A state in a box g, its lists in rows of the call's own, all from block B on. -/
structure SM (w : World) (B g : Nat) (v0 v1 : Value) (s : St) : Prop where
  box : Blk w g 6 (sq v0 v1 s) 60
  o0 : OwnT w B v0 s.sg
  o1 : OwnT w B v1 s.tm
  ap : Apart v0 v1
  lo : B ≤ g
theorem SM.down {w w' : World} {B g : Nat} {v0 v1 : Value} {s : St} (h : SM w B g v0 v1 s) (hb : Below w.heap.size w w') : SM w' B g v0 v1 s := ⟨h.box.down hb, h.o0.down hb, h.o1.down hb, h.ap, h.lo⟩
theorem SM.same {w w' : World} {B g : Nat} {v0 v1 : Value} {s : St} (h : SM w B g v0 v1 s) (hh : w'.heap = w.heap) : SM w' B g v0 v1 s :=
  ⟨by unfold Blk; rw [hh]; exact h.box, ⟨h.o0.1, by rw [hh]; exact h.o0.2⟩, ⟨h.o1.1, by rw [hh]; exact h.o1.2⟩, h.ap, h.lo⟩
theorem SM.c {w : World} {B g : Nat} {v0 v1 : Value} {s : St} (h : SM w B g v0 v1 s) : StC w v0 v1 s := ⟨h.o0.c, h.o1.c⟩
theorem SM.ne0 {w : World} {B g : Nat} {v0 v1 : Value} {s : St} (h : SM w B g v0 v1 s) : v0.ownBlock ≠ some g := h.o0.ne_blk h.box (by decide)
theorem SM.ne1 {w : World} {B g : Nat} {v0 v1 : Value} {s : St} (h : SM w B g v0 v1 s) : v1.ownBlock ≠ some g := h.o1.ne_blk h.box (by decide)
theorem SM.rows {w : World} {B g : Nat} {v0 v1 : Value} {s : St} (h : SM w B g v0 v1 s) (i : Nat) (u : Value) : OwnT (w.setCell ⟨g, i, none⟩ u) B v0 s.sg ∧ OwnT (w.setCell ⟨g, i, none⟩ u) B v1 s.tm :=
  ⟨h.o0.other (gbT_set (gbT_refl w (some g))) (fun g' hg' e => h.ne0 (by rw [hg', e])), h.o1.other (gbT_set (gbT_refl w (some g))) (fun g' hg' e => h.ne1 (by rw [hg', e]))⟩
theorem SM.set0 {w : World} {B g : Nat} {v0 v1 : Value} {s : St} (h : SM w B g v0 v1 s) (x : Int) : SM (w.setCell ⟨g, 0, none⟩ (.int .i64 x)) B g v0 v1 ⟨x, s.nx, s.ca, s.dn, s.sg, s.tm⟩ := ⟨h.box.hex0 _, (h.rows _ _).1, (h.rows _ _).2, h.ap, h.lo⟩
theorem SM.set1 {w : World} {B g : Nat} {v0 v1 : Value} {s : St} (h : SM w B g v0 v1 s) (x : Int) : SM (w.setCell ⟨g, 1, none⟩ (.int .i64 x)) B g v0 v1 ⟨s.st, x, s.ca, s.dn, s.sg, s.tm⟩ := ⟨h.box.hex1 _, (h.rows _ _).1, (h.rows _ _).2, h.ap, h.lo⟩
theorem SM.set2 {w : World} {B g : Nat} {v0 v1 : Value} {s : St} (h : SM w B g v0 v1 s) (x : Bool) : SM (w.setCell ⟨g, 2, none⟩ (.bool x)) B g v0 v1 ⟨s.st, s.nx, x, s.dn, s.sg, s.tm⟩ := ⟨h.box.hex2 _, (h.rows _ _).1, (h.rows _ _).2, h.ap, h.lo⟩
theorem SM.set3 {w : World} {B g : Nat} {v0 v1 : Value} {s : St} (h : SM w B g v0 v1 s) (x : Int) : SM (w.setCell ⟨g, 3, none⟩ (.int .i64 x)) B g v0 v1 ⟨s.st, s.nx, s.ca, x, s.sg, s.tm⟩ := ⟨h.box.hex3 _, (h.rows _ _).1, (h.rows _ _).2, h.ap, h.lo⟩
/-- The signals' row has turned; it is put into the box. -/
theorem SM.put4 {w w' : World} {B g : Nat} {v0 v1 u : Value} {s : St} {l : Txs} (h : SM w B g v0 v1 s) (hg : w.grownBy w' v0.ownBlock) (hu : OwnT w' B u l) (hb : u.ownBlock = v0.ownBlock ∨ ∃ k, u.ownBlock = some k ∧ w.heap.size ≤ k) : SM (w'.setCell ⟨g, 4, none⟩ u) B g u v1 ⟨s.st, s.nx, s.ca, s.dn, l, s.tm⟩ := by
  have hbox := h.box.gb hg (fun e => h.ne0 e.symm)
  have h1 := h.o1.other hg (fun g' hg' e => h.ap g' e.symm hg')
  have hun : u.ownBlock ≠ some g := hu.ne_blk hbox (by decide)
  refine ⟨hbox.hex4 u, hu.other (gbT_set (gbT_refl w' (some g))) (fun g' hg' e => hun (by rw [hg', e])), h1.other (gbT_set (gbT_refl w' (some g))) (fun g' hg' e => h.ne1 (by rw [hg', e])), fun g' hg' e => ?_, h.lo⟩
  rcases hb with hb | ⟨k, hk, hlt⟩
  · exact h.ap g' (by rw [← hb]; exact hg') e
  · rw [hk] at hg'
    simp only [Option.some.injEq] at hg'
    have := (h.o1.lt e).2
    omega
/-- The same of the timers' row. -/
theorem SM.put5 {w w' : World} {B g : Nat} {v0 v1 u : Value} {s : St} {l : Txs} (h : SM w B g v0 v1 s) (hg : w.grownBy w' v1.ownBlock) (hu : OwnT w' B u l) (hb : u.ownBlock = v1.ownBlock ∨ ∃ k, u.ownBlock = some k ∧ w.heap.size ≤ k) : SM (w'.setCell ⟨g, 5, none⟩ u) B g v0 u ⟨s.st, s.nx, s.ca, s.dn, s.sg, l⟩ := by
  have hbox := h.box.gb hg (fun e => h.ne1 e.symm)
  have h0 := h.o0.other hg (fun g' hg' e => h.ap g' hg' e.symm)
  have hun : u.ownBlock ≠ some g := hu.ne_blk hbox (by decide)
  refine ⟨hbox.hex5 u, h0.other (gbT_set (gbT_refl w' (some g))) (fun g' hg' e => h.ne0 (by rw [hg', e])), hu.other (gbT_set (gbT_refl w' (some g))) (fun g' hg' e => hun (by rw [hg', e])), fun g' hg' e => ?_, h.lo⟩
  rcases hb with hb | ⟨k, hk, hlt⟩
  · exact h.ap g' hg' (by rw [← hb]; exact e)
  · rw [hk] at e
    simp only [Option.some.injEq] at e
    have := (h.o0.lt hg').2
    omega
theorem SM.low4 {w w' : World} {B g : Nat} {v0 v1 u : Value} {s : St} (h : SM w B g v0 v1 s) (hg : w.grownBy w' v0.ownBlock) (hB : B ≤ w.heap.size) (i : Nat) : Below B w (w'.setCell ⟨g, i, none⟩ u) :=
  (gbT_low hg (fun _ hk => (h.o0.lt hk).1) hB).setCell (p := ⟨g, i, none⟩) h.lo u
theorem SM.low5 {w w' : World} {B g : Nat} {v0 v1 u : Value} {s : St} (h : SM w B g v0 v1 s) (hg : w.grownBy w' v1.ownBlock) (hB : B ≤ w.heap.size) (i : Nat) : Below B w (w'.setCell ⟨g, i, none⟩ u) :=
  (gbT_low hg (fun _ hk => (h.o1.lt hk).1) hB).setCell (p := ⟨g, i, none⟩) h.lo u
theorem tog_del {l : Txs} {x : ByteArray} (h : fnd l x = true) : tog l x = l.take (ps l x) ++ l.drop (ps l x + 1) := by unfold tog; rw [if_pos h]
theorem tog_ins {l : Txs} {x : ByteArray} (h : fnd l x = false) : tog l x = l.take (ps l x) ++ x :: l.drop (ps l x) := by unfold tog; rw [if_neg (by rw [h]; simp)]
theorem fnd_lt {l : Txs} {x : ByteArray} (h : fnd l x = true) : ps l x < l.length := by unfold fnd at h; simp only [decide_eq_true_eq] at h; exact lt_of_get h
end M
set_option maxRecDepth 20000 in
set_option maxHeartbeats 4000000 in
theorem turn_impl (B g : Nat) (v0 v1 : Value) (s : St) (x : ByteArray) (w : World) (h : SM w B g v0 v1 s) (hr : Rise s.tm) (hn : s.tm.length ≤ 1048576) (hB : B ≤ w.heap.size) :
    Calls Tryz.prog 196 #[.pointer (some ⟨g, 0, none⟩), .string x] w fun e w' => e = .returned (.tuple #[]) ∧ (∃ a n c, SM w' B g v0 (.slice a n c) ⟨s.st, s.nx, s.ca, s.dn, s.sg, tog s.tm x⟩) ∧ Below B w w' := by
  have HM := hide h
  obtain ⟨a1, c1, rfl⟩ := h.o1.form
  have HR := hide hr
  obtain ⟨⟨-, -, -, -, -, d5⟩, -, -, -, -, -, f5⟩ := h.box.hex
  clear h hr
  go_enter Tryz.func196, Tryz.ntmps196
  go_wp2_with fail
  refine (bs_txs _ s.tm x B _ HM.out.o1 HR.out hn).mono ?_
  rintro e w1 ⟨rfl, q, hq⟩
  have HM1 := hide (show SM w1 B g v0 (.slice a1 s.tm.length c1) s from HM.out.same (by rw [hq]; rfl))
  have hb1 : Below B w w1 := by rw [hq]; exact ⟨rfl, rfl, rfl, Nat.le_refl _, fun _ _ => rfl⟩
  have hB1 : B ≤ w1.heap.size := Nat.le_trans hB hb1.size
  clear hq d5 f5 HM hB
  obtain ⟨⟨-, -, -, -, -, d5⟩, -, -, -, -, -, f5⟩ := HM1.out.box.hex
  have hpl := ps_le s.tm x
  cases hf : fnd s.tm x
  · have HT := hide (tog_ins hf)
    obtain ⟨p, hp⟩ : ∃ p, ps s.tm x = p := ⟨_, rfl⟩
    rw [hp] at HT hpl ⊢
    clear hp hf
    go_wp2_with fail
    obtain ⟨W2, hW2⟩ : ∃ W2, w1.alloc (.cells #[.string x] 9) = W2 := ⟨_, rfl⟩
    have hdn : Below w1.heap.size w1 W2 := by rw [← hW2]; exact (Below.refl _ _).alloc (Nat.le_refl _) _
    have hlit : W2.heap[w1.heap.size]? = some (.cells #[.string x] 9 (0, 0)) := by rw [← hW2]; exact heap_alloc_new w1 _
    have HM2 := hide (HM1.out.down hdn)
    have hne : (Value.slice a1 s.tm.length c1).ownBlock ≠ some w1.heap.size := fun e => by have := (HM1.out.o1.lt e).2; omega
    rw [hW2]
    clear d5 f5
    refine (ins_txs _ s.tm p w1.heap.size B x W2 HM2.out.o1 hpl hn (Nat.le_trans hB1 hdn.size) hlit hne).mono ?_
    rintro e w3 ⟨a3, n3, c3, rfl, hO3, hbk, hgr⟩
    have HO3 := hide (show OwnT w3 B (.slice a3 n3 c3) (tog s.tm x) from by rw [HT.out]; exact hO3)
    have HK := hide hbk
    have HG := hide hgr
    have hbox := HM2.out.box.gb hgr (fun e => HM2.out.ne1 e.symm)
    obtain ⟨⟨-, -, -, -, -, d5⟩, -, -, -, -, -, f5⟩ := hbox.hex
    have HF := hide (show SM (w3.setCell ⟨g, 5, none⟩ (.slice a3 n3 c3)) B g v0 (.slice a3 n3 c3) ⟨s.st, s.nx, s.ca, s.dn, s.sg, tog s.tm x⟩ from HM2.out.put5 hgr HO3.out (by
      rcases hbk with hh | hh
      · exact .inl hh
      · exact .inr ⟨_, hh, Nat.le_refl _⟩))
    have HL := hide (show Below B w (w3.setCell ⟨g, 5, none⟩ (.slice a3 n3 c3)) from (hb1.trans (hdn.mono hB1)).trans (HM2.out.low5 hgr (Nat.le_trans hB1 hdn.size) 5))
    clear hO3 hbk hgr hbox HO3 HK HG HM2 hlit hne hdn hW2 HT
    go_wp2
    go_end0
    exact ⟨rfl, ⟨_, _, _, HF.out⟩, HL.out⟩
  · have HT := hide (tog_del hf)
    have hlt := fnd_lt hf
    obtain ⟨p, hp⟩ : ∃ p, ps s.tm x = p := ⟨_, rfl⟩
    rw [hp] at HT hpl hlt ⊢
    clear hp hf
    go_wp2_with fail
    rw [show (p : Int) + 1 = ((p + 1 : Nat) : Int) by omega]
    clear d5 f5
    refine (del_txs _ s.tm p B w1 HM1.out.o1 hlt).mono ?_
    rintro e w3 ⟨a3, n3, c3, rfl, hO3, hbk, hgr⟩
    have HO3 := hide (show OwnT w3 B (.slice a3 n3 c3) (tog s.tm x) from by rw [HT.out]; exact hO3)
    have hbox := HM1.out.box.gb hgr (fun e => HM1.out.ne1 e.symm)
    obtain ⟨⟨-, -, -, -, -, d5⟩, -, -, -, -, -, f5⟩ := hbox.hex
    have HF := hide (show SM (w3.setCell ⟨g, 5, none⟩ (.slice a3 n3 c3)) B g v0 (.slice a3 n3 c3) ⟨s.st, s.nx, s.ca, s.dn, s.sg, tog s.tm x⟩ from HM1.out.put5 hgr HO3.out (.inl hbk))
    have HL := hide (show Below B w (w3.setCell ⟨g, 5, none⟩ (.slice a3 n3 c3)) from hb1.trans (HM1.out.low5 hgr hB1 5))
    clear hO3 hbk hgr hbox HO3 HT
    go_wp2
    exact bodyPost_ret (v := .tuple #[]) (by simp [results, Tryz.results196]) rfl ⟨rfl, ⟨_, _, _, HF.out⟩, HL.out⟩
end Go.Proofs.YtfkeokglifpkoaaGreatDoor

/-
  What a good event does, by its kind, as a value of the program's interface: which type it has, when it may come.
-/
namespace Go.Proofs.YtfkeokglifpkoaaGreatDoor
open Go.RowKit M
open Clk (upd upd_same upd_other)
open Go.Sort (grow)
theorem as1_1 (v : Value) (w : World) : (Instr.typeAssert (.iface 223 v) 194 223 true).run Tryz.prog w = .ok (.tuple #[v, .bool true]) w := by kernel_rfl
theorem as1_2 (v : Value) (w : World) : (Instr.typeAssert (.iface 223 v) 194 226 true).run Tryz.prog w = .ok (.tuple #[.agg #[.string ⟨#[]⟩], .bool false]) w := by kernel_rfl
theorem as1_3 (v : Value) (w : World) : (Instr.typeAssert (.iface 223 v) 194 228 true).run Tryz.prog w = .ok (.tuple #[.agg #[], .bool false]) w := by kernel_rfl
theorem as1_4 (v : Value) (w : World) : (Instr.typeAssert (.iface 223 v) 194 229 true).run Tryz.prog w = .ok (.tuple #[.agg #[.string ⟨#[]⟩], .bool false]) w := by kernel_rfl
theorem as1_5 (v : Value) (w : World) : (Instr.typeAssert (.iface 223 v) 194 231 true).run Tryz.prog w = .ok (.tuple #[.agg #[], .bool false]) w := by kernel_rfl
theorem as1_6 (v : Value) (w : World) : (Instr.typeAssert (.iface 223 v) 194 232 true).run Tryz.prog w = .ok (.tuple #[.agg #[], .bool false]) w := by kernel_rfl
theorem cm1 (w : World) : (method 369 223 (.agg #[]) "loop.example/g00269/impl.comesAt").run Tryz.prog w = .ok (242, .agg #[]) w := by kernel_rfl
theorem as2_1 (v : Value) (w : World) : (Instr.typeAssert (.iface 226 v) 194 223 true).run Tryz.prog w = .ok (.tuple #[.agg #[], .bool false]) w := by kernel_rfl
theorem as2_2 (v : Value) (w : World) : (Instr.typeAssert (.iface 226 v) 194 226 true).run Tryz.prog w = .ok (.tuple #[v, .bool true]) w := by kernel_rfl
theorem as2_3 (v : Value) (w : World) : (Instr.typeAssert (.iface 226 v) 194 228 true).run Tryz.prog w = .ok (.tuple #[.agg #[], .bool false]) w := by kernel_rfl
theorem as2_4 (v : Value) (w : World) : (Instr.typeAssert (.iface 226 v) 194 229 true).run Tryz.prog w = .ok (.tuple #[.agg #[.string ⟨#[]⟩], .bool false]) w := by kernel_rfl
theorem as2_5 (v : Value) (w : World) : (Instr.typeAssert (.iface 226 v) 194 231 true).run Tryz.prog w = .ok (.tuple #[.agg #[], .bool false]) w := by kernel_rfl
theorem as2_6 (v : Value) (w : World) : (Instr.typeAssert (.iface 226 v) 194 232 true).run Tryz.prog w = .ok (.tuple #[.agg #[], .bool false]) w := by kernel_rfl
theorem cm2 (x : ByteArray) (w : World) : (method 369 226 (.agg #[.string x]) "loop.example/g00269/impl.comesAt").run Tryz.prog w = .ok (243, .agg #[]) w := by kernel_rfl
theorem as3_1 (v : Value) (w : World) : (Instr.typeAssert (.iface 228 v) 194 223 true).run Tryz.prog w = .ok (.tuple #[.agg #[], .bool false]) w := by kernel_rfl
theorem as3_2 (v : Value) (w : World) : (Instr.typeAssert (.iface 228 v) 194 226 true).run Tryz.prog w = .ok (.tuple #[.agg #[.string ⟨#[]⟩], .bool false]) w := by kernel_rfl
theorem as3_3 (v : Value) (w : World) : (Instr.typeAssert (.iface 228 v) 194 228 true).run Tryz.prog w = .ok (.tuple #[v, .bool true]) w := by kernel_rfl
theorem as3_4 (v : Value) (w : World) : (Instr.typeAssert (.iface 228 v) 194 229 true).run Tryz.prog w = .ok (.tuple #[.agg #[.string ⟨#[]⟩], .bool false]) w := by kernel_rfl
theorem as3_5 (v : Value) (w : World) : (Instr.typeAssert (.iface 228 v) 194 231 true).run Tryz.prog w = .ok (.tuple #[.agg #[], .bool false]) w := by kernel_rfl
theorem as3_6 (v : Value) (w : World) : (Instr.typeAssert (.iface 228 v) 194 232 true).run Tryz.prog w = .ok (.tuple #[.agg #[], .bool false]) w := by kernel_rfl
theorem cm3 (w : World) : (method 369 228 (.agg #[]) "loop.example/g00269/impl.comesAt").run Tryz.prog w = .ok (243, .agg #[]) w := by kernel_rfl
theorem as4_1 (v : Value) (w : World) : (Instr.typeAssert (.iface 229 v) 194 223 true).run Tryz.prog w = .ok (.tuple #[.agg #[], .bool false]) w := by kernel_rfl
theorem as4_2 (v : Value) (w : World) : (Instr.typeAssert (.iface 229 v) 194 226 true).run Tryz.prog w = .ok (.tuple #[.agg #[.string ⟨#[]⟩], .bool false]) w := by kernel_rfl
theorem as4_3 (v : Value) (w : World) : (Instr.typeAssert (.iface 229 v) 194 228 true).run Tryz.prog w = .ok (.tuple #[.agg #[], .bool false]) w := by kernel_rfl
theorem as4_4 (v : Value) (w : World) : (Instr.typeAssert (.iface 229 v) 194 229 true).run Tryz.prog w = .ok (.tuple #[v, .bool true]) w := by kernel_rfl
theorem as4_5 (v : Value) (w : World) : (Instr.typeAssert (.iface 229 v) 194 231 true).run Tryz.prog w = .ok (.tuple #[.agg #[], .bool false]) w := by kernel_rfl
theorem as4_6 (v : Value) (w : World) : (Instr.typeAssert (.iface 229 v) 194 232 true).run Tryz.prog w = .ok (.tuple #[.agg #[], .bool false]) w := by kernel_rfl
theorem cm4 (x : ByteArray) (w : World) : (method 369 229 (.agg #[.string x]) "loop.example/g00269/impl.comesAt").run Tryz.prog w = .ok (243, .agg #[]) w := by kernel_rfl
theorem as5_1 (v : Value) (w : World) : (Instr.typeAssert (.iface 231 v) 194 223 true).run Tryz.prog w = .ok (.tuple #[.agg #[], .bool false]) w := by kernel_rfl
theorem as5_2 (v : Value) (w : World) : (Instr.typeAssert (.iface 231 v) 194 226 true).run Tryz.prog w = .ok (.tuple #[.agg #[.string ⟨#[]⟩], .bool false]) w := by kernel_rfl
theorem as5_3 (v : Value) (w : World) : (Instr.typeAssert (.iface 231 v) 194 228 true).run Tryz.prog w = .ok (.tuple #[.agg #[], .bool false]) w := by kernel_rfl
theorem as5_4 (v : Value) (w : World) : (Instr.typeAssert (.iface 231 v) 194 229 true).run Tryz.prog w = .ok (.tuple #[.agg #[.string ⟨#[]⟩], .bool false]) w := by kernel_rfl
theorem as5_5 (v : Value) (w : World) : (Instr.typeAssert (.iface 231 v) 194 231 true).run Tryz.prog w = .ok (.tuple #[v, .bool true]) w := by kernel_rfl
theorem as5_6 (v : Value) (w : World) : (Instr.typeAssert (.iface 231 v) 194 232 true).run Tryz.prog w = .ok (.tuple #[.agg #[], .bool false]) w := by kernel_rfl
theorem cm5 (w : World) : (method 369 231 (.agg #[]) "loop.example/g00269/impl.comesAt").run Tryz.prog w = .ok (243, .agg #[]) w := by kernel_rfl
theorem as6_1 (v : Value) (w : World) : (Instr.typeAssert (.iface 232 v) 194 223 true).run Tryz.prog w = .ok (.tuple #[.agg #[], .bool false]) w := by kernel_rfl
theorem as6_2 (v : Value) (w : World) : (Instr.typeAssert (.iface 232 v) 194 226 true).run Tryz.prog w = .ok (.tuple #[.agg #[.string ⟨#[]⟩], .bool false]) w := by kernel_rfl
theorem as6_3 (v : Value) (w : World) : (Instr.typeAssert (.iface 232 v) 194 228 true).run Tryz.prog w = .ok (.tuple #[.agg #[], .bool false]) w := by kernel_rfl
theorem as6_4 (v : Value) (w : World) : (Instr.typeAssert (.iface 232 v) 194 229 true).run Tryz.prog w = .ok (.tuple #[.agg #[.string ⟨#[]⟩], .bool false]) w := by kernel_rfl
theorem as6_5 (v : Value) (w : World) : (Instr.typeAssert (.iface 232 v) 194 231 true).run Tryz.prog w = .ok (.tuple #[.agg #[], .bool false]) w := by kernel_rfl
theorem as6_6 (v : Value) (w : World) : (Instr.typeAssert (.iface 232 v) 194 232 true).run Tryz.prog w = .ok (.tuple #[v, .bool true]) w := by kernel_rfl
theorem cm6 (w : World) : (method 369 232 (.agg #[]) "loop.example/g00269/impl.comesAt").run Tryz.prog w = .ok (243, .agg #[]) w := by kernel_rfl
theorem comes1 (w : World) : Calls Tryz.prog 242 #[.agg #[]] w fun e w' => e = .returned (.int .i64 0) ∧ Below w.heap.size w w' := by
  have hb := (Below.refl w.heap.size w).alloc (Nat.le_refl _)
  go_enter Tryz.func242, Tryz.ntmps242
  go_wp2
  go_ret
  exact ⟨rfl, by first | exact Below.refl _ _ | exact hb _⟩
theorem comes2 (w : World) : Calls Tryz.prog 243 #[.agg #[]] w fun e w' => e = .returned (.int .i64 1) ∧ Below w.heap.size w w' := by
  have hb := (Below.refl w.heap.size w).alloc (Nat.le_refl _)
  go_enter Tryz.func243, Tryz.ntmps243
  go_wp2
  go_ret
  exact ⟨rfl, by first | exact Below.refl _ _ | exact hb _⟩
namespace M
/-- The value that stands for a good event of kind k with the name x. -/
def hv (k : Int) (x : ByteArray) : Value :=
  if k = 1 then .iface 223 (.agg #[]) else if k = 2 then .iface 226 (.agg #[.string x]) else if k = 3 then .iface 228 (.agg #[]) else if k = 4 then .iface 229 (.agg #[.string x]) else if k = 5 then .iface 231 (.agg #[]) else .iface 232 (.agg #[])
end M
theorem hap1 (I V : Int) (x : ByteArray) (w : World) (hx : x.size ≤ 12) :
    Calls Tryz.prog 167 #[ev I V 1 x] w fun e w' => e = .returned (hv 1 x) ∧ Below w.heap.size w w' := by
  have hbA := (Below.refl w.heap.size w).alloc (Nat.le_refl _) (.cells #[.int .i64 I, .int .i64 V, .int .i64 1, .string x] 74)
  have hbx : x.size ≤ 281474976710656 := by omega
  have HB := hide (show Blk (w.alloc (.cells #[.int .i64 I, .int .i64 V, .int .i64 1, .string x] 74)) w.heap.size 4 (fun i => if i = 0 then .int .i64 I else if i = 1 then .int .i64 V else if i = 2 then .int .i64 1 else .string x) 74 from Blk.fresh w _ 4 _ _ rfl)
  go_enter Tryz.func167, Tryz.ntmps167
  go_wp2_with fail
  refine (clone_s x _ hbx).mono ?_
  rintro e w1 ⟨rfl, hb⟩
  have hb1 := hbA.trans (hb.mono hbA.size)
  have d2 := (HB.out.down hb).cell (show 2 < 4 by omega)
  simp at d2
  clear hb hbA HB
  go_wp2
  go_ret
  exact ⟨rfl, hb1⟩
theorem hap2 (I V : Int) (x : ByteArray) (w : World) (hx : x.size ≤ 12) :
    Calls Tryz.prog 167 #[ev I V 2 x] w fun e w' => e = .returned (hv 2 x) ∧ Below w.heap.size w w' := by
  have hbA := (Below.refl w.heap.size w).alloc (Nat.le_refl _) (.cells #[.int .i64 I, .int .i64 V, .int .i64 2, .string x] 74)
  have hbx : x.size ≤ 281474976710656 := by omega
  have HB := hide (show Blk (w.alloc (.cells #[.int .i64 I, .int .i64 V, .int .i64 2, .string x] 74)) w.heap.size 4 (fun i => if i = 0 then .int .i64 I else if i = 1 then .int .i64 V else if i = 2 then .int .i64 2 else .string x) 74 from Blk.fresh w _ 4 _ _ rfl)
  go_enter Tryz.func167, Tryz.ntmps167
  go_wp2_with fail
  refine (clone_s x _ hbx).mono ?_
  rintro e w1 ⟨rfl, hb⟩
  have hb1 := hbA.trans (hb.mono hbA.size)
  have d2 := (HB.out.down hb).cell (show 2 < 4 by omega)
  simp at d2
  clear hb hbA HB
  go_wp2
  go_ret
  exact ⟨rfl, hb1⟩
theorem hap3 (I V : Int) (x : ByteArray) (w : World) (hx : x.size ≤ 12) :
    Calls Tryz.prog 167 #[ev I V 3 x] w fun e w' => e = .returned (hv 3 x) ∧ Below w.heap.size w w' := by
  have hbA := (Below.refl w.heap.size w).alloc (Nat.le_refl _) (.cells #[.int .i64 I, .int .i64 V, .int .i64 3, .string x] 74)
  have hbx : x.size ≤ 281474976710656 := by omega
  have HB := hide (show Blk (w.alloc (.cells #[.int .i64 I, .int .i64 V, .int .i64 3, .string x] 74)) w.heap.size 4 (fun i => if i = 0 then .int .i64 I else if i = 1 then .int .i64 V else if i = 2 then .int .i64 3 else .string x) 74 from Blk.fresh w _ 4 _ _ rfl)
  go_enter Tryz.func167, Tryz.ntmps167
  go_wp2_with fail
  refine (clone_s x _ hbx).mono ?_
  rintro e w1 ⟨rfl, hb⟩
  have hb1 := hbA.trans (hb.mono hbA.size)
  have d2 := (HB.out.down hb).cell (show 2 < 4 by omega)
  simp at d2
  clear hb hbA HB
  go_wp2
  go_ret
  exact ⟨rfl, hb1⟩
theorem hap4 (I V : Int) (x : ByteArray) (w : World) (hx : x.size ≤ 12) :
    Calls Tryz.prog 167 #[ev I V 4 x] w fun e w' => e = .returned (hv 4 x) ∧ Below w.heap.size w w' := by
  have hbA := (Below.refl w.heap.size w).alloc (Nat.le_refl _) (.cells #[.int .i64 I, .int .i64 V, .int .i64 4, .string x] 74)
  have hbx : x.size ≤ 281474976710656 := by omega
  have HB := hide (show Blk (w.alloc (.cells #[.int .i64 I, .int .i64 V, .int .i64 4, .string x] 74)) w.heap.size 4 (fun i => if i = 0 then .int .i64 I else if i = 1 then .int .i64 V else if i = 2 then .int .i64 4 else .string x) 74 from Blk.fresh w _ 4 _ _ rfl)
  go_enter Tryz.func167, Tryz.ntmps167
  go_wp2_with fail
  refine (clone_s x _ hbx).mono ?_
  rintro e w1 ⟨rfl, hb⟩
  have hb1 := hbA.trans (hb.mono hbA.size)
  have d2 := (HB.out.down hb).cell (show 2 < 4 by omega)
  simp at d2
  clear hb hbA HB
  go_wp2
  go_ret
  exact ⟨rfl, hb1⟩
theorem hap5 (I V : Int) (x : ByteArray) (w : World) (hx : x.size ≤ 12) :
    Calls Tryz.prog 167 #[ev I V 5 x] w fun e w' => e = .returned (hv 5 x) ∧ Below w.heap.size w w' := by
  have hbA := (Below.refl w.heap.size w).alloc (Nat.le_refl _) (.cells #[.int .i64 I, .int .i64 V, .int .i64 5, .string x] 74)
  have hbx : x.size ≤ 281474976710656 := by omega
  have HB := hide (show Blk (w.alloc (.cells #[.int .i64 I, .int .i64 V, .int .i64 5, .string x] 74)) w.heap.size 4 (fun i => if i = 0 then .int .i64 I else if i = 1 then .int .i64 V else if i = 2 then .int .i64 5 else .string x) 74 from Blk.fresh w _ 4 _ _ rfl)
  go_enter Tryz.func167, Tryz.ntmps167
  go_wp2_with fail
  refine (clone_s x _ hbx).mono ?_
  rintro e w1 ⟨rfl, hb⟩
  have hb1 := hbA.trans (hb.mono hbA.size)
  have d2 := (HB.out.down hb).cell (show 2 < 4 by omega)
  simp at d2
  clear hb hbA HB
  go_wp2
  go_ret
  exact ⟨rfl, hb1⟩
theorem hap6 (I V : Int) (x : ByteArray) (w : World) (hx : x.size ≤ 12) :
    Calls Tryz.prog 167 #[ev I V 6 x] w fun e w' => e = .returned (hv 6 x) ∧ Below w.heap.size w w' := by
  have hbA := (Below.refl w.heap.size w).alloc (Nat.le_refl _) (.cells #[.int .i64 I, .int .i64 V, .int .i64 6, .string x] 74)
  have hbx : x.size ≤ 281474976710656 := by omega
  have HB := hide (show Blk (w.alloc (.cells #[.int .i64 I, .int .i64 V, .int .i64 6, .string x] 74)) w.heap.size 4 (fun i => if i = 0 then .int .i64 I else if i = 1 then .int .i64 V else if i = 2 then .int .i64 6 else .string x) 74 from Blk.fresh w _ 4 _ _ rfl)
  go_enter Tryz.func167, Tryz.ntmps167
  go_wp2_with fail
  refine (clone_s x _ hbx).mono ?_
  rintro e w1 ⟨rfl, hb⟩
  have hb1 := hbA.trans (hb.mono hbA.size)
  have d2 := (HB.out.down hb).cell (show 2 < 4 by omega)
  simp at d2
  clear hb hbA HB
  go_wp2
  go_ret
  exact ⟨rfl, hb1⟩
theorem happens (e : Ev) (w : World) (hk : 1 ≤ e.kind ∧ e.kind ≤ 6) (hx : e.name.size ≤ 12) :
    Calls Tryz.prog 167 #[ev e.id e.ver e.kind e.name] w fun e' w' => e' = .returned (hv e.kind e.name) ∧ Below w.heap.size w w' := by
  obtain ⟨I, V, k, x⟩ := e
  simp only at *
  rcases (show k = 1 ∨ k = 2 ∨ k = 3 ∨ k = 4 ∨ k = 5 ∨ k = 6 by omega) with rfl | rfl | rfl | rfl | rfl | rfl
  · exact hap1 I V x w hx
  · exact hap2 I V x w hx
  · exact hap3 I V x w hx
  · exact hap4 I V x w hx
  · exact hap5 I V x w hx
  · exact hap6 I V x w hx
end Go.Proofs.YtfkeokglifpkoaaGreatDoor

/-
  What happens to a state in its box, kind by kind: it is taken where it may come, and then the box holds what it makes of the state.
-/
namespace Go.Proofs.YtfkeokglifpkoaaGreatDoor
open Go.RowKit M
open Clk (upd upd_same upd_other)
open Go.Sort (grow)
namespace M
theorem SM.nil5 {w : World} {B g : Nat} {v0 v1 : Value} {s : St} (h : SM w B g v0 v1 s) : SM (w.setCell ⟨g, 5, none⟩ (.slice none 0 0)) B g v0 (.slice none 0 0) ⟨s.st, s.nx, s.ca, s.dn, s.sg, []⟩ :=
  ⟨h.box.hex5 _, (h.rows _ _).1, OwnT.nil _ _, fun g' _ e => (by cases e), h.lo⟩
theorem nm12 {r : Bool} {l : Txs} (h : Nms r l) : ∀ x ∈ l, x.size ≤ maxLen := fun x hx => by
  have := h.size x hx
  unfold maxLen; omega
theorem tog_mem {l : Txs} {x y : ByteArray} (h : y ∈ tog l x) : y = x ∨ y ∈ l := by
  unfold tog at h
  split at h
  · rcases List.mem_append.1 h with h | h
    · exact .inr (List.mem_of_mem_take h)
    · exact .inr (List.mem_of_mem_drop h)
  · rcases List.mem_append.1 h with h | h
    · exact .inr (List.mem_of_mem_take h)
    · rcases List.mem_cons.1 h with h | h
      · exact .inl h
      · exact .inr (List.mem_of_mem_drop h)
theorem news1' (w : World) (vb : Nat) (c : Value) (t : TypeId) (h : w.heap[vb]? = some (.cells #[c] t (0, 0))) : ∀ (j : Nat) u, [c][j]? = some u → w.cell? ((⟨vb, 0, none⟩ : Addr).add j) = some u := by
  intro j u hj
  match j, hj with
  | 0, hj => simp at hj; subst hj; simp [Addr.add, World.cell?, h]
theorem owns_same {w w' : World} {B e size n : Nat} {v : Value} {xs : List Value} (h : w.ownsRow B e size v n xs) (hh : w'.heap = w.heap) : w'.ownsRow B e size v n xs := ⟨h.1, by rw [hh]; exact h.2⟩
theorem gN_max {x : ByteArray} (h : gN x = true) : x.size ≤ maxLen := by
  have := gN_size h
  unfold maxLen; omega
theorem tog_nm {l : Txs} {x : ByteArray} (h : Nms true l) (hx : gN x = true) : ∀ y ∈ tog l x, y.size ≤ maxLen := fun y hy => by
  rcases tog_mem hy with hh | hh
  · rw [hh]; exact gN_max hx
  · exact nm12 h y hh
theorem snoc_nm {l : Txs} {x : ByteArray} (h : Nms false l) (hx : gN x = true) : ∀ y ∈ l ++ [x], y.size ≤ maxLen := fun y hy => by
  rcases List.mem_append.1 hy with hh | hh
  · exact nm12 h y hh
  · simp at hh; rw [hh]; exact gN_max hx
end M
end Go.Proofs.YtfkeokglifpkoaaGreatDoor

/-
  What happens to a state in its box, at one kind.
-/
namespace Go.Proofs.YtfkeokglifpkoaaGreatDoor
open Go.RowKit M
open Clk (upd upd_same upd_other)
open Go.Sort (grow)
set_option maxRecDepth 20000 in
set_option maxHeartbeats 8000000 in
theorem take1 (B g : Nat) (v0 v1 : Value) (s : St) (b : Bool) (w : World) (h : SM w B g v0 v1 s) (hs : GoodSt s) (hB : B ≤ w.heap.size) (hb : BP b (s.st = 0 ∧ GoodSt ⟨1, s.nx + 1, s.ca, s.dn, s.sg, s.tm⟩)) :
    Calls Tryz.prog 166 #[.pointer (some ⟨g, 0, none⟩), .iface 223 (.agg #[])] w fun e w' => e = .returned (.bool b) ∧ (b = true → ∃ u0 u1, SM w' B g u0 u1 ⟨1, s.nx + 1, s.ca, s.dn, s.sg, s.tm⟩) ∧ Below B w w' := by
  obtain ⟨a0, c0, rfl⟩ := h.o0.form
  obtain ⟨a1, c1, rfl⟩ := h.o1.form
  obtain ⟨⟨d0, d1, d2, d3, d4, d5⟩, f0, f1, f2, f3, f4, f5⟩ := h.box.hex
  have hcm := cm1
  have ha1 := as1_1
  have HM := hide h
  have HG := hide hs
  have HB := hide hb
  have e0 := fun wy (hb : Below w.drew.heap.size w.drew wy) => ((hb.cell (p := ⟨g, 0, none⟩) (show g < w.drew.heap.size from HM.out.box.lt)).trans (show w.drew.cell? ⟨g, 0, none⟩ = _ from d0))
  have HE0 := hide e0
  clear e0 h hs hb
  by_cases hst : s.st = 0
  case neg =>
    have hq : (s.st != 0) = true := by simp [hst]
    have HF := hide (HB.out.no (fun h => hst h.1))
    clear hst
    go_enter Tryz.func166, Tryz.ntmps166
    go_upto_region 1 with fail
    go_cut [17] from 11 (fun bb wx => bb = .bool true ∧ Hid (Below w.heap.size w wx))
    case first =>
      go_region_with (go_at_call 242; refine (comes1 _).mono ?_; rintro e wj ⟨rfl, hbj⟩; have m0 := HE0.out _ hbj)
      all_goals
        go_wp2_with fail
        go_meet
        exact ⟨rfl, hide ((Below.refl _ w).drew.trans hbj)⟩
    case rest =>
      rename World => wC
      obtain ⟨rfl, HC⟩ := hcut
      clear d0 d1 d2 d3 d4 d5 f0 f1 f2 f3 f4 f5 HM HE0 HB HG
      go_wp2
      go_ret
      exact ⟨ret_bool HF.out.symm, fun h => (by rw [HF.out] at h; cases h), HC.out.mono hB⟩
  have hq : (s.st != 0) = false := by simp [hst]
  have HST := hide hst
  clear hst
  obtain ⟨⟨hn1, hn2⟩, ⟨hd1, hd2⟩, hsg, htm, -⟩ := HG.out
  have HSG := hide hsg
  have HTM := hide htm
  have HSH := hide (show ShortT s from ⟨by have := hsg.1; omega, by have := htm.1; omega⟩)
  clear hsg htm
  go_enter Tryz.func166, Tryz.ntmps166
  go_upto_region 1 with fail
  go_cut [17] from 11 (fun bb wx => bb = .bool false ∧ Hid (SM wx B g (.slice a0 s.sg.length c0) (.slice a1 s.tm.length c1) s ∧ Below w.heap.size w wx))
  case first =>
    go_region_with (go_at_call 242; refine (comes1 _).mono ?_; rintro e wj ⟨rfl, hbj⟩; have m0 := HE0.out _ hbj)
    all_goals
      go_wp2_with fail
      go_meet
      exact ⟨rfl, hide ⟨HM.out.down ((Below.refl _ w).drew.trans hbj), (Below.refl _ w).drew.trans hbj⟩⟩
  case rest =>
    rename World => wC
    obtain ⟨rfl, HC⟩ := hcut
    clear d0 d1 d2 d3 d4 d5 f0 f1 f2 f3 f4 f5 HM HE0
    have hbC : Below B w wC := HC.out.2.mono hB
    have hBC : B ≤ wC.heap.size := Nat.le_trans hB hbC.size
    have HM := hide HC.out.1
    clear HC
    obtain ⟨⟨d0, d1, d2, d3, d4, d5⟩, f0, f1, f2, f3, f4, f5⟩ := HM.out.box.hex
    have hlo := HM.out.lo
    have hglt : g < wC.heap.size := HM.out.box.lt
    have HBG := hide (show BP b (GoodSt ⟨1, s.nx + 1, s.ca, s.dn, s.sg, s.tm⟩) from ⟨fun hh => (HB.out.1 hh).2, fun hh => HB.out.2 ⟨HST.out, hh⟩⟩)
    have HS := hide (((HM.out.set0 1).set1 (s.nx + 1)).down ((Below.refl _ _).alloc (Nat.le_refl _) (.cells #[] 223)))
    have HL := hide (((hbC.setCell (p := ⟨g, 0, none⟩) hlo (.int .i64 1)).setCell (p := ⟨g, 1, none⟩) hlo (.int .i64 (s.nx + 1))).alloc (by simp; omega) (.cells #[] 223))
    clear HM HB HST HG
    go_wp2_with fail
    refine (impl_goodSt _ _ (⟨1, s.nx + 1, s.ca, s.dn, s.sg, s.tm⟩ : St) b _ HS.out.c (show ShortT _ from HSH.out) (show NmT _ from ⟨nm12 HSG.out, nm12 HTM.out⟩) HBG.out).mono ?_
    rintro e w9 ⟨rfl, hb9⟩
    have HF := hide (show (∃ u0 u1, SM w9 B g u0 u1 ⟨1, s.nx + 1, s.ca, s.dn, s.sg, s.tm⟩) ∧ Below B w w9 from ⟨⟨_, _, HS.out.down hb9⟩, HL.out.trans (hb9.mono (Nat.le_trans hB HL.out.size))⟩)
    clear hb9
    go_wp2
    go_ret
    exact ⟨rfl, fun _ => HF.out.1, HF.out.2⟩
end Go.Proofs.YtfkeokglifpkoaaGreatDoor

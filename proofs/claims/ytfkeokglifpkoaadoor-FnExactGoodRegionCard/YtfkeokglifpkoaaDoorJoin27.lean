/-
  The specification's l12Apply: the boxes while it goes on, and an event that is refused at once.
-/
import Derived.Test.YtfkeokglifpkoaaDoorJoin22
import Derived.Test.YtfkeokglifpkoaaDoorJoin26
import Derived.Deep.RegionWith
import Derived.Deep.RegionHeld
import Derived.Deep.Cut
namespace Go.Proofs.YtfkeokglifpkoaaDoor
open Go.RowKit M
open Clk (upd upd_same upd_other)
open Go.Sort (grow)
namespace M
/-- What l12Apply answers: b; where it is true the state r in memory of its own, else the state as it was, or r, which is not good. -/
def L12 (w w' : World) (e' : Ending) (s r : St) (b : Bool) : Prop := ∃ u0 u1 x, e' = .returned (.tuple #[stv u0 u1 x, .bool b]) ∧ StC w' u0 u1 x ∧ (b = true → x = r ∧ AnsL w' w.heap.size w'.heap.size u0 u1 x.sg x.tm) ∧ (b = false → x = s ∨ (x = r ∧ ¬ GoodSt r))
theorem gbT_down {w w' : World} (h : Below w.heap.size w w') (row : Option Nat) : w.grownBy w' row := ⟨h.os, h.tape, h.output, h.size, fun k hk _ => h.block k hk⟩
/-- A new row of timers is put into the box. -/
theorem SM.new5 {w w' : World} {B g : Nat} {v0 v1 u : Value} {s : St} {l : Txs} (h : SM w B g v0 v1 s) (hb : Below w.heap.size w w') (hu : OwnT w' w.heap.size u l) (hB : B ≤ w.heap.size) : SM (w'.setCell ⟨g, 5, none⟩ u) B g v0 u ⟨s.st, s.nx, s.ca, s.dn, s.sg, l⟩ := by
  have h' := h.down hb
  have hun : u.ownBlock ≠ some g := hu.ne_blk h'.box (by decide)
  refine ⟨h'.box.hex5 u, (h'.rows _ _).1, (hu.other (gbT_set (gbT_refl w' (some g))) (fun g' hg' e => hun (by rw [hg', e]))).mono hB, fun g' hg' e => ?_, h.lo⟩
  have h1 := (h.o0.lt hg').2
  have h2 := (hu.lt e).1
  omega
/-- While l12Apply goes on with its own copy of the state. -/
structure VB (w W : World) (s : St) (e : Ev) (u0 u1 : Value) : Prop where
  low : Below w.heap.size w W
  m : SM W w.heap.size w.heap.size u0 u1 s
  eb : Blk W (w.heap.size + 1) 4 (ev4 e) 45
  rb : Blk W (w.heap.size + 1 + 1) 6 (q6 (.int .i64 0) (.int .i64 0) (.bool false) (.int .i64 0) (.slice none 0 0) (.slice none 0 0)) 73
theorem VB.down {w W W' : World} {s : St} {e : Ev} {u0 u1 : Value} (h : VB w W s e u0 u1) (hb : Below W.heap.size W W') : VB w W' s e u0 u1 :=
  ⟨h.low.trans (hb.mono h.low.size), h.m.down hb, h.eb.down hb, h.rb.down hb⟩
theorem VB.set {w W : World} {s s' : St} {e : Ev} {u0 u1 u0' u1' u : Value} {i : Nat} (h : VB w W s e u0 u1) (hm : SM (W.setCell ⟨w.heap.size, i, none⟩ u) w.heap.size w.heap.size u0' u1' s') : VB w (W.setCell ⟨w.heap.size, i, none⟩ u) s' e u0' u1' :=
  ⟨h.low.setCell (p := ⟨w.heap.size, i, none⟩) (Nat.le_refl _) u, hm, h.eb.set_other (by omega) _ _, h.rb.set_other (by omega) _ _⟩
theorem VB.set0 {w W : World} {s : St} {e : Ev} {u0 u1 : Value} (h : VB w W s e u0 u1) (x : Int) : VB w (W.setCell ⟨w.heap.size, 0, none⟩ (.int .i64 x)) ⟨x, s.nx, s.ca, s.dn, s.sg, s.tm⟩ e u0 u1 := h.set (h.m.set0 x)
theorem VB.set1 {w W : World} {s : St} {e : Ev} {u0 u1 : Value} (h : VB w W s e u0 u1) (x : Int) : VB w (W.setCell ⟨w.heap.size, 1, none⟩ (.int .i64 x)) ⟨s.st, x, s.ca, s.dn, s.sg, s.tm⟩ e u0 u1 := h.set (h.m.set1 x)
theorem VB.set2 {w W : World} {s : St} {e : Ev} {u0 u1 : Value} (h : VB w W s e u0 u1) (x : Bool) : VB w (W.setCell ⟨w.heap.size, 2, none⟩ (.bool x)) ⟨s.st, s.nx, x, s.dn, s.sg, s.tm⟩ e u0 u1 := h.set (h.m.set2 x)
theorem VB.set3 {w W : World} {s : St} {e : Ev} {u0 u1 : Value} (h : VB w W s e u0 u1) (x : Int) : VB w (W.setCell ⟨w.heap.size, 3, none⟩ (.int .i64 x)) ⟨s.st, s.nx, s.ca, x, s.sg, s.tm⟩ e u0 u1 := h.set (h.m.set3 x)
theorem VB.nil5 {w W : World} {s : St} {e : Ev} {u0 u1 : Value} (h : VB w W s e u0 u1) : VB w (W.setCell ⟨w.heap.size, 5, none⟩ (.slice none 0 0)) ⟨s.st, s.nx, s.ca, s.dn, s.sg, []⟩ e u0 (.slice none 0 0) := h.set h.m.nil5
theorem VB.new5 {w W W' : World} {s : St} {e : Ev} {u0 u1 u : Value} {l : Txs} (h : VB w W s e u0 u1) (hb : Below W.heap.size W W') (hu : OwnT W' W.heap.size u l) : VB w (W'.setCell ⟨w.heap.size, 5, none⟩ u) ⟨s.st, s.nx, s.ca, s.dn, s.sg, l⟩ e u0 u := (h.down hb).set (h.m.new5 hb hu h.low.size)
theorem VB.put4 {w W W' : World} {s : St} {e : Ev} {u0 u1 u : Value} {l : Txs} (h : VB w W s e u0 u1) (hg : W.grownBy W' u0.ownBlock) (hu : OwnT W' w.heap.size u l) (hb : u.ownBlock = u0.ownBlock ∨ u.ownBlock = some W.heap.size) : VB w (W'.setCell ⟨w.heap.size, 4, none⟩ u) ⟨s.st, s.nx, s.ca, s.dn, l, s.tm⟩ e u u1 :=
  ⟨(h.low.grown hg h.low.size (fun k hk => (h.m.o0.lt hk).1)).setCell (p := ⟨w.heap.size, 4, none⟩) (Nat.le_refl _) u, h.m.put4 hg hu (by
    rcases hb with hb | hb
    · exact .inl hb
    · exact .inr ⟨_, hb, Nat.le_refl _⟩), (h.eb.grown h.m.o0 (by decide) hg).set_other (by omega) _ _, (h.rb.grown h.m.o0 (by decide) hg).set_other (by omega) _ _⟩
theorem VB.boxes {w W W' : World} {s : St} {e : Ev} {u0 u1 : Value} (h : VB w W s e u0 u1) (hg : W.grownBy W' u0.ownBlock) : Blk W' w.heap.size 6 (sq u0 u1 s) 73 := h.m.box.gb hg (fun e => h.m.ne0 e.symm)
/-- The copy is stored into the state's own box. -/
theorem VB.copy {w W : World} {s : St} {e : Ev} {v0 v1 u0 u1 : Value} {B : Nat} (h : AB w W s e v0 v1) (ha : AnsL W B W.heap.size u0 u1 s.sg s.tm) (hB : w.heap.size + 3 ≤ B) :
    ∀ WZ, (((((W.setCell ⟨w.heap.size, 0, none⟩ (.int .i64 s.st)).setCell ⟨w.heap.size, 1, none⟩ (.int .i64 s.nx)).setCell ⟨w.heap.size, 2, none⟩ (.bool s.ca)).setCell ⟨w.heap.size, 3, none⟩ (.int .i64 s.dn)).setCell ⟨w.heap.size, 4, none⟩ u0).setCell ⟨w.heap.size, 5, none⟩ u1 = WZ → VB w WZ s e u0 u1 := by
  intro WZ hWZ
  obtain ⟨k1, k2, k3⟩ := put6 h.sb h.low (Nat.le_refl _) _ _ _ _ _ _ WZ hWZ
  refine ⟨k2, ⟨k1, (ha.o0.other k3 (fun g hg e => ?_)).mono (by omega), (ha.o1.other k3 (fun g hg e => ?_)).mono (by omega), ha.ap, Nat.le_refl _⟩, h.eb.gb k3 (fun e => by simp only [Option.some.injEq] at e; omega), h.rb.gb k3 (fun e => by simp only [Option.some.injEq] at e; omega)⟩
  · have := (ha.o0.lt hg).1
    simp only [Option.some.injEq] at e; omega
  · have := (ha.o1.lt hg).1
    simp only [Option.some.injEq] at e; omega
/-- The end: the box's state is stored into that of the answer. -/
theorem VB.fin {w W : World} {s s0 r : St} {e : Ev} {u0 u1 : Value} {b : Bool} (h : VB w W s e u0 u1) (hc : (b = true → s = r) ∧ (b = false → s = s0 ∨ (s = r ∧ ¬ GoodSt r))) :
    ∀ WZ, (((((W.setCell ⟨w.heap.size + 1 + 1, 0, none⟩ (.int .i64 s.st)).setCell ⟨w.heap.size + 1 + 1, 1, none⟩ (.int .i64 s.nx)).setCell ⟨w.heap.size + 1 + 1, 2, none⟩ (.bool s.ca)).setCell ⟨w.heap.size + 1 + 1, 3, none⟩ (.int .i64 s.dn)).setCell ⟨w.heap.size + 1 + 1, 4, none⟩ u0).setCell ⟨w.heap.size + 1 + 1, 5, none⟩ u1 = WZ →
    Blk WZ (w.heap.size + 1 + 1) 6 (sq u0 u1 s) 73 ∧ L12 w WZ (.returned (.tuple #[stv u0 u1 s, .bool b])) s0 r b ∧ Below w.heap.size w WZ := by
  intro WZ hWZ
  obtain ⟨k1, k2, k3⟩ := put6 h.rb h.low (by omega) _ _ _ _ _ _ WZ hWZ
  have n0 : u0.ownBlock ≠ some (w.heap.size + 1 + 1) := h.m.o0.ne_blk h.rb (by decide)
  have n1 : u1.ownBlock ≠ some (w.heap.size + 1 + 1) := h.m.o1.ne_blk h.rb (by decide)
  have a0 := h.m.o0.other k3 (fun g hg e => n0 (by rw [hg, e]))
  have a1 := h.m.o1.other k3 (fun g hg e => n1 (by rw [hg, e]))
  have hA := AnsL.of a0 a1 h.m.ap
  exact ⟨k1, ⟨u0, u1, s, rfl, ⟨a0.c, a1.c⟩, fun hb => ⟨hc.1 hb, hA⟩, hc.2⟩, k2⟩
end M
namespace M
/-- Where nothing has been copied yet: the state itself goes into the answer's box. -/
theorem AB.fin {w W : World} {s r : St} {e : Ev} {v0 v1 : Value} (h : AB w W s e v0 v1) (hv : StC w v0 v1 s) :
    ∀ WZ, (((((W.setCell ⟨w.heap.size + 1 + 1, 0, none⟩ (.int .i64 s.st)).setCell ⟨w.heap.size + 1 + 1, 1, none⟩ (.int .i64 s.nx)).setCell ⟨w.heap.size + 1 + 1, 2, none⟩ (.bool s.ca)).setCell ⟨w.heap.size + 1 + 1, 3, none⟩ (.int .i64 s.dn)).setCell ⟨w.heap.size + 1 + 1, 4, none⟩ v0).setCell ⟨w.heap.size + 1 + 1, 5, none⟩ v1 = WZ →
    Blk WZ (w.heap.size + 1 + 1) 6 (sq v0 v1 s) 73 ∧ L12 w WZ (.returned (.tuple #[stv v0 v1 s, .bool false])) s r false ∧ Below w.heap.size w WZ := by
  intro WZ hWZ
  obtain ⟨k1, k2, k3⟩ := put6 h.rb h.low (by omega) _ _ _ _ _ _ WZ hWZ
  exact ⟨k1, ⟨v0, v1, s, rfl, hv.below k2, fun hb => (by cases hb), fun _ => .inl rfl⟩, k2⟩
end M
set_option maxRecDepth 20000 in
set_option maxHeartbeats 8000000 in
theorem l12_no (v0 v1 : Value) (s r : St) (e : Ev) (w : World) (hv : StC w v0 v1 s) (hg : GoodSt s) (hen : e.name.size ≤ maxLen) (hno : ¬ (e.gd = true ∧ e.id = s.nx ∧ s.st = (if e.kind = 1 then 0 else 1))) :
    Calls Tryd.prog 47 #[stv v0 v1 s, ev e.id e.ver e.kind e.name] w fun e' w' => L12 w w' e' s r false ∧ Below w.heap.size w w' := by
  obtain ⟨a0, c0, rfl⟩ := hv.1.1.form
  obtain ⟨a1, c1, rfl⟩ := hv.2.1.form
  have HV := hide hv
  have HE := hide hen
  have HNO := hide hno
  have hst3 : s.st = 0 ∨ s.st = 1 ∨ s.st = 2 := by rcases hg.2.2.2.2 with h | h <;> omega
  clear hv hg hen hno
  obtain ⟨W, hW⟩ : ∃ W, ((w.alloc (.cells (sarr (.slice a0 s.sg.length c0) (.slice a1 s.tm.length c1) s) 73)).alloc (.cells (evarr e) 45)).alloc (.cells zarr 73) = W := ⟨_, rfl⟩
  have HA0 := hide (show AB w W s e (.slice a0 s.sg.length c0) (.slice a1 s.tm.length c1) from hW ▸ AB.new w s e _ _)
  have HWW := hide hW
  clear hW
  go_enter Tryd.func47, Tryd.ntmps47
  go_wp2_with fail
  rw [HWW.out]
  clear HWW
  refine (spec_good _ _ _ _ _ HE.out).mono ?_
  rintro e' w1 ⟨rfl, hb⟩
  have HA1 := hide (HA0.out.down hb)
  clear hb HA0
  obtain ⟨e0, e1, e2, e3⟩ := HA1.out.eb.ev
  obtain ⟨⟨d0, d1, d2, d3, d4, d5⟩, -⟩ := HA1.out.sb.hex
  obtain ⟨⟨r0, r1, r2, r3, r4, r5⟩, t0, t1, t2, t3, t4, t5⟩ := HA1.out.rb.hex
  obtain ⟨WZ, hWZ⟩ : ∃ WZ, (((((w1.setCell ⟨w.heap.size + 1 + 1, 0, none⟩ (.int .i64 s.st)).setCell ⟨w.heap.size + 1 + 1, 1, none⟩ (.int .i64 s.nx)).setCell ⟨w.heap.size + 1 + 1, 2, none⟩ (.bool s.ca)).setCell ⟨w.heap.size + 1 + 1, 3, none⟩ (.int .i64 s.dn)).setCell ⟨w.heap.size + 1 + 1, 4, none⟩ (.slice a0 s.sg.length c0)).setCell ⟨w.heap.size + 1 + 1, 5, none⟩ (.slice a1 s.tm.length c1) = WZ := ⟨_, rfl⟩
  have HZZ := hide (HA1.out.fin (r := r) HV.out WZ hWZ)
  have HWZ := hide hWZ
  clear hWZ HA1
  cases hg : goodB e.id e.ver e.kind e.name
  · clear HNO hst3
    go_wp2
    rw [HWZ.out]
    clear r0 r1 r2 r3 r4 r5 t0 t1 t2 t3 t4 t5
    obtain ⟨⟨r0, r1, r2, r3, r4, r5⟩, -⟩ := HZZ.out.1.hex
    exact bodyPost_ret (v := .tuple #[stv (.slice a0 s.sg.length c0) (.slice a1 s.tm.length c1) s, .bool false]) (by simp [results, Tryd.results47, go_sem, r0, r1, r2, r3, r4, r5]) rfl HZZ.out.2
  by_cases hid : e.id = s.nx
  case neg =>
    have hid2 : (e.id != s.nx) = true := by simp [hid]
    clear HNO hst3 hid
    go_wp2
    rw [HWZ.out]
    clear r0 r1 r2 r3 r4 r5 t0 t1 t2 t3 t4 t5
    obtain ⟨⟨r0, r1, r2, r3, r4, r5⟩, -⟩ := HZZ.out.1.hex
    exact bodyPost_ret (v := .tuple #[stv (.slice a0 s.sg.length c0) (.slice a1 s.tm.length c1) s, .bool false]) (by simp [results, Tryd.results47, go_sem, r0, r1, r2, r3, r4, r5]) rfl HZZ.out.2
  have hid2 : (e.id != s.nx) = false := by simp [hid]
  have HS := hide (show ¬ s.st = (if e.kind = 1 then 0 else 1) from fun h => HNO.out ⟨hg, hid, h⟩)
  clear hid HNO
  by_cases hk : e.kind = 1
  · have hk2 : (e.kind == 1) = true := by simp [hk]
    have hs0 : (s.st == 0) = false := by
      have := HS.out
      rw [if_pos hk] at this
      simpa using this
    clear hk hst3 HS
    go_wp2
    rw [HWZ.out]
    clear r0 r1 r2 r3 r4 r5 t0 t1 t2 t3 t4 t5
    obtain ⟨⟨r0, r1, r2, r3, r4, r5⟩, -⟩ := HZZ.out.1.hex
    exact bodyPost_ret (v := .tuple #[stv (.slice a0 s.sg.length c0) (.slice a1 s.tm.length c1) s, .bool false]) (by simp [results, Tryd.results47, go_sem, r0, r1, r2, r3, r4, r5]) rfl HZZ.out.2
  · have hk2 : (e.kind == 1) = false := by simp [hk]
    have hs1 : ¬ s.st = 1 := by
      have := HS.out
      rwa [if_neg hk] at this
    clear hk HS
    by_cases hz : s.st = 0
    · have hs0 : (s.st == 0) = true := by simp [hz]
      clear hz hst3 hs1
      go_wp2
      rw [HWZ.out]
      clear r0 r1 r2 r3 r4 r5 t0 t1 t2 t3 t4 t5
      obtain ⟨⟨r0, r1, r2, r3, r4, r5⟩, -⟩ := HZZ.out.1.hex
      exact bodyPost_ret (v := .tuple #[stv (.slice a0 s.sg.length c0) (.slice a1 s.tm.length c1) s, .bool false]) (by simp [results, Tryd.results47, go_sem, r0, r1, r2, r3, r4, r5]) rfl HZZ.out.2
    · have hs0 : (s.st == 0) = false := by simp [hz]
      have hs2 : (s.st == 2) = true := by simp; omega
      clear hz hst3 hs1
      go_wp2
      rw [HWZ.out]
      clear r0 r1 r2 r3 r4 r5 t0 t1 t2 t3 t4 t5
      obtain ⟨⟨r0, r1, r2, r3, r4, r5⟩, -⟩ := HZZ.out.1.hex
      exact bodyPost_ret (v := .tuple #[stv (.slice a0 s.sg.length c0) (.slice a1 s.tm.length c1) s, .bool false]) (by simp [results, Tryd.results47, go_sem, r0, r1, r2, r3, r4, r5]) rfl HZZ.out.2
end Go.Proofs.YtfkeokglifpkoaaDoor

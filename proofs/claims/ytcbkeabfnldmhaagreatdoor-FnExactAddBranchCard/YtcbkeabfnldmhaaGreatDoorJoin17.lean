/-
  Texts that follow one another, joined: StK, StT, StT1.
-/
import Derived.Test.YtcbkeabfnldmhaaGreatDoorJoin16
import Derived.Test.YtcbkeabfnldmhaaGreatDoorJoin3
import Derived.Deep.RegionWith
import Derived.Deep.RegionLaw
import Derived.Deep.AppendLies
import Derived.Deep.Cut
/-
  What a good event does, by its kind, as a value of the program's interface: which type it has, when it may come.
-/
namespace Go.Proofs.YtcbkeabfnldmhaaGreatDoor
open Go.RowKit M
open Clk (upd upd_same upd_other)
open Go.Sort (grow)
theorem as1_1 (v : Value) (w : World) : (Instr.typeAssert (.iface 180 v) 158 180 true).run Tryz.prog w = .ok (.tuple #[v, .bool true]) w := by kernel_rfl
theorem as1_2 (v : Value) (w : World) : (Instr.typeAssert (.iface 180 v) 158 183 true).run Tryz.prog w = .ok (.tuple #[.agg #[.string ⟨#[]⟩], .bool false]) w := by kernel_rfl
theorem as1_3 (v : Value) (w : World) : (Instr.typeAssert (.iface 180 v) 158 185 true).run Tryz.prog w = .ok (.tuple #[.agg #[], .bool false]) w := by kernel_rfl
theorem as1_4 (v : Value) (w : World) : (Instr.typeAssert (.iface 180 v) 158 186 true).run Tryz.prog w = .ok (.tuple #[.agg #[.string ⟨#[]⟩], .bool false]) w := by kernel_rfl
theorem as1_5 (v : Value) (w : World) : (Instr.typeAssert (.iface 180 v) 158 188 true).run Tryz.prog w = .ok (.tuple #[.agg #[], .bool false]) w := by kernel_rfl
theorem as1_6 (v : Value) (w : World) : (Instr.typeAssert (.iface 180 v) 158 189 true).run Tryz.prog w = .ok (.tuple #[.agg #[], .bool false]) w := by kernel_rfl
theorem cm1 (w : World) : (method 319 180 (.agg #[]) "loop.example/g00269/impl.comesAt").run Tryz.prog w = .ok (194, .agg #[]) w := by kernel_rfl
theorem as2_1 (v : Value) (w : World) : (Instr.typeAssert (.iface 183 v) 158 180 true).run Tryz.prog w = .ok (.tuple #[.agg #[], .bool false]) w := by kernel_rfl
theorem as2_2 (v : Value) (w : World) : (Instr.typeAssert (.iface 183 v) 158 183 true).run Tryz.prog w = .ok (.tuple #[v, .bool true]) w := by kernel_rfl
theorem as2_3 (v : Value) (w : World) : (Instr.typeAssert (.iface 183 v) 158 185 true).run Tryz.prog w = .ok (.tuple #[.agg #[], .bool false]) w := by kernel_rfl
theorem as2_4 (v : Value) (w : World) : (Instr.typeAssert (.iface 183 v) 158 186 true).run Tryz.prog w = .ok (.tuple #[.agg #[.string ⟨#[]⟩], .bool false]) w := by kernel_rfl
theorem as2_5 (v : Value) (w : World) : (Instr.typeAssert (.iface 183 v) 158 188 true).run Tryz.prog w = .ok (.tuple #[.agg #[], .bool false]) w := by kernel_rfl
theorem as2_6 (v : Value) (w : World) : (Instr.typeAssert (.iface 183 v) 158 189 true).run Tryz.prog w = .ok (.tuple #[.agg #[], .bool false]) w := by kernel_rfl
theorem cm2 (x : ByteArray) (w : World) : (method 319 183 (.agg #[.string x]) "loop.example/g00269/impl.comesAt").run Tryz.prog w = .ok (195, .agg #[]) w := by kernel_rfl
theorem as3_1 (v : Value) (w : World) : (Instr.typeAssert (.iface 185 v) 158 180 true).run Tryz.prog w = .ok (.tuple #[.agg #[], .bool false]) w := by kernel_rfl
theorem as3_2 (v : Value) (w : World) : (Instr.typeAssert (.iface 185 v) 158 183 true).run Tryz.prog w = .ok (.tuple #[.agg #[.string ⟨#[]⟩], .bool false]) w := by kernel_rfl
theorem as3_3 (v : Value) (w : World) : (Instr.typeAssert (.iface 185 v) 158 185 true).run Tryz.prog w = .ok (.tuple #[v, .bool true]) w := by kernel_rfl
theorem as3_4 (v : Value) (w : World) : (Instr.typeAssert (.iface 185 v) 158 186 true).run Tryz.prog w = .ok (.tuple #[.agg #[.string ⟨#[]⟩], .bool false]) w := by kernel_rfl
theorem as3_5 (v : Value) (w : World) : (Instr.typeAssert (.iface 185 v) 158 188 true).run Tryz.prog w = .ok (.tuple #[.agg #[], .bool false]) w := by kernel_rfl
theorem as3_6 (v : Value) (w : World) : (Instr.typeAssert (.iface 185 v) 158 189 true).run Tryz.prog w = .ok (.tuple #[.agg #[], .bool false]) w := by kernel_rfl
theorem cm3 (w : World) : (method 319 185 (.agg #[]) "loop.example/g00269/impl.comesAt").run Tryz.prog w = .ok (195, .agg #[]) w := by kernel_rfl
theorem as4_1 (v : Value) (w : World) : (Instr.typeAssert (.iface 186 v) 158 180 true).run Tryz.prog w = .ok (.tuple #[.agg #[], .bool false]) w := by kernel_rfl
theorem as4_2 (v : Value) (w : World) : (Instr.typeAssert (.iface 186 v) 158 183 true).run Tryz.prog w = .ok (.tuple #[.agg #[.string ⟨#[]⟩], .bool false]) w := by kernel_rfl
theorem as4_3 (v : Value) (w : World) : (Instr.typeAssert (.iface 186 v) 158 185 true).run Tryz.prog w = .ok (.tuple #[.agg #[], .bool false]) w := by kernel_rfl
theorem as4_4 (v : Value) (w : World) : (Instr.typeAssert (.iface 186 v) 158 186 true).run Tryz.prog w = .ok (.tuple #[v, .bool true]) w := by kernel_rfl
theorem as4_5 (v : Value) (w : World) : (Instr.typeAssert (.iface 186 v) 158 188 true).run Tryz.prog w = .ok (.tuple #[.agg #[], .bool false]) w := by kernel_rfl
theorem as4_6 (v : Value) (w : World) : (Instr.typeAssert (.iface 186 v) 158 189 true).run Tryz.prog w = .ok (.tuple #[.agg #[], .bool false]) w := by kernel_rfl
theorem cm4 (x : ByteArray) (w : World) : (method 319 186 (.agg #[.string x]) "loop.example/g00269/impl.comesAt").run Tryz.prog w = .ok (195, .agg #[]) w := by kernel_rfl
theorem as5_1 (v : Value) (w : World) : (Instr.typeAssert (.iface 188 v) 158 180 true).run Tryz.prog w = .ok (.tuple #[.agg #[], .bool false]) w := by kernel_rfl
theorem as5_2 (v : Value) (w : World) : (Instr.typeAssert (.iface 188 v) 158 183 true).run Tryz.prog w = .ok (.tuple #[.agg #[.string ⟨#[]⟩], .bool false]) w := by kernel_rfl
theorem as5_3 (v : Value) (w : World) : (Instr.typeAssert (.iface 188 v) 158 185 true).run Tryz.prog w = .ok (.tuple #[.agg #[], .bool false]) w := by kernel_rfl
theorem as5_4 (v : Value) (w : World) : (Instr.typeAssert (.iface 188 v) 158 186 true).run Tryz.prog w = .ok (.tuple #[.agg #[.string ⟨#[]⟩], .bool false]) w := by kernel_rfl
theorem as5_5 (v : Value) (w : World) : (Instr.typeAssert (.iface 188 v) 158 188 true).run Tryz.prog w = .ok (.tuple #[v, .bool true]) w := by kernel_rfl
theorem as5_6 (v : Value) (w : World) : (Instr.typeAssert (.iface 188 v) 158 189 true).run Tryz.prog w = .ok (.tuple #[.agg #[], .bool false]) w := by kernel_rfl
theorem cm5 (w : World) : (method 319 188 (.agg #[]) "loop.example/g00269/impl.comesAt").run Tryz.prog w = .ok (195, .agg #[]) w := by kernel_rfl
theorem as6_1 (v : Value) (w : World) : (Instr.typeAssert (.iface 189 v) 158 180 true).run Tryz.prog w = .ok (.tuple #[.agg #[], .bool false]) w := by kernel_rfl
theorem as6_2 (v : Value) (w : World) : (Instr.typeAssert (.iface 189 v) 158 183 true).run Tryz.prog w = .ok (.tuple #[.agg #[.string ⟨#[]⟩], .bool false]) w := by kernel_rfl
theorem as6_3 (v : Value) (w : World) : (Instr.typeAssert (.iface 189 v) 158 185 true).run Tryz.prog w = .ok (.tuple #[.agg #[], .bool false]) w := by kernel_rfl
theorem as6_4 (v : Value) (w : World) : (Instr.typeAssert (.iface 189 v) 158 186 true).run Tryz.prog w = .ok (.tuple #[.agg #[.string ⟨#[]⟩], .bool false]) w := by kernel_rfl
theorem as6_5 (v : Value) (w : World) : (Instr.typeAssert (.iface 189 v) 158 188 true).run Tryz.prog w = .ok (.tuple #[.agg #[], .bool false]) w := by kernel_rfl
theorem as6_6 (v : Value) (w : World) : (Instr.typeAssert (.iface 189 v) 158 189 true).run Tryz.prog w = .ok (.tuple #[v, .bool true]) w := by kernel_rfl
theorem cm6 (w : World) : (method 319 189 (.agg #[]) "loop.example/g00269/impl.comesAt").run Tryz.prog w = .ok (195, .agg #[]) w := by kernel_rfl
theorem comes1 (w : World) : Calls Tryz.prog 194 #[.agg #[]] w fun e w' => e = .returned (.int .i64 0) ∧ Below w.heap.size w w' := by
  have hb := (Below.refl w.heap.size w).alloc (Nat.le_refl _)
  go_enter Tryz.func194, Tryz.ntmps194
  go_wp2
  go_ret
  exact ⟨rfl, by first | exact Below.refl _ _ | exact hb _⟩
theorem comes2 (w : World) : Calls Tryz.prog 195 #[.agg #[]] w fun e w' => e = .returned (.int .i64 1) ∧ Below w.heap.size w w' := by
  have hb := (Below.refl w.heap.size w).alloc (Nat.le_refl _)
  go_enter Tryz.func195, Tryz.ntmps195
  go_wp2
  go_ret
  exact ⟨rfl, by first | exact Below.refl _ _ | exact hb _⟩
namespace M
/-- The value that stands for a good event of kind k with the name x. -/
def hv (k : Int) (x : ByteArray) : Value :=
  if k = 1 then .iface 180 (.agg #[]) else if k = 2 then .iface 183 (.agg #[.string x]) else if k = 3 then .iface 185 (.agg #[]) else if k = 4 then .iface 186 (.agg #[.string x]) else if k = 5 then .iface 188 (.agg #[]) else .iface 189 (.agg #[])
end M
theorem hap1 (I V : Int) (x : ByteArray) (w : World) (hx : x.size ≤ 12) :
    Calls Tryz.prog 132 #[ev I V 1 x] w fun e w' => e = .returned (hv 1 x) ∧ Below w.heap.size w w' := by
  have hbA := (Below.refl w.heap.size w).alloc (Nat.le_refl _) (.cells #[.int .i64 I, .int .i64 V, .int .i64 1, .string x] 68)
  have hbx : x.size ≤ 281474976710656 := by omega
  have HB := hide (show Blk (w.alloc (.cells #[.int .i64 I, .int .i64 V, .int .i64 1, .string x] 68)) w.heap.size 4 (fun i => if i = 0 then .int .i64 I else if i = 1 then .int .i64 V else if i = 2 then .int .i64 1 else .string x) 68 from Blk.fresh w _ 4 _ _ rfl)
  go_enter Tryz.func132, Tryz.ntmps132
  go_wp2_with fail
  refine (clone_s x _ hbx).mono ?_
  rintro e w1 ⟨rfl, hb⟩
  have hb1 := hbA.trans (hb.mono hbA.size)
  have d2 := (HB.out.down hb).cell (show 2 < 4 by omega)
  simp at d2
  clear hb hbA HB
  go_wp2
  go_ret
  exact ⟨rfl, hb1⟩
theorem hap2 (I V : Int) (x : ByteArray) (w : World) (hx : x.size ≤ 12) :
    Calls Tryz.prog 132 #[ev I V 2 x] w fun e w' => e = .returned (hv 2 x) ∧ Below w.heap.size w w' := by
  have hbA := (Below.refl w.heap.size w).alloc (Nat.le_refl _) (.cells #[.int .i64 I, .int .i64 V, .int .i64 2, .string x] 68)
  have hbx : x.size ≤ 281474976710656 := by omega
  have HB := hide (show Blk (w.alloc (.cells #[.int .i64 I, .int .i64 V, .int .i64 2, .string x] 68)) w.heap.size 4 (fun i => if i = 0 then .int .i64 I else if i = 1 then .int .i64 V else if i = 2 then .int .i64 2 else .string x) 68 from Blk.fresh w _ 4 _ _ rfl)
  go_enter Tryz.func132, Tryz.ntmps132
  go_wp2_with fail
  refine (clone_s x _ hbx).mono ?_
  rintro e w1 ⟨rfl, hb⟩
  have hb1 := hbA.trans (hb.mono hbA.size)
  have d2 := (HB.out.down hb).cell (show 2 < 4 by omega)
  simp at d2
  clear hb hbA HB
  go_wp2
  go_ret
  exact ⟨rfl, hb1⟩
theorem hap3 (I V : Int) (x : ByteArray) (w : World) (hx : x.size ≤ 12) :
    Calls Tryz.prog 132 #[ev I V 3 x] w fun e w' => e = .returned (hv 3 x) ∧ Below w.heap.size w w' := by
  have hbA := (Below.refl w.heap.size w).alloc (Nat.le_refl _) (.cells #[.int .i64 I, .int .i64 V, .int .i64 3, .string x] 68)
  have hbx : x.size ≤ 281474976710656 := by omega
  have HB := hide (show Blk (w.alloc (.cells #[.int .i64 I, .int .i64 V, .int .i64 3, .string x] 68)) w.heap.size 4 (fun i => if i = 0 then .int .i64 I else if i = 1 then .int .i64 V else if i = 2 then .int .i64 3 else .string x) 68 from Blk.fresh w _ 4 _ _ rfl)
  go_enter Tryz.func132, Tryz.ntmps132
  go_wp2_with fail
  refine (clone_s x _ hbx).mono ?_
  rintro e w1 ⟨rfl, hb⟩
  have hb1 := hbA.trans (hb.mono hbA.size)
  have d2 := (HB.out.down hb).cell (show 2 < 4 by omega)
  simp at d2
  clear hb hbA HB
  go_wp2
  go_ret
  exact ⟨rfl, hb1⟩
theorem hap4 (I V : Int) (x : ByteArray) (w : World) (hx : x.size ≤ 12) :
    Calls Tryz.prog 132 #[ev I V 4 x] w fun e w' => e = .returned (hv 4 x) ∧ Below w.heap.size w w' := by
  have hbA := (Below.refl w.heap.size w).alloc (Nat.le_refl _) (.cells #[.int .i64 I, .int .i64 V, .int .i64 4, .string x] 68)
  have hbx : x.size ≤ 281474976710656 := by omega
  have HB := hide (show Blk (w.alloc (.cells #[.int .i64 I, .int .i64 V, .int .i64 4, .string x] 68)) w.heap.size 4 (fun i => if i = 0 then .int .i64 I else if i = 1 then .int .i64 V else if i = 2 then .int .i64 4 else .string x) 68 from Blk.fresh w _ 4 _ _ rfl)
  go_enter Tryz.func132, Tryz.ntmps132
  go_wp2_with fail
  refine (clone_s x _ hbx).mono ?_
  rintro e w1 ⟨rfl, hb⟩
  have hb1 := hbA.trans (hb.mono hbA.size)
  have d2 := (HB.out.down hb).cell (show 2 < 4 by omega)
  simp at d2
  clear hb hbA HB
  go_wp2
  go_ret
  exact ⟨rfl, hb1⟩
theorem hap5 (I V : Int) (x : ByteArray) (w : World) (hx : x.size ≤ 12) :
    Calls Tryz.prog 132 #[ev I V 5 x] w fun e w' => e = .returned (hv 5 x) ∧ Below w.heap.size w w' := by
  have hbA := (Below.refl w.heap.size w).alloc (Nat.le_refl _) (.cells #[.int .i64 I, .int .i64 V, .int .i64 5, .string x] 68)
  have hbx : x.size ≤ 281474976710656 := by omega
  have HB := hide (show Blk (w.alloc (.cells #[.int .i64 I, .int .i64 V, .int .i64 5, .string x] 68)) w.heap.size 4 (fun i => if i = 0 then .int .i64 I else if i = 1 then .int .i64 V else if i = 2 then .int .i64 5 else .string x) 68 from Blk.fresh w _ 4 _ _ rfl)
  go_enter Tryz.func132, Tryz.ntmps132
  go_wp2_with fail
  refine (clone_s x _ hbx).mono ?_
  rintro e w1 ⟨rfl, hb⟩
  have hb1 := hbA.trans (hb.mono hbA.size)
  have d2 := (HB.out.down hb).cell (show 2 < 4 by omega)
  simp at d2
  clear hb hbA HB
  go_wp2
  go_ret
  exact ⟨rfl, hb1⟩
theorem hap6 (I V : Int) (x : ByteArray) (w : World) (hx : x.size ≤ 12) :
    Calls Tryz.prog 132 #[ev I V 6 x] w fun e w' => e = .returned (hv 6 x) ∧ Below w.heap.size w w' := by
  have hbA := (Below.refl w.heap.size w).alloc (Nat.le_refl _) (.cells #[.int .i64 I, .int .i64 V, .int .i64 6, .string x] 68)
  have hbx : x.size ≤ 281474976710656 := by omega
  have HB := hide (show Blk (w.alloc (.cells #[.int .i64 I, .int .i64 V, .int .i64 6, .string x] 68)) w.heap.size 4 (fun i => if i = 0 then .int .i64 I else if i = 1 then .int .i64 V else if i = 2 then .int .i64 6 else .string x) 68 from Blk.fresh w _ 4 _ _ rfl)
  go_enter Tryz.func132, Tryz.ntmps132
  go_wp2_with fail
  refine (clone_s x _ hbx).mono ?_
  rintro e w1 ⟨rfl, hb⟩
  have hb1 := hbA.trans (hb.mono hbA.size)
  have d2 := (HB.out.down hb).cell (show 2 < 4 by omega)
  simp at d2
  clear hb hbA HB
  go_wp2
  go_ret
  exact ⟨rfl, hb1⟩
theorem happens (e : Ev) (w : World) (hk : 1 ≤ e.kind ∧ e.kind ≤ 6) (hx : e.name.size ≤ 12) :
    Calls Tryz.prog 132 #[ev e.id e.ver e.kind e.name] w fun e' w' => e' = .returned (hv e.kind e.name) ∧ Below w.heap.size w w' := by
  obtain ⟨I, V, k, x⟩ := e
  simp only at *
  rcases (show k = 1 ∨ k = 2 ∨ k = 3 ∨ k = 4 ∨ k = 5 ∨ k = 6 by omega) with rfl | rfl | rfl | rfl | rfl | rfl
  · exact hap1 I V x w hx
  · exact hap2 I V x w hx
  · exact hap3 I V x w hx
  · exact hap4 I V x w hx
  · exact hap5 I V x w hx
  · exact hap6 I V x w hx
end Go.Proofs.YtcbkeabfnldmhaaGreatDoor

/-
  What happens to a state in its box, kind by kind: it is taken where it may come, and then the box holds what it makes of the state.
-/
namespace Go.Proofs.YtcbkeabfnldmhaaGreatDoor
open Go.RowKit M
open Clk (upd upd_same upd_other)
open Go.Sort (grow)
namespace M
theorem SM.nil5 {w : World} {B g : Nat} {v0 v1 : Value} {s : St} (h : SM w B g v0 v1 s) : SM (w.setCell ⟨g, 5, none⟩ (.slice none 0 0)) B g v0 (.slice none 0 0) ⟨s.st, s.nx, s.ca, s.dn, s.sg, []⟩ :=
  ⟨h.box.hex5 _, (h.rows _ _).1, OwnT.nil _ _, fun g' _ e => (by cases e), h.lo⟩
theorem nm12 {r : Bool} {l : Txs} (h : Nms r l) : ∀ x ∈ l, x.size ≤ maxLen := fun x hx => by
  have := h.size x hx
  unfold maxLen; omega
theorem tog_mem {l : Txs} {x y : ByteArray} (h : y ∈ tog l x) : y = x ∨ y ∈ l := by
  unfold tog at h
  split at h
  · rcases List.mem_append.1 h with h | h
    · exact .inr (List.mem_of_mem_take h)
    · exact .inr (List.mem_of_mem_drop h)
  · rcases List.mem_append.1 h with h | h
    · exact .inr (List.mem_of_mem_take h)
    · rcases List.mem_cons.1 h with h | h
      · exact .inl h
      · exact .inr (List.mem_of_mem_drop h)
theorem news1' (w : World) (vb : Nat) (c : Value) (t : TypeId) (h : w.heap[vb]? = some (.cells #[c] t (0, 0))) : ∀ (j : Nat) u, [c][j]? = some u → w.cell? ((⟨vb, 0, none⟩ : Addr).add j) = some u := by
  intro j u hj
  match j, hj with
  | 0, hj => simp at hj; subst hj; simp [Addr.add, World.cell?, h]
theorem owns_same {w w' : World} {B e size n : Nat} {v : Value} {xs : List Value} (h : w.ownsRow B e size v n xs) (hh : w'.heap = w.heap) : w'.ownsRow B e size v n xs := ⟨h.1, by rw [hh]; exact h.2⟩
theorem gN_max {x : ByteArray} (h : gN x = true) : x.size ≤ maxLen := by
  have := gN_size h
  unfold maxLen; omega
theorem tog_nm {l : Txs} {x : ByteArray} (h : Nms true l) (hx : gN x = true) : ∀ y ∈ tog l x, y.size ≤ maxLen := fun y hy => by
  rcases tog_mem hy with hh | hh
  · rw [hh]; exact gN_max hx
  · exact nm12 h y hh
theorem snoc_nm {l : Txs} {x : ByteArray} (h : Nms false l) (hx : gN x = true) : ∀ y ∈ l ++ [x], y.size ≤ maxLen := fun y hy => by
  rcases List.mem_append.1 hy with hh | hh
  · exact nm12 h y hh
  · simp at hh; rw [hh]; exact gN_max hx
end M
end Go.Proofs.YtcbkeabfnldmhaaGreatDoor

/-
  What happens to a state in its box, at one kind.
-/
namespace Go.Proofs.YtcbkeabfnldmhaaGreatDoor
open Go.RowKit M
open Clk (upd upd_same upd_other)
open Go.Sort (grow)
set_option maxRecDepth 20000 in
set_option maxHeartbeats 8000000 in
theorem take1 (B g : Nat) (v0 v1 : Value) (s : St) (b : Bool) (w : World) (h : SM w B g v0 v1 s) (hs : GoodSt s) (hB : B ≤ w.heap.size) (hb : BP b (s.st = 0 ∧ GoodSt ⟨1, s.nx + 1, s.ca, s.dn, s.sg, s.tm⟩)) :
    Calls Tryz.prog 131 #[.pointer (some ⟨g, 0, none⟩), .iface 180 (.agg #[])] w fun e w' => e = .returned (.bool b) ∧ (b = true → ∃ u0 u1, SM w' B g u0 u1 ⟨1, s.nx + 1, s.ca, s.dn, s.sg, s.tm⟩) ∧ Below B w w' := by
  obtain ⟨a0, c0, rfl⟩ := h.o0.form
  obtain ⟨a1, c1, rfl⟩ := h.o1.form
  obtain ⟨⟨d0, d1, d2, d3, d4, d5⟩, f0, f1, f2, f3, f4, f5⟩ := h.box.hex
  have hcm := cm1
  have ha1 := as1_1
  have HM := hide h
  have HG := hide hs
  have HB := hide hb
  have e0 := fun wy (hb : Below w.drew.heap.size w.drew wy) => ((hb.cell (p := ⟨g, 0, none⟩) (show g < w.drew.heap.size from HM.out.box.lt)).trans (show w.drew.cell? ⟨g, 0, none⟩ = _ from d0))
  have HE0 := hide e0
  clear e0 h hs hb
  by_cases hst : s.st = 0
  case neg =>
    have hq : (s.st != 0) = true := by simp [hst]
    have HF := hide (HB.out.no (fun h => hst h.1))
    clear hst
    go_enter Tryz.func131, Tryz.ntmps131
    go_upto_region 1 with fail
    go_cut [17] from 11 (fun bb wx => bb = .bool true ∧ Hid (Below w.heap.size w wx))
    case first =>
      go_region_with (go_at_call 194; refine (comes1 _).mono ?_; rintro e wj ⟨rfl, hbj⟩; have m0 := HE0.out _ hbj)
      all_goals
        go_wp2_with fail
        go_meet
        exact ⟨rfl, hide ((Below.refl _ w).drew.trans hbj)⟩
    case rest =>
      rename World => wC
      obtain ⟨rfl, HC⟩ := hcut
      clear d0 d1 d2 d3 d4 d5 f0 f1 f2 f3 f4 f5 HM HE0 HB HG
      go_wp2
      go_ret
      exact ⟨ret_bool HF.out.symm, fun h => (by rw [HF.out] at h; cases h), HC.out.mono hB⟩
  have hq : (s.st != 0) = false := by simp [hst]
  have HST := hide hst
  clear hst
  obtain ⟨⟨hn1, hn2⟩, ⟨hd1, hd2⟩, hsg, htm, -⟩ := HG.out
  have HSG := hide hsg
  have HTM := hide htm
  have HSH := hide (show ShortT s from ⟨by have := hsg.1; omega, by have := htm.1; omega⟩)
  clear hsg htm
  go_enter Tryz.func131, Tryz.ntmps131
  go_upto_region 1 with fail
  go_cut [17] from 11 (fun bb wx => bb = .bool false ∧ Hid (SM wx B g (.slice a0 s.sg.length c0) (.slice a1 s.tm.length c1) s ∧ Below w.heap.size w wx))
  case first =>
    go_region_with (go_at_call 194; refine (comes1 _).mono ?_; rintro e wj ⟨rfl, hbj⟩; have m0 := HE0.out _ hbj)
    all_goals
      go_wp2_with fail
      go_meet
      exact ⟨rfl, hide ⟨HM.out.down ((Below.refl _ w).drew.trans hbj), (Below.refl _ w).drew.trans hbj⟩⟩
  case rest =>
    rename World => wC
    obtain ⟨rfl, HC⟩ := hcut
    clear d0 d1 d2 d3 d4 d5 f0 f1 f2 f3 f4 f5 HM HE0
    have hbC : Below B w wC := HC.out.2.mono hB
    have hBC : B ≤ wC.heap.size := Nat.le_trans hB hbC.size
    have HM := hide HC.out.1
    clear HC
    obtain ⟨⟨d0, d1, d2, d3, d4, d5⟩, f0, f1, f2, f3, f4, f5⟩ := HM.out.box.hex
    have hlo := HM.out.lo
    have hglt : g < wC.heap.size := HM.out.box.lt
    have HBG := hide (show BP b (GoodSt ⟨1, s.nx + 1, s.ca, s.dn, s.sg, s.tm⟩) from ⟨fun hh => (HB.out.1 hh).2, fun hh => HB.out.2 ⟨HST.out, hh⟩⟩)
    have HS := hide (((HM.out.set0 1).set1 (s.nx + 1)).down ((Below.refl _ _).alloc (Nat.le_refl _) (.cells #[] 180)))
    have HL := hide (((hbC.setCell (p := ⟨g, 0, none⟩) hlo (.int .i64 1)).setCell (p := ⟨g, 1, none⟩) hlo (.int .i64 (s.nx + 1))).alloc (by simp; omega) (.cells #[] 180))
    clear HM HB HST HG
    go_wp2_with fail
    refine (impl_goodSt _ _ (⟨1, s.nx + 1, s.ca, s.dn, s.sg, s.tm⟩ : St) b _ HS.out.c (show ShortT _ from HSH.out) (show NmT _ from ⟨nm12 HSG.out, nm12 HTM.out⟩) HBG.out).mono ?_
    rintro e w9 ⟨rfl, hb9⟩
    have HF := hide (show (∃ u0 u1, SM w9 B g u0 u1 ⟨1, s.nx + 1, s.ca, s.dn, s.sg, s.tm⟩) ∧ Below B w w9 from ⟨⟨_, _, HS.out.down hb9⟩, HL.out.trans (hb9.mono (Nat.le_trans hB HL.out.size))⟩)
    clear hb9
    go_wp2
    go_ret
    exact ⟨rfl, fun _ => HF.out.1, HF.out.2⟩
end Go.Proofs.YtcbkeabfnldmhaaGreatDoor

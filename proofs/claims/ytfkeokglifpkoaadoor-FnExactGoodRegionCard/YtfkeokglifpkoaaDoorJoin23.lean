/-
  Texts that follow one another, joined: StK, StT.
-/
import Derived.Test.YtfkeokglifpkoaaDoorJoin22
import Derived.Test.YtfkeokglifpkoaaDoorJoin3
import Derived.Deep.RegionWith
import Derived.Deep.RegionLaw
import Derived.Deep.AppendLies
import Derived.Deep.Cut
/-
  What a good event does, by its kind, as a value of the program's interface: which type it has, when it may come.
-/
namespace Go.Proofs.YtfkeokglifpkoaaDoor
open Go.RowKit M
open Clk (upd upd_same upd_other)
open Go.Sort (grow)
theorem as1_1 (v : Value) (w : World) : (Instr.typeAssert (.iface 109 v) 103 109 true).run Tryd.prog w = .ok (.tuple #[v, .bool true]) w := by kernel_rfl
theorem as1_2 (v : Value) (w : World) : (Instr.typeAssert (.iface 109 v) 103 112 true).run Tryd.prog w = .ok (.tuple #[.agg #[.string ⟨#[]⟩], .bool false]) w := by kernel_rfl
theorem as1_3 (v : Value) (w : World) : (Instr.typeAssert (.iface 109 v) 103 114 true).run Tryd.prog w = .ok (.tuple #[.agg #[], .bool false]) w := by kernel_rfl
theorem as1_4 (v : Value) (w : World) : (Instr.typeAssert (.iface 109 v) 103 115 true).run Tryd.prog w = .ok (.tuple #[.agg #[.string ⟨#[]⟩], .bool false]) w := by kernel_rfl
theorem as1_5 (v : Value) (w : World) : (Instr.typeAssert (.iface 109 v) 103 117 true).run Tryd.prog w = .ok (.tuple #[.agg #[], .bool false]) w := by kernel_rfl
theorem as1_6 (v : Value) (w : World) : (Instr.typeAssert (.iface 109 v) 103 118 true).run Tryd.prog w = .ok (.tuple #[.agg #[], .bool false]) w := by kernel_rfl
theorem cm1 (w : World) : (method 255 109 (.agg #[]) "loop.example/g00269/impl.comesAt").run Tryd.prog w = .ok (113, .agg #[]) w := by kernel_rfl
theorem as2_1 (v : Value) (w : World) : (Instr.typeAssert (.iface 112 v) 103 109 true).run Tryd.prog w = .ok (.tuple #[.agg #[], .bool false]) w := by kernel_rfl
theorem as2_2 (v : Value) (w : World) : (Instr.typeAssert (.iface 112 v) 103 112 true).run Tryd.prog w = .ok (.tuple #[v, .bool true]) w := by kernel_rfl
theorem as2_3 (v : Value) (w : World) : (Instr.typeAssert (.iface 112 v) 103 114 true).run Tryd.prog w = .ok (.tuple #[.agg #[], .bool false]) w := by kernel_rfl
theorem as2_4 (v : Value) (w : World) : (Instr.typeAssert (.iface 112 v) 103 115 true).run Tryd.prog w = .ok (.tuple #[.agg #[.string ⟨#[]⟩], .bool false]) w := by kernel_rfl
theorem as2_5 (v : Value) (w : World) : (Instr.typeAssert (.iface 112 v) 103 117 true).run Tryd.prog w = .ok (.tuple #[.agg #[], .bool false]) w := by kernel_rfl
theorem as2_6 (v : Value) (w : World) : (Instr.typeAssert (.iface 112 v) 103 118 true).run Tryd.prog w = .ok (.tuple #[.agg #[], .bool false]) w := by kernel_rfl
theorem cm2 (x : ByteArray) (w : World) : (method 255 112 (.agg #[.string x]) "loop.example/g00269/impl.comesAt").run Tryd.prog w = .ok (114, .agg #[]) w := by kernel_rfl
theorem as3_1 (v : Value) (w : World) : (Instr.typeAssert (.iface 114 v) 103 109 true).run Tryd.prog w = .ok (.tuple #[.agg #[], .bool false]) w := by kernel_rfl
theorem as3_2 (v : Value) (w : World) : (Instr.typeAssert (.iface 114 v) 103 112 true).run Tryd.prog w = .ok (.tuple #[.agg #[.string ⟨#[]⟩], .bool false]) w := by kernel_rfl
theorem as3_3 (v : Value) (w : World) : (Instr.typeAssert (.iface 114 v) 103 114 true).run Tryd.prog w = .ok (.tuple #[v, .bool true]) w := by kernel_rfl
theorem as3_4 (v : Value) (w : World) : (Instr.typeAssert (.iface 114 v) 103 115 true).run Tryd.prog w = .ok (.tuple #[.agg #[.string ⟨#[]⟩], .bool false]) w := by kernel_rfl
theorem as3_5 (v : Value) (w : World) : (Instr.typeAssert (.iface 114 v) 103 117 true).run Tryd.prog w = .ok (.tuple #[.agg #[], .bool false]) w := by kernel_rfl
theorem as3_6 (v : Value) (w : World) : (Instr.typeAssert (.iface 114 v) 103 118 true).run Tryd.prog w = .ok (.tuple #[.agg #[], .bool false]) w := by kernel_rfl
theorem cm3 (w : World) : (method 255 114 (.agg #[]) "loop.example/g00269/impl.comesAt").run Tryd.prog w = .ok (114, .agg #[]) w := by kernel_rfl
theorem as4_1 (v : Value) (w : World) : (Instr.typeAssert (.iface 115 v) 103 109 true).run Tryd.prog w = .ok (.tuple #[.agg #[], .bool false]) w := by kernel_rfl
theorem as4_2 (v : Value) (w : World) : (Instr.typeAssert (.iface 115 v) 103 112 true).run Tryd.prog w = .ok (.tuple #[.agg #[.string ⟨#[]⟩], .bool false]) w := by kernel_rfl
theorem as4_3 (v : Value) (w : World) : (Instr.typeAssert (.iface 115 v) 103 114 true).run Tryd.prog w = .ok (.tuple #[.agg #[], .bool false]) w := by kernel_rfl
theorem as4_4 (v : Value) (w : World) : (Instr.typeAssert (.iface 115 v) 103 115 true).run Tryd.prog w = .ok (.tuple #[v, .bool true]) w := by kernel_rfl
theorem as4_5 (v : Value) (w : World) : (Instr.typeAssert (.iface 115 v) 103 117 true).run Tryd.prog w = .ok (.tuple #[.agg #[], .bool false]) w := by kernel_rfl
theorem as4_6 (v : Value) (w : World) : (Instr.typeAssert (.iface 115 v) 103 118 true).run Tryd.prog w = .ok (.tuple #[.agg #[], .bool false]) w := by kernel_rfl
theorem cm4 (x : ByteArray) (w : World) : (method 255 115 (.agg #[.string x]) "loop.example/g00269/impl.comesAt").run Tryd.prog w = .ok (114, .agg #[]) w := by kernel_rfl
theorem as5_1 (v : Value) (w : World) : (Instr.typeAssert (.iface 117 v) 103 109 true).run Tryd.prog w = .ok (.tuple #[.agg #[], .bool false]) w := by kernel_rfl
theorem as5_2 (v : Value) (w : World) : (Instr.typeAssert (.iface 117 v) 103 112 true).run Tryd.prog w = .ok (.tuple #[.agg #[.string ⟨#[]⟩], .bool false]) w := by kernel_rfl
theorem as5_3 (v : Value) (w : World) : (Instr.typeAssert (.iface 117 v) 103 114 true).run Tryd.prog w = .ok (.tuple #[.agg #[], .bool false]) w := by kernel_rfl
theorem as5_4 (v : Value) (w : World) : (Instr.typeAssert (.iface 117 v) 103 115 true).run Tryd.prog w = .ok (.tuple #[.agg #[.string ⟨#[]⟩], .bool false]) w := by kernel_rfl
theorem as5_5 (v : Value) (w : World) : (Instr.typeAssert (.iface 117 v) 103 117 true).run Tryd.prog w = .ok (.tuple #[v, .bool true]) w := by kernel_rfl
theorem as5_6 (v : Value) (w : World) : (Instr.typeAssert (.iface 117 v) 103 118 true).run Tryd.prog w = .ok (.tuple #[.agg #[], .bool false]) w := by kernel_rfl
theorem cm5 (w : World) : (method 255 117 (.agg #[]) "loop.example/g00269/impl.comesAt").run Tryd.prog w = .ok (114, .agg #[]) w := by kernel_rfl
theorem as6_1 (v : Value) (w : World) : (Instr.typeAssert (.iface 118 v) 103 109 true).run Tryd.prog w = .ok (.tuple #[.agg #[], .bool false]) w := by kernel_rfl
theorem as6_2 (v : Value) (w : World) : (Instr.typeAssert (.iface 118 v) 103 112 true).run Tryd.prog w = .ok (.tuple #[.agg #[.string ⟨#[]⟩], .bool false]) w := by kernel_rfl
theorem as6_3 (v : Value) (w : World) : (Instr.typeAssert (.iface 118 v) 103 114 true).run Tryd.prog w = .ok (.tuple #[.agg #[], .bool false]) w := by kernel_rfl
theorem as6_4 (v : Value) (w : World) : (Instr.typeAssert (.iface 118 v) 103 115 true).run Tryd.prog w = .ok (.tuple #[.agg #[.string ⟨#[]⟩], .bool false]) w := by kernel_rfl
theorem as6_5 (v : Value) (w : World) : (Instr.typeAssert (.iface 118 v) 103 117 true).run Tryd.prog w = .ok (.tuple #[.agg #[], .bool false]) w := by kernel_rfl
theorem as6_6 (v : Value) (w : World) : (Instr.typeAssert (.iface 118 v) 103 118 true).run Tryd.prog w = .ok (.tuple #[v, .bool true]) w := by kernel_rfl
theorem cm6 (w : World) : (method 255 118 (.agg #[]) "loop.example/g00269/impl.comesAt").run Tryd.prog w = .ok (114, .agg #[]) w := by kernel_rfl
theorem comes1 (w : World) : Calls Tryd.prog 113 #[.agg #[]] w fun e w' => e = .returned (.int .i64 0) ∧ Below w.heap.size w w' := by
  have hb := (Below.refl w.heap.size w).alloc (Nat.le_refl _)
  go_enter Tryd.func113, Tryd.ntmps113
  go_wp2
  go_ret
  exact ⟨rfl, by first | exact Below.refl _ _ | exact hb _⟩
theorem comes2 (w : World) : Calls Tryd.prog 114 #[.agg #[]] w fun e w' => e = .returned (.int .i64 1) ∧ Below w.heap.size w w' := by
  have hb := (Below.refl w.heap.size w).alloc (Nat.le_refl _)
  go_enter Tryd.func114, Tryd.ntmps114
  go_wp2
  go_ret
  exact ⟨rfl, by first | exact Below.refl _ _ | exact hb _⟩
namespace M
/-- The value that stands for a good event of kind k with the name x. -/
def hv (k : Int) (x : ByteArray) : Value :=
  if k = 1 then .iface 109 (.agg #[]) else if k = 2 then .iface 112 (.agg #[.string x]) else if k = 3 then .iface 114 (.agg #[]) else if k = 4 then .iface 115 (.agg #[.string x]) else if k = 5 then .iface 117 (.agg #[]) else .iface 118 (.agg #[])
end M
theorem hap1 (I V : Int) (x : ByteArray) (w : World) (hx : x.size ≤ 12) :
    Calls Tryd.prog 67 #[ev I V 1 x] w fun e w' => e = .returned (hv 1 x) ∧ Below w.heap.size w w' := by
  have hbA := (Below.refl w.heap.size w).alloc (Nat.le_refl _) (.cells #[.int .i64 I, .int .i64 V, .int .i64 1, .string x] 45)
  have hbx : x.size ≤ 281474976710656 := by omega
  have HB := hide (show Blk (w.alloc (.cells #[.int .i64 I, .int .i64 V, .int .i64 1, .string x] 45)) w.heap.size 4 (fun i => if i = 0 then .int .i64 I else if i = 1 then .int .i64 V else if i = 2 then .int .i64 1 else .string x) 45 from Blk.fresh w _ 4 _ _ rfl)
  go_enter Tryd.func67, Tryd.ntmps67
  go_wp2_with fail
  refine (clone_s x _ hbx).mono ?_
  rintro e w1 ⟨rfl, hb⟩
  have hb1 := hbA.trans (hb.mono hbA.size)
  have d2 := (HB.out.down hb).cell (show 2 < 4 by omega)
  simp at d2
  clear hb hbA HB
  go_wp2
  go_ret
  exact ⟨rfl, hb1⟩
theorem hap2 (I V : Int) (x : ByteArray) (w : World) (hx : x.size ≤ 12) :
    Calls Tryd.prog 67 #[ev I V 2 x] w fun e w' => e = .returned (hv 2 x) ∧ Below w.heap.size w w' := by
  have hbA := (Below.refl w.heap.size w).alloc (Nat.le_refl _) (.cells #[.int .i64 I, .int .i64 V, .int .i64 2, .string x] 45)
  have hbx : x.size ≤ 281474976710656 := by omega
  have HB := hide (show Blk (w.alloc (.cells #[.int .i64 I, .int .i64 V, .int .i64 2, .string x] 45)) w.heap.size 4 (fun i => if i = 0 then .int .i64 I else if i = 1 then .int .i64 V else if i = 2 then .int .i64 2 else .string x) 45 from Blk.fresh w _ 4 _ _ rfl)
  go_enter Tryd.func67, Tryd.ntmps67
  go_wp2_with fail
  refine (clone_s x _ hbx).mono ?_
  rintro e w1 ⟨rfl, hb⟩
  have hb1 := hbA.trans (hb.mono hbA.size)
  have d2 := (HB.out.down hb).cell (show 2 < 4 by omega)
  simp at d2
  clear hb hbA HB
  go_wp2
  go_ret
  exact ⟨rfl, hb1⟩
theorem hap3 (I V : Int) (x : ByteArray) (w : World) (hx : x.size ≤ 12) :
    Calls Tryd.prog 67 #[ev I V 3 x] w fun e w' => e = .returned (hv 3 x) ∧ Below w.heap.size w w' := by
  have hbA := (Below.refl w.heap.size w).alloc (Nat.le_refl _) (.cells #[.int .i64 I, .int .i64 V, .int .i64 3, .string x] 45)
  have hbx : x.size ≤ 281474976710656 := by omega
  have HB := hide (show Blk (w.alloc (.cells #[.int .i64 I, .int .i64 V, .int .i64 3, .string x] 45)) w.heap.size 4 (fun i => if i = 0 then .int .i64 I else if i = 1 then .int .i64 V else if i = 2 then .int .i64 3 else .string x) 45 from Blk.fresh w _ 4 _ _ rfl)
  go_enter Tryd.func67, Tryd.ntmps67
  go_wp2_with fail
  refine (clone_s x _ hbx).mono ?_
  rintro e w1 ⟨rfl, hb⟩
  have hb1 := hbA.trans (hb.mono hbA.size)
  have d2 := (HB.out.down hb).cell (show 2 < 4 by omega)
  simp at d2
  clear hb hbA HB
  go_wp2
  go_ret
  exact ⟨rfl, hb1⟩
theorem hap4 (I V : Int) (x : ByteArray) (w : World) (hx : x.size ≤ 12) :
    Calls Tryd.prog 67 #[ev I V 4 x] w fun e w' => e = .returned (hv 4 x) ∧ Below w.heap.size w w' := by
  have hbA := (Below.refl w.heap.size w).alloc (Nat.le_refl _) (.cells #[.int .i64 I, .int .i64 V, .int .i64 4, .string x] 45)
  have hbx : x.size ≤ 281474976710656 := by omega
  have HB := hide (show Blk (w.alloc (.cells #[.int .i64 I, .int .i64 V, .int .i64 4, .string x] 45)) w.heap.size 4 (fun i => if i = 0 then .int .i64 I else if i = 1 then .int .i64 V else if i = 2 then .int .i64 4 else .string x) 45 from Blk.fresh w _ 4 _ _ rfl)
  go_enter Tryd.func67, Tryd.ntmps67
  go_wp2_with fail
  refine (clone_s x _ hbx).mono ?_
  rintro e w1 ⟨rfl, hb⟩
  have hb1 := hbA.trans (hb.mono hbA.size)
  have d2 := (HB.out.down hb).cell (show 2 < 4 by omega)
  simp at d2
  clear hb hbA HB
  go_wp2
  go_ret
  exact ⟨rfl, hb1⟩
theorem hap5 (I V : Int) (x : ByteArray) (w : World) (hx : x.size ≤ 12) :
    Calls Tryd.prog 67 #[ev I V 5 x] w fun e w' => e = .returned (hv 5 x) ∧ Below w.heap.size w w' := by
  have hbA := (Below.refl w.heap.size w).alloc (Nat.le_refl _) (.cells #[.int .i64 I, .int .i64 V, .int .i64 5, .string x] 45)
  have hbx : x.size ≤ 281474976710656 := by omega
  have HB := hide (show Blk (w.alloc (.cells #[.int .i64 I, .int .i64 V, .int .i64 5, .string x] 45)) w.heap.size 4 (fun i => if i = 0 then .int .i64 I else if i = 1 then .int .i64 V else if i = 2 then .int .i64 5 else .string x) 45 from Blk.fresh w _ 4 _ _ rfl)
  go_enter Tryd.func67, Tryd.ntmps67
  go_wp2_with fail
  refine (clone_s x _ hbx).mono ?_
  rintro e w1 ⟨rfl, hb⟩
  have hb1 := hbA.trans (hb.mono hbA.size)
  have d2 := (HB.out.down hb).cell (show 2 < 4 by omega)
  simp at d2
  clear hb hbA HB
  go_wp2
  go_ret
  exact ⟨rfl, hb1⟩
theorem hap6 (I V : Int) (x : ByteArray) (w : World) (hx : x.size ≤ 12) :
    Calls Tryd.prog 67 #[ev I V 6 x] w fun e w' => e = .returned (hv 6 x) ∧ Below w.heap.size w w' := by
  have hbA := (Below.refl w.heap.size w).alloc (Nat.le_refl _) (.cells #[.int .i64 I, .int .i64 V, .int .i64 6, .string x] 45)
  have hbx : x.size ≤ 281474976710656 := by omega
  have HB := hide (show Blk (w.alloc (.cells #[.int .i64 I, .int .i64 V, .int .i64 6, .string x] 45)) w.heap.size 4 (fun i => if i = 0 then .int .i64 I else if i = 1 then .int .i64 V else if i = 2 then .int .i64 6 else .string x) 45 from Blk.fresh w _ 4 _ _ rfl)
  go_enter Tryd.func67, Tryd.ntmps67
  go_wp2_with fail
  refine (clone_s x _ hbx).mono ?_
  rintro e w1 ⟨rfl, hb⟩
  have hb1 := hbA.trans (hb.mono hbA.size)
  have d2 := (HB.out.down hb).cell (show 2 < 4 by omega)
  simp at d2
  clear hb hbA HB
  go_wp2
  go_ret
  exact ⟨rfl, hb1⟩
theorem happens (e : Ev) (w : World) (hk : 1 ≤ e.kind ∧ e.kind ≤ 6) (hx : e.name.size ≤ 12) :
    Calls Tryd.prog 67 #[ev e.id e.ver e.kind e.name] w fun e' w' => e' = .returned (hv e.kind e.name) ∧ Below w.heap.size w w' := by
  obtain ⟨I, V, k, x⟩ := e
  simp only at *
  rcases (show k = 1 ∨ k = 2 ∨ k = 3 ∨ k = 4 ∨ k = 5 ∨ k = 6 by omega) with rfl | rfl | rfl | rfl | rfl | rfl
  · exact hap1 I V x w hx
  · exact hap2 I V x w hx
  · exact hap3 I V x w hx
  · exact hap4 I V x w hx
  · exact hap5 I V x w hx
  · exact hap6 I V x w hx
end Go.Proofs.YtfkeokglifpkoaaDoor

/-
  What happens to a state in its box, kind by kind: it is taken where it may come, and then the box holds what it makes of the state.
-/
namespace Go.Proofs.YtfkeokglifpkoaaDoor
open Go.RowKit M
open Clk (upd upd_same upd_other)
open Go.Sort (grow)
namespace M
theorem SM.nil5 {w : World} {B g : Nat} {v0 v1 : Value} {s : St} (h : SM w B g v0 v1 s) : SM (w.setCell ⟨g, 5, none⟩ (.slice none 0 0)) B g v0 (.slice none 0 0) ⟨s.st, s.nx, s.ca, s.dn, s.sg, []⟩ :=
  ⟨h.box.hex5 _, (h.rows _ _).1, OwnT.nil _ _, fun g' _ e => (by cases e), h.lo⟩
theorem nm12 {r : Bool} {l : Txs} (h : Nms r l) : ∀ x ∈ l, x.size ≤ maxLen := fun x hx => by
  have := h.size x hx
  unfold maxLen; omega
theorem tog_mem {l : Txs} {x y : ByteArray} (h : y ∈ tog l x) : y = x ∨ y ∈ l := by
  unfold tog at h
  split at h
  · rcases List.mem_append.1 h with h | h
    · exact .inr (List.mem_of_mem_take h)
    · exact .inr (List.mem_of_mem_drop h)
  · rcases List.mem_append.1 h with h | h
    · exact .inr (List.mem_of_mem_take h)
    · rcases List.mem_cons.1 h with h | h
      · exact .inl h
      · exact .inr (List.mem_of_mem_drop h)
theorem news1' (w : World) (vb : Nat) (c : Value) (t : TypeId) (h : w.heap[vb]? = some (.cells #[c] t (0, 0))) : ∀ (j : Nat) u, [c][j]? = some u → w.cell? ((⟨vb, 0, none⟩ : Addr).add j) = some u := by
  intro j u hj
  match j, hj with
  | 0, hj => simp at hj; subst hj; simp [Addr.add, World.cell?, h]
theorem owns_same {w w' : World} {B e size n : Nat} {v : Value} {xs : List Value} (h : w.ownsRow B e size v n xs) (hh : w'.heap = w.heap) : w'.ownsRow B e size v n xs := ⟨h.1, by rw [hh]; exact h.2⟩
theorem gN_max {x : ByteArray} (h : gN x = true) : x.size ≤ maxLen := by
  have := gN_size h
  unfold maxLen; omega
theorem tog_nm {l : Txs} {x : ByteArray} (h : Nms true l) (hx : gN x = true) : ∀ y ∈ tog l x, y.size ≤ maxLen := fun y hy => by
  rcases tog_mem hy with hh | hh
  · rw [hh]; exact gN_max hx
  · exact nm12 h y hh
theorem snoc_nm {l : Txs} {x : ByteArray} (h : Nms false l) (hx : gN x = true) : ∀ y ∈ l ++ [x], y.size ≤ maxLen := fun y hy => by
  rcases List.mem_append.1 hy with hh | hh
  · exact nm12 h y hh
  · simp at hh; rw [hh]; exact gN_max hx
end M
end Go.Proofs.YtfkeokglifpkoaaDoor

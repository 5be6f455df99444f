/-
  What a good event does, by its kind, as a value of the program's interface: which type it has, when it may come.
-/
import Derived.Test.YtjgopjnkkhkcnaaGreatDoorStJ
import Derived.Test.YtjgopjnkkhkcnaaGreatDoorStM
namespace Go.Proofs.YtjgopjnkkhkcnaaGreatDoor
open Go.RowKit M
open Clk (upd upd_same upd_other)
open Go.Sort (grow)
theorem as1_1 (v : Value) (w : World) : (Instr.typeAssert (.iface 313 v) 270 313 true).run Tryz.prog w = .ok (.tuple #[v, .bool true]) w := by kernel_rfl
theorem as1_2 (v : Value) (w : World) : (Instr.typeAssert (.iface 313 v) 270 316 true).run Tryz.prog w = .ok (.tuple #[.agg #[.string ⟨#[]⟩], .bool false]) w := by kernel_rfl
theorem as1_3 (v : Value) (w : World) : (Instr.typeAssert (.iface 313 v) 270 318 true).run Tryz.prog w = .ok (.tuple #[.agg #[], .bool false]) w := by kernel_rfl
theorem as1_4 (v : Value) (w : World) : (Instr.typeAssert (.iface 313 v) 270 319 true).run Tryz.prog w = .ok (.tuple #[.agg #[.string ⟨#[]⟩], .bool false]) w := by kernel_rfl
theorem as1_5 (v : Value) (w : World) : (Instr.typeAssert (.iface 313 v) 270 321 true).run Tryz.prog w = .ok (.tuple #[.agg #[], .bool false]) w := by kernel_rfl
theorem as1_6 (v : Value) (w : World) : (Instr.typeAssert (.iface 313 v) 270 322 true).run Tryz.prog w = .ok (.tuple #[.agg #[], .bool false]) w := by kernel_rfl
theorem cm1 (w : World) : (method 476 313 (.agg #[]) "loop.example/g00269/impl.comesAt").run Tryz.prog w = .ok (316, .agg #[]) w := by kernel_rfl
theorem as2_1 (v : Value) (w : World) : (Instr.typeAssert (.iface 316 v) 270 313 true).run Tryz.prog w = .ok (.tuple #[.agg #[], .bool false]) w := by kernel_rfl
theorem as2_2 (v : Value) (w : World) : (Instr.typeAssert (.iface 316 v) 270 316 true).run Tryz.prog w = .ok (.tuple #[v, .bool true]) w := by kernel_rfl
theorem as2_3 (v : Value) (w : World) : (Instr.typeAssert (.iface 316 v) 270 318 true).run Tryz.prog w = .ok (.tuple #[.agg #[], .bool false]) w := by kernel_rfl
theorem as2_4 (v : Value) (w : World) : (Instr.typeAssert (.iface 316 v) 270 319 true).run Tryz.prog w = .ok (.tuple #[.agg #[.string ⟨#[]⟩], .bool false]) w := by kernel_rfl
theorem as2_5 (v : Value) (w : World) : (Instr.typeAssert (.iface 316 v) 270 321 true).run Tryz.prog w = .ok (.tuple #[.agg #[], .bool false]) w := by kernel_rfl
theorem as2_6 (v : Value) (w : World) : (Instr.typeAssert (.iface 316 v) 270 322 true).run Tryz.prog w = .ok (.tuple #[.agg #[], .bool false]) w := by kernel_rfl
theorem cm2 (x : ByteArray) (w : World) : (method 476 316 (.agg #[.string x]) "loop.example/g00269/impl.comesAt").run Tryz.prog w = .ok (317, .agg #[]) w := by kernel_rfl
theorem as3_1 (v : Value) (w : World) : (Instr.typeAssert (.iface 318 v) 270 313 true).run Tryz.prog w = .ok (.tuple #[.agg #[], .bool false]) w := by kernel_rfl
theorem as3_2 (v : Value) (w : World) : (Instr.typeAssert (.iface 318 v) 270 316 true).run Tryz.prog w = .ok (.tuple #[.agg #[.string ⟨#[]⟩], .bool false]) w := by kernel_rfl
theorem as3_3 (v : Value) (w : World) : (Instr.typeAssert (.iface 318 v) 270 318 true).run Tryz.prog w = .ok (.tuple #[v, .bool true]) w := by kernel_rfl
theorem as3_4 (v : Value) (w : World) : (Instr.typeAssert (.iface 318 v) 270 319 true).run Tryz.prog w = .ok (.tuple #[.agg #[.string ⟨#[]⟩], .bool false]) w := by kernel_rfl
theorem as3_5 (v : Value) (w : World) : (Instr.typeAssert (.iface 318 v) 270 321 true).run Tryz.prog w = .ok (.tuple #[.agg #[], .bool false]) w := by kernel_rfl
theorem as3_6 (v : Value) (w : World) : (Instr.typeAssert (.iface 318 v) 270 322 true).run Tryz.prog w = .ok (.tuple #[.agg #[], .bool false]) w := by kernel_rfl
theorem cm3 (w : World) : (method 476 318 (.agg #[]) "loop.example/g00269/impl.comesAt").run Tryz.prog w = .ok (317, .agg #[]) w := by kernel_rfl
theorem as4_1 (v : Value) (w : World) : (Instr.typeAssert (.iface 319 v) 270 313 true).run Tryz.prog w = .ok (.tuple #[.agg #[], .bool false]) w := by kernel_rfl
theorem as4_2 (v : Value) (w : World) : (Instr.typeAssert (.iface 319 v) 270 316 true).run Tryz.prog w = .ok (.tuple #[.agg #[.string ⟨#[]⟩], .bool false]) w := by kernel_rfl
theorem as4_3 (v : Value) (w : World) : (Instr.typeAssert (.iface 319 v) 270 318 true).run Tryz.prog w = .ok (.tuple #[.agg #[], .bool false]) w := by kernel_rfl
theorem as4_4 (v : Value) (w : World) : (Instr.typeAssert (.iface 319 v) 270 319 true).run Tryz.prog w = .ok (.tuple #[v, .bool true]) w := by kernel_rfl
theorem as4_5 (v : Value) (w : World) : (Instr.typeAssert (.iface 319 v) 270 321 true).run Tryz.prog w = .ok (.tuple #[.agg #[], .bool false]) w := by kernel_rfl
theorem as4_6 (v : Value) (w : World) : (Instr.typeAssert (.iface 319 v) 270 322 true).run Tryz.prog w = .ok (.tuple #[.agg #[], .bool false]) w := by kernel_rfl
theorem cm4 (x : ByteArray) (w : World) : (method 476 319 (.agg #[.string x]) "loop.example/g00269/impl.comesAt").run Tryz.prog w = .ok (317, .agg #[]) w := by kernel_rfl
theorem as5_1 (v : Value) (w : World) : (Instr.typeAssert (.iface 321 v) 270 313 true).run Tryz.prog w = .ok (.tuple #[.agg #[], .bool false]) w := by kernel_rfl
theorem as5_2 (v : Value) (w : World) : (Instr.typeAssert (.iface 321 v) 270 316 true).run Tryz.prog w = .ok (.tuple #[.agg #[.string ⟨#[]⟩], .bool false]) w := by kernel_rfl
theorem as5_3 (v : Value) (w : World) : (Instr.typeAssert (.iface 321 v) 270 318 true).run Tryz.prog w = .ok (.tuple #[.agg #[], .bool false]) w := by kernel_rfl
theorem as5_4 (v : Value) (w : World) : (Instr.typeAssert (.iface 321 v) 270 319 true).run Tryz.prog w = .ok (.tuple #[.agg #[.string ⟨#[]⟩], .bool false]) w := by kernel_rfl
theorem as5_5 (v : Value) (w : World) : (Instr.typeAssert (.iface 321 v) 270 321 true).run Tryz.prog w = .ok (.tuple #[v, .bool true]) w := by kernel_rfl
theorem as5_6 (v : Value) (w : World) : (Instr.typeAssert (.iface 321 v) 270 322 true).run Tryz.prog w = .ok (.tuple #[.agg #[], .bool false]) w := by kernel_rfl
theorem cm5 (w : World) : (method 476 321 (.agg #[]) "loop.example/g00269/impl.comesAt").run Tryz.prog w = .ok (317, .agg #[]) w := by kernel_rfl
theorem as6_1 (v : Value) (w : World) : (Instr.typeAssert (.iface 322 v) 270 313 true).run Tryz.prog w = .ok (.tuple #[.agg #[], .bool false]) w := by kernel_rfl
theorem as6_2 (v : Value) (w : World) : (Instr.typeAssert (.iface 322 v) 270 316 true).run Tryz.prog w = .ok (.tuple #[.agg #[.string ⟨#[]⟩], .bool false]) w := by kernel_rfl
theorem as6_3 (v : Value) (w : World) : (Instr.typeAssert (.iface 322 v) 270 318 true).run Tryz.prog w = .ok (.tuple #[.agg #[], .bool false]) w := by kernel_rfl
theorem as6_4 (v : Value) (w : World) : (Instr.typeAssert (.iface 322 v) 270 319 true).run Tryz.prog w = .ok (.tuple #[.agg #[.string ⟨#[]⟩], .bool false]) w := by kernel_rfl
theorem as6_5 (v : Value) (w : World) : (Instr.typeAssert (.iface 322 v) 270 321 true).run Tryz.prog w = .ok (.tuple #[.agg #[], .bool false]) w := by kernel_rfl
theorem as6_6 (v : Value) (w : World) : (Instr.typeAssert (.iface 322 v) 270 322 true).run Tryz.prog w = .ok (.tuple #[v, .bool true]) w := by kernel_rfl
theorem cm6 (w : World) : (method 476 322 (.agg #[]) "loop.example/g00269/impl.comesAt").run Tryz.prog w = .ok (317, .agg #[]) w := by kernel_rfl
theorem comes1 (w : World) : Calls Tryz.prog 316 #[.agg #[]] w fun e w' => e = .returned (.int .i64 0) ∧ Below w.heap.size w w' := by
  have hb := (Below.refl w.heap.size w).alloc (Nat.le_refl _)
  go_enter Tryz.func316, Tryz.ntmps316
  go_wp2
  go_ret
  exact ⟨rfl, by first | exact Below.refl _ _ | exact hb _⟩
theorem comes2 (w : World) : Calls Tryz.prog 317 #[.agg #[]] w fun e w' => e = .returned (.int .i64 1) ∧ Below w.heap.size w w' := by
  have hb := (Below.refl w.heap.size w).alloc (Nat.le_refl _)
  go_enter Tryz.func317, Tryz.ntmps317
  go_wp2
  go_ret
  exact ⟨rfl, by first | exact Below.refl _ _ | exact hb _⟩
namespace M
/-- The value that stands for a good event of kind k with the name x. -/
def hv (k : Int) (x : ByteArray) : Value :=
  if k = 1 then .iface 313 (.agg #[]) else if k = 2 then .iface 316 (.agg #[.string x]) else if k = 3 then .iface 318 (.agg #[]) else if k = 4 then .iface 319 (.agg #[.string x]) else if k = 5 then .iface 321 (.agg #[]) else .iface 322 (.agg #[])
end M
theorem hap1 (I V : Int) (x : ByteArray) (w : World) (hx : x.size ≤ 12) :
    Calls Tryz.prog 220 #[ev I V 1 x] w fun e w' => e = .returned (hv 1 x) ∧ Below w.heap.size w w' := by
  have hbA := (Below.refl w.heap.size w).alloc (Nat.le_refl _) (.cells #[.int .i64 I, .int .i64 V, .int .i64 1, .string x] 150)
  have hbx : x.size ≤ 281474976710656 := by omega
  have HB := hide (show Blk (w.alloc (.cells #[.int .i64 I, .int .i64 V, .int .i64 1, .string x] 150)) w.heap.size 4 (fun i => if i = 0 then .int .i64 I else if i = 1 then .int .i64 V else if i = 2 then .int .i64 1 else .string x) 150 from Blk.fresh w _ 4 _ _ rfl)
  go_enter Tryz.func220, Tryz.ntmps220
  go_wp2_with fail
  refine (clone_s x _ hbx).mono ?_
  rintro e w1 ⟨rfl, hb⟩
  have hb1 := hbA.trans (hb.mono hbA.size)
  have d2 := (HB.out.down hb).cell (show 2 < 4 by omega)
  simp at d2
  clear hb hbA HB
  go_wp2
  go_ret
  exact ⟨rfl, hb1⟩
theorem hap2 (I V : Int) (x : ByteArray) (w : World) (hx : x.size ≤ 12) :
    Calls Tryz.prog 220 #[ev I V 2 x] w fun e w' => e = .returned (hv 2 x) ∧ Below w.heap.size w w' := by
  have hbA := (Below.refl w.heap.size w).alloc (Nat.le_refl _) (.cells #[.int .i64 I, .int .i64 V, .int .i64 2, .string x] 150)
  have hbx : x.size ≤ 281474976710656 := by omega
  have HB := hide (show Blk (w.alloc (.cells #[.int .i64 I, .int .i64 V, .int .i64 2, .string x] 150)) w.heap.size 4 (fun i => if i = 0 then .int .i64 I else if i = 1 then .int .i64 V else if i = 2 then .int .i64 2 else .string x) 150 from Blk.fresh w _ 4 _ _ rfl)
  go_enter Tryz.func220, Tryz.ntmps220
  go_wp2_with fail
  refine (clone_s x _ hbx).mono ?_
  rintro e w1 ⟨rfl, hb⟩
  have hb1 := hbA.trans (hb.mono hbA.size)
  have d2 := (HB.out.down hb).cell (show 2 < 4 by omega)
  simp at d2
  clear hb hbA HB
  go_wp2
  go_ret
  exact ⟨rfl, hb1⟩
theorem hap3 (I V : Int) (x : ByteArray) (w : World) (hx : x.size ≤ 12) :
    Calls Tryz.prog 220 #[ev I V 3 x] w fun e w' => e = .returned (hv 3 x) ∧ Below w.heap.size w w' := by
  have hbA := (Below.refl w.heap.size w).alloc (Nat.le_refl _) (.cells #[.int .i64 I, .int .i64 V, .int .i64 3, .string x] 150)
  have hbx : x.size ≤ 281474976710656 := by omega
  have HB := hide (show Blk (w.alloc (.cells #[.int .i64 I, .int .i64 V, .int .i64 3, .string x] 150)) w.heap.size 4 (fun i => if i = 0 then .int .i64 I else if i = 1 then .int .i64 V else if i = 2 then .int .i64 3 else .string x) 150 from Blk.fresh w _ 4 _ _ rfl)
  go_enter Tryz.func220, Tryz.ntmps220
  go_wp2_with fail
  refine (clone_s x _ hbx).mono ?_
  rintro e w1 ⟨rfl, hb⟩
  have hb1 := hbA.trans (hb.mono hbA.size)
  have d2 := (HB.out.down hb).cell (show 2 < 4 by omega)
  simp at d2
  clear hb hbA HB
  go_wp2
  go_ret
  exact ⟨rfl, hb1⟩
theorem hap4 (I V : Int) (x : ByteArray) (w : World) (hx : x.size ≤ 12) :
    Calls Tryz.prog 220 #[ev I V 4 x] w fun e w' => e = .returned (hv 4 x) ∧ Below w.heap.size w w' := by
  have hbA := (Below.refl w.heap.size w).alloc (Nat.le_refl _) (.cells #[.int .i64 I, .int .i64 V, .int .i64 4, .string x] 150)
  have hbx : x.size ≤ 281474976710656 := by omega
  have HB := hide (show Blk (w.alloc (.cells #[.int .i64 I, .int .i64 V, .int .i64 4, .string x] 150)) w.heap.size 4 (fun i => if i = 0 then .int .i64 I else if i = 1 then .int .i64 V else if i = 2 then .int .i64 4 else .string x) 150 from Blk.fresh w _ 4 _ _ rfl)
  go_enter Tryz.func220, Tryz.ntmps220
  go_wp2_with fail
  refine (clone_s x _ hbx).mono ?_
  rintro e w1 ⟨rfl, hb⟩
  have hb1 := hbA.trans (hb.mono hbA.size)
  have d2 := (HB.out.down hb).cell (show 2 < 4 by omega)
  simp at d2
  clear hb hbA HB
  go_wp2
  go_ret
  exact ⟨rfl, hb1⟩
theorem hap5 (I V : Int) (x : ByteArray) (w : World) (hx : x.size ≤ 12) :
    Calls Tryz.prog 220 #[ev I V 5 x] w fun e w' => e = .returned (hv 5 x) ∧ Below w.heap.size w w' := by
  have hbA := (Below.refl w.heap.size w).alloc (Nat.le_refl _) (.cells #[.int .i64 I, .int .i64 V, .int .i64 5, .string x] 150)
  have hbx : x.size ≤ 281474976710656 := by omega
  have HB := hide (show Blk (w.alloc (.cells #[.int .i64 I, .int .i64 V, .int .i64 5, .string x] 150)) w.heap.size 4 (fun i => if i = 0 then .int .i64 I else if i = 1 then .int .i64 V else if i = 2 then .int .i64 5 else .string x) 150 from Blk.fresh w _ 4 _ _ rfl)
  go_enter Tryz.func220, Tryz.ntmps220
  go_wp2_with fail
  refine (clone_s x _ hbx).mono ?_
  rintro e w1 ⟨rfl, hb⟩
  have hb1 := hbA.trans (hb.mono hbA.size)
  have d2 := (HB.out.down hb).cell (show 2 < 4 by omega)
  simp at d2
  clear hb hbA HB
  go_wp2
  go_ret
  exact ⟨rfl, hb1⟩
theorem hap6 (I V : Int) (x : ByteArray) (w : World) (hx : x.size ≤ 12) :
    Calls Tryz.prog 220 #[ev I V 6 x] w fun e w' => e = .returned (hv 6 x) ∧ Below w.heap.size w w' := by
  have hbA := (Below.refl w.heap.size w).alloc (Nat.le_refl _) (.cells #[.int .i64 I, .int .i64 V, .int .i64 6, .string x] 150)
  have hbx : x.size ≤ 281474976710656 := by omega
  have HB := hide (show Blk (w.alloc (.cells #[.int .i64 I, .int .i64 V, .int .i64 6, .string x] 150)) w.heap.size 4 (fun i => if i = 0 then .int .i64 I else if i = 1 then .int .i64 V else if i = 2 then .int .i64 6 else .string x) 150 from Blk.fresh w _ 4 _ _ rfl)
  go_enter Tryz.func220, Tryz.ntmps220
  go_wp2_with fail
  refine (clone_s x _ hbx).mono ?_
  rintro e w1 ⟨rfl, hb⟩
  have hb1 := hbA.trans (hb.mono hbA.size)
  have d2 := (HB.out.down hb).cell (show 2 < 4 by omega)
  simp at d2
  clear hb hbA HB
  go_wp2
  go_ret
  exact ⟨rfl, hb1⟩
theorem happens (e : Ev) (w : World) (hk : 1 ≤ e.kind ∧ e.kind ≤ 6) (hx : e.name.size ≤ 12) :
    Calls Tryz.prog 220 #[ev e.id e.ver e.kind e.name] w fun e' w' => e' = .returned (hv e.kind e.name) ∧ Below w.heap.size w w' := by
  obtain ⟨I, V, k, x⟩ := e
  simp only at *
  rcases (show k = 1 ∨ k = 2 ∨ k = 3 ∨ k = 4 ∨ k = 5 ∨ k = 6 by omega) with rfl | rfl | rfl | rfl | rfl | rfl
  · exact hap1 I V x w hx
  · exact hap2 I V x w hx
  · exact hap3 I V x w hx
  · exact hap4 I V x w hx
  · exact hap5 I V x w hx
  · exact hap6 I V x w hx
end Go.Proofs.YtjgopjnkkhkcnaaGreatDoor

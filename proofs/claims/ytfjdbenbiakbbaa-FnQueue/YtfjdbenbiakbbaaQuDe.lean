/-
  What FnQueue draws and compares: bools and packets that are the same, a window with steps.
-/
import Derived.Test.YtfjdbenbiakbbaaQuDl
import Derived.Laws.StructEq
namespace Go.Proofs.Ytfjdbenbiakbbaa
open Go.RowKit M
set_option maxHeartbeats 1000000 in
theorem same_bools (v u : Value) (l : List Bool) (w : World) (hv : BL w v l) (hu : BL w u l) (hn : l.length ≤ 1048576) :
    Calls Try.prog 32 #[v, u] w fun e w' => e = .returned (.bool true) ∧ Below w.heap.size w w' := by
  obtain ⟨a, cap, rfl, hr⟩ := hv
  obtain ⟨a2, cap2, rfl, hr2⟩ := hu
  have HR := hide hr
  have HR2 := hide hr2
  clear hr hr2
  go_enter Try.func32, Try.ntmps32
  go_wp2
  go_loopw [13] (fun i wr => ∃ k : Nat, k ≤ l.length ∧ i = .int .i64 k ∧ Below w.heap.size w wr) (fun i _ => l.length - (intOf i).toNat)
  case atStart => exact ⟨0, Nat.zero_le _, rfl, Below.refl _ _⟩
  case round =>
    obtain ⟨k, hk, rfl, hbw⟩ := hrel
    by_cases hlt : k < l.length
    · obtain ⟨b, off, rfl, hb, hrow⟩ := HR.out (by omega)
      obtain ⟨b2, off2, rfl, hb2, hrow2⟩ := HR2.out (by omega)
      obtain ⟨x, hx⟩ : ∃ x, l[k]? = some x := ⟨l[k], List.getElem?_eq_getElem hlt⟩
      have k0 := cell_regrown ((hbw.cell (p := ⟨b, off + k, none⟩) hb).trans (hrow k x hx))
      have k1 := cell_regrown ((hbw.cell (p := ⟨b2, off2 + k, none⟩) hb2).trans (hrow2 k x hx))
      have hi0 : (0 : Int) ≤ (k : Int) := by omega
      have hi1 : (k : Int) < (l.length : Int) := by omega
      have hxx : (x != x) = false := by simp
      clear hrow hrow2 HR HR2 hx
      go_wp2
      refine wp_region_quiet_below (by kernel_rfl) (by kernel_rfl) ?_
      repeat (go_big_quiet_step (fail))
      refine wpQuiet_nil ?_
      intro _ hw'
      obtain ⟨⟨dq, osq⟩, hw''⟩ := hw'
      subst hw''
      have hbw2 := hbw.trans ((below_regrown wr dq osq).mono hbw.size)
      go_wp2
      go_roundw
      case rel => exact ⟨k + 1, by omega, by go_num, hbw2⟩
      case measure => simp [intOf]; omega
    · clear HR HR2
      go_wp2
      go_ret
      exact ⟨rfl, hbw⟩
theorem neq_pk (x : Pk) (w : World) : (binOp .neq 88 (.agg #[.bool x.ack, .int .i64 x.no, .string x.tx]) (.agg #[.bool x.ack, .int .i64 x.no, .string x.tx])).run Try.prog w = .ok (.bool false) w := by
  have u9 := Try.underlying9
  have a9 := Try.isAgg9
  have z9 := Try.sizeOf9
  have u3 := Try.underlying3
  have a3 := Try.isAgg3
  have z3 := Try.sizeOf3
  have u4 := Try.underlying4
  have a4 := Try.isAgg4
  have z4 := Try.sizeOf4
  have hS : Try.prog.underlying 88 = some (.struct (Try.prog.fieldsOf 88)) := by kernel_rfl
  have hp : Try.prog.stoodInHeld 88 = false := by kernel_rfl
  rw [run_neq_struct, show (10000 : Nat) = 9999 + 1 from rfl, run_equalIn_agg w 9999 88 _ _ hS hp]
  simp only [Program.fieldsOf, Try.underlying88]
  go_simp
theorem guard_pk (op : BinOp) (a b : Operand) (x y : Array Value) (w : World) : (eqGuard op 88 a b (.agg x) (.agg y)).run Try.prog w = .ok () w := run_eqGuard_agg w op 88 a b _ _ (by kernel_rfl)
set_option maxHeartbeats 1000000 in
theorem same_pks (v u : Value) (l : Pks) (w : World) (hv : PksOf w v l) (hu : PksOf w u l) (hn : l.length ≤ 1048576) :
    Calls Try.prog 34 #[v, u] w fun e w' => e = .returned (.bool true) ∧ Below w.heap.size w w' := by
  obtain ⟨a, cap, rfl, hr⟩ := hv
  obtain ⟨a2, cap2, rfl, hr2⟩ := hu
  have HR := hide hr
  have HR2 := hide hr2
  clear hr hr2
  go_enter Try.func34, Try.ntmps34
  go_wp2
  go_loopw [13] (fun i wr => ∃ k : Nat, k ≤ l.length ∧ i = .int .i64 k ∧ Below w.heap.size w wr) (fun i _ => l.length - (intOf i).toNat)
  case atStart => exact ⟨0, Nat.zero_le _, rfl, Below.refl _ _⟩
  case round =>
    obtain ⟨k, hk, rfl, hbw⟩ := hrel
    by_cases hlt : k < l.length
    · obtain ⟨b, off, rfl, hb, hrow⟩ := HR.out (by omega)
      obtain ⟨b2, off2, rfl, hb2, hrow2⟩ := HR2.out (by omega)
      obtain ⟨x, hx⟩ : ∃ x, l[k]? = some x := ⟨l[k], List.getElem?_eq_getElem hlt⟩
      obtain ⟨q0, q1, q2⟩ := (hrow k x hx).below hbw hb
      obtain ⟨r0, r1, r2⟩ := (hrow2 k x hx).below hbw hb2
      have k0 := cell_regrown q0
      have k1 := cell_regrown q1
      have k2 := cell_regrown q2
      have k3 := cell_regrown r0
      have k4 := cell_regrown r1
      have k5 := cell_regrown r2
      have hi0 : (0 : Int) ≤ (k : Int) := by omega
      have hi1 : (k : Int) < (l.length : Int) := by omega
      have hN := fun W => neq_pk x W
      have hG := fun a b W => guard_pk .neq a b #[.bool x.ack, .int .i64 x.no, .string x.tx] #[.bool x.ack, .int .i64 x.no, .string x.tx] W
      clear hrow hrow2 HR HR2 hx q0 q1 q2 r0 r1 r2
      go_wp2
      refine wp_region_quiet_below (by kernel_rfl) (by kernel_rfl) ?_
      repeat (go_big_quiet_step (simp only [hN, hG]))
      refine wpQuiet_nil ?_
      intro _ hw'
      obtain ⟨⟨dq, osq⟩, hw''⟩ := hw'
      subst hw''
      have hbw2 := hbw.trans ((below_regrown wr dq osq).mono hbw.size)
      go_wp2
      go_roundw
      case rel => exact ⟨k + 1, by omega, by go_num, hbw2⟩
      case measure => simp [intOf]; omega
    · clear HR HR2
      go_wp2
      go_ret
      exact ⟨rfl, hbw⟩
set_option maxHeartbeats 1000000 in
theorem draw_play (v : Value) (n : Nat) (f : Nat → Nat) (w : World) (hv : OctetsOf w v n f) (hn : n ≤ 1048576) :
    Calls Try.prog 31 #[v] w fun e w' => (∃ (x : Nat) (u : Value) (l : Lsts), e = .returned (.tuple #[.int .i64 (1 + (x : Int)), u]) ∧ x < 4 ∧ OwnL w' w.heap.size u l ∧ l.length ≤ 201 ∧ S12 l) ∧ Below w.heap.size w w' := by
  obtain ⟨a, cap, rfl⟩ := hv.form
  have hal := (Below.refl w.heap.size w).alloc (Nat.le_refl _) (.cells #[.slice a n cap, .int .i64 0, .int .u64 0] 84)
  have HC := hide (cur_new hv hn)
  have HB := hide hal
  clear hv hal
  go_enter Try.func31, Try.ntmps31
  go_wp2_with fail
  refine (cur_pick w.heap.size w.heap.size 0 4 _ HC.out (by omega) (by omega)).mono ?_
  rintro e w1 ⟨⟨x, hx, rfl⟩, hc1, ho1⟩
  have hx4 : x < 4 := by omega
  have hb1 := HB.out.trans (ho1.below (Nat.le_refl _) HB.out.size)
  have HC1 := hide hc1
  have HB1 := hide hb1
  clear hc1 ho1 HC HB hb1 hx
  go_wp2_with fail
  refine (cur_steps w.heap.size w.heap.size (0 + 1) _ HC1.out (by omega)).mono ?_
  rintro e w2 ⟨⟨u, l, rfl, ho, hl, hs⟩, hc2, ho2⟩
  have HF := hide (And.intro (ho.mono HB1.out.size) (And.intro hs (HB1.out.trans (ho2.below (Nat.le_refl _) HB1.out.size))))
  clear ho hs hc2 ho2 HC1 HB1
  go_wp2
  go_ret2
  exact ⟨⟨x, u, l, rfl, hx4, HF.out.1, hl, HF.out.2.1⟩, HF.out.2.2⟩
end Go.Proofs.Ytfjdbenbiakbbaa

/-
  A wheel with no timers: both texts of NewWheel; its law, walked.
-/
import Derived.Test.YtcodllammndciaaWhC
namespace Go.Proofs.Ytcodllammndciaa
open Go.RowKit M
open Clk (upd upd_same upd_other)
open Go.Sort (grow)
namespace M
def zr : Nat → Rw := fun _ => noRow
theorem tot_zr : ∀ k, tot zr k = 0
  | 0 => rfl
  | k + 1 => by simp only [tot]; rw [tot_zr k]; rfl
theorem small_zr : Small 24 zr := by unfold Small; rw [tot_zr]; omega
theorem aw_zr (w : World) (t : TypeId) : AW t (w.alloc (.cells (cf 24 (fun _ => .slice none 0 0)) t)) w.heap.size w.heap.size 24 24 zr (fun _ => 0) (fun _ => .slice none 0 0) :=
  (aw_new t w 24 zr).ext (fun i hi => by unfold cut zr; rw [if_neg (by omega)])
end M
theorem M.new_end (w : World) (o : Obj) (C : Array Value) (h : C = cf 24 (fun _ => (.slice none 0 0 : Value))) : AnsW ((w.alloc o).alloc (.cells C 52)) w.heap.size (.slice (some ⟨w.heap.size + 1, 0, none⟩) 24 24) 24 zr ∧ Below w.heap.size w ((w.alloc o).alloc (.cells C 52)) := by
  subst h
  have h1 := aw_zr (w.alloc o) 52
  rw [World.size_alloc] at h1
  exact ⟨.inr ⟨_, _, _, _, _, rfl, h1.mono (by omega)⟩, ((Below.refl _ _).alloc (Nat.le_refl _) _).alloc (by simp) _⟩
set_option maxHeartbeats 1000000 in
theorem spec_new (w : World) :
    Calls Try.prog 11 #[] w fun e w' => (∃ v, e = .returned (.agg #[.int .i64 0, v]) ∧ AnsW w' w.heap.size v 24 zr) ∧ Below w.heap.size w w' := by
  obtain ⟨C, hC⟩ : ∃ C, C = cf 24 (fun _ => (.slice none 0 0 : Value)) := ⟨_, rfl⟩
  have hmk : ∀ w, (Instr.makeSlice 22 (.int .i64 24) (.int .i64 24)).run Try.prog w = .ok (.slice (some ⟨w.heap.size, 0, none⟩) 24 24) (w.alloc (.cells C 52)) := by rw [hC]; exact make_rows 24 (by omega)
  have HC := hide hC
  clear hC
  go_enter Try.func11, Try.ntmps11
  go_wp2
  have HE := new_end w (.cells #[.int .i64 0, .slice (some ⟨w.heap.size + 1, 0, none⟩) 24 24] 24) C HC.out
  exact bodyPost_ret (v := .agg #[.int .i64 0, .slice (some ⟨w.heap.size + 1, 0, none⟩) 24 24]) (by simp [results, Try.results11, go_sem]) rfl ⟨⟨_, rfl, HE.1⟩, HE.2⟩
set_option maxHeartbeats 1000000 in
theorem impl_new (w : World) :
    Calls Try.prog 12 #[] w fun e w' => (∃ v, e = .returned (.agg #[.int .i64 0, v]) ∧ AnsW w' w.heap.size v 24 zr) ∧ Below w.heap.size w w' := by
  obtain ⟨C, hC⟩ : ∃ C, C = cf 24 (fun _ => (.slice none 0 0 : Value)) := ⟨_, rfl⟩
  have hmk : ∀ w, (Instr.makeSlice 22 (.int .i64 24) (.int .i64 24)).run Try.prog w = .ok (.slice (some ⟨w.heap.size, 0, none⟩) 24 24) (w.alloc (.cells C 52)) := by rw [hC]; exact make_rows 24 (by omega)
  have HC := hide hC
  clear hC
  go_enter Try.func12, Try.ntmps12
  go_wp2
  have HE := new_end w (.cells #[.int .i64 0, .slice (some ⟨w.heap.size + 1, 0, none⟩) 24 24] 24) C HC.out
  exact bodyPost_ret (v := .agg #[.int .i64 0, .slice (some ⟨w.heap.size + 1, 0, none⟩) 24 24]) (by simp [results, Try.results12, go_sem]) rfl ⟨⟨_, rfl, HE.1⟩, HE.2⟩
set_option maxHeartbeats 4000000 in
theorem law_new (w : World) :
    Calls Try.prog 3 #[] w fun e w' => e = .returned (.bool true) ∧ Below w.heap.size w w' := by
  have htz : tot zr 24 * 2 = 0 := by rw [tot_zr]
  go_enter Try.func3, Try.ntmps3
  go_wp2_with fail
  refine (spec_new w).mono ?_
  rintro e w1 ⟨⟨v0, rfl, hA1⟩, hb1⟩
  have hbB := (Below.refl w1.heap.size w1).alloc (Nat.le_refl _) (.cells #[.int .i64 0, v0] 24)
  have hN := Blk.fresh w1 #[.int .i64 0, v0] 2 (p2 (.int .i64 0) v0) 24 rfl
  have hb2 := hb1.trans (hbB.mono hb1.size)
  have HR := hide (hA1.rows.below hbB)
  obtain ⟨a0, c0, rfl⟩ := hA1.rows.form
  clear hA1
  go_wp2_with fail
  refine (impl_new _).mono ?_
  rintro e w3 ⟨⟨v1, rfl, hA3⟩, hb⟩
  have hb3 := hb2.trans (hb.mono hb2.size)
  have hbC := (Below.refl w3.heap.size w3).alloc (Nat.le_refl _) (.cells #[.int .i64 0, v1] 24)
  have hM := Blk.fresh w3 #[.int .i64 0, v1] 2 (p2 (.int .i64 0) v1) 24 rfl
  have hN3 := (hN.down hb).down hbC
  have hb4 := hb3.trans (hbC.mono hb3.size)
  have HR3 := hide ((HR.out.below hb).below hbC)
  have HA3 := hide (hA3.down hbC)
  obtain ⟨a1, c1, rfl⟩ := hA3.rows.form
  obtain ⟨d0, d1, -, -⟩ := hN3.pair
  have hB3 : (w1.alloc (.cells #[.int .i64 0, .slice a0 24 c0] 24)).heap.size ≤ w3.heap.size := hb.size
  have HX3 := hide (hA3.x.down hbC)
  have hlo : w1.heap.size < (w1.alloc (.cells #[.int .i64 0, .slice a0 24 c0] 24)).heap.size := by simp
  have s4 := hb.trans (hbC.mono hb.size)
  have hwB := hb2.size
  clear HA3 hA3 hb hb1 hb2 hb3 hN HR3 hbC hbB
  generalize (w1.alloc (.cells #[.int .i64 0, .slice a0 24 c0] 24)) = W1 at *
  go_wp2_with fail
  have HN4 := hide hN3
  have HM4 := hide hM
  clear hN3 hM d0 d1
  refine (eq_wheel 0 _ _ 24 zr _ HX3.out.rows (HR.out.below s4) small_zr.short).mono ?_
  rintro e w5 ⟨rfl, hb⟩
  have s5 := s4.trans (hb.mono s4.size)
  have hb5 := hb4.trans (hb.mono hb4.size)
  have HX5 := hide (HX3.out.down hb)
  have HN5 := hide (HN4.out.down hb)
  have HM5 := hide (HM4.out.down hb)
  clear HX3 HN4 HM4 hb hb4 s4
  obtain ⟨d0, d1, -, -⟩ := HM5.out.pair
  go_wp2_with fail
  refine (mark_wheel 0 _ _ 24 1 _ zr _ HX5.out small_zr (by omega)).mono ?_
  rintro e w6 ⟨rfl, hX6, hk6⟩
  have s6 := s5.trans (hk6.below (Nat.le_refl _) s5.size)
  have hb6 := hb5.trans (hk6.below (B := w.heap.size) hwB hb5.size)
  have HX6 := hide hX6
  have HN6 := hide (hk6.blk HN5.out (.inl hlo))
  have HM6 := hide (hk6.blk HM5.out (.inr (Nat.le_refl _)))
  clear HX5 HN5 HM5 hk6 hX6 hb5 s5 d0 d1
  rw [htz]
  obtain ⟨d0, d1, -, -⟩ := HM6.out.pair
  go_wp2_with fail
  refine (held_wheel 0 24 1 _ zr _ HX6.out.rows small_zr (by omega)).mono ?_
  rintro e w7 ⟨rfl, hb⟩
  have s7 := s6.trans (hb.mono s6.size)
  have hb7 := hb6.trans (hb.mono hb6.size)
  have HX7 := hide (HX6.out.down hb)
  have HN7 := hide (HN6.out.down hb)
  have HM7 := hide (HM6.out.down hb)
  clear HX6 HN6 HM6 hb hb6 s6 d0 d1
  rw [htz]
  go_wp2_with fail
  refine (impl_new _).mono ?_
  rintro e w8 ⟨⟨v2, rfl, hA8⟩, hb⟩
  have s8 := s7.trans (hb.mono s7.size)
  have hb8 := hb7.trans (hb.mono hb7.size)
  obtain ⟨a2, c2, rfl⟩ := hA8.rows.form
  have hbC := (Below.refl w8.heap.size w8).alloc (Nat.le_refl _) (.cells #[.int .i64 0, .slice a2 24 c2] 24)
  have s9 := s8.trans (hbC.mono s8.size)
  have hb9 := hb8.trans (hbC.mono hb8.size)
  have HX9 := hide ((HX7.out.down hb).down hbC)
  have HN9 := hide ((HN7.out.down hb).down hbC)
  have HM9 := hide ((HM7.out.down hb).down hbC)
  have HA9 := hide (hA8.down hbC)
  clear HX7 HN7 HM7 hb hb7 s7 hb8 s8 hA8 hbC
  obtain ⟨d0, d1, -, -⟩ := HN9.out.pair
  go_wp2_with fail
  refine (eq_wheel 0 _ _ 24 zr _ HA9.out.rows (HR.out.below s9) small_zr.short).mono ?_
  rintro e w10 ⟨rfl, hb⟩
  have hb10 := hb9.trans (hb.mono hb9.size)
  have HX10 := hide (HX9.out.down hb)
  have HM10 := hide (HM9.out.down hb)
  clear HX9 HN9 HM9 hb hb9 s9 d0 d1 HA9 HR
  obtain ⟨d0, d1, -, -⟩ := HM10.out.pair
  go_wp2_with fail
  refine (held_wheel 0 24 1 _ zr _ HX10.out.rows small_zr (by omega)).mono ?_
  rintro e w11 ⟨rfl, hb⟩
  have hb11 := hb10.trans (hb.mono hb10.size)
  clear HX10 HM10 hb hb10 d0 d1
  rw [htz]
  go_wp2
  go_ret
  exact ⟨rfl, hb11⟩
end Go.Proofs.Ytcodllammndciaa

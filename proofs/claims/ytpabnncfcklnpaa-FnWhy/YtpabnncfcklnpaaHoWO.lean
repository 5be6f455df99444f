/-
  WhyOf of the program, where the goal does not follow; the law of WhyOf, at all arguments.
-/
import Derived.Test.YtpabnncfcklnpaaHoWI
import Derived.Test.YtpabnncfcklnpaaHoQ
import Derived.Test.YtpabnncfcklnpaaHoLW
namespace Go.Proofs.Ytpabnncfcklnpaa
open Go.RowKit M
open Clk (upd upd_same upd_other)
open Ho
set_option maxRecDepth 20000 in
set_option maxHeartbeats 2000000 in
theorem impl_why_out (v u : Value) (k n : Nat) (ts : Nat → Tk) (f : Nat → Int) (x : Nat) (w : World) (hv : TasksOf w v k ts) (hs : Short k ts) (hu : IntsOf w u n f) (hn : n ≤ 1048576) (hO : Okay k n ts f) (hx : x < 40) (hin : (fin (rls ts) k (nf f) n).inn x = false) :
    Calls Try.prog 28 #[v, u, .int .i64 (x : Int)] w fun e w' => e = .returned (.tuple #[.slice none 0 0, .bool false]) ∧ Below w.heap.size w w' := by
  have HV := hide hv
  obtain ⟨a, cap, rfl⟩ := hv.form
  have HU := hide hu
  obtain ⟨au, cu, rfl⟩ := hu.form
  have HSh := hide hs
  have HO := hide hO
  have HIn := Bx.mk hin
  clear hv hu hs hO hin
  have hb0 := (Below.refl w.heap.size w).alloc (Nat.le_refl _) (.cells #[.slice a k cap] 25)
  have hx0 : Blk (w.alloc (.cells #[.slice a k cap] 25)) w.heap.size 1 (fun _ => .slice a k cap) 25 := Blk.fresh w _ 1 _ 25 rfl
  have HX := hide (show decide ((0 : Int) ≤ (x : Int) ∧ (x : Int) ≤ 39) = true by simp; omega)
  go_enter Try.func28, Try.ntmps28
  go_wp2_with fail
  refine (set_for _ _ k n ts f _ (HV.out.below hb0) HSh.out (HU.out.below hb0) hn HO.out).mono ?_
  rintro e w1 ⟨rfl, hb⟩
  have hb1 := hb0.trans (hb.mono hb0.size)
  have HX1 := hide (hx0.down hb)
  have HST := hide (set_new w1 (sof f n))
  clear hb hb0 hx0
  go_wp2_with (first | refine wpList_store_row rfl 63 _ _ rfl w1.heap.size _ rfl rfl 63 _ (heap_alloc_new _ _) (by rw [cf_size]; exact info_fs) (by rw [cf_size]; rfl) (all_one _) ?_ | fail)
  generalize hW : (w1.alloc _).setRow _ _ = w2
  obtain ⟨h2, hb⟩ := HST.out _ rfl w2 hW.symm
  have hb2 := hb1.trans (hb.mono hb1.size)
  have hc2 : w2.cell? ⟨w.heap.size, 0, none⟩ = some (.slice a k cap) := (HX1.out.down hb).cell (show 0 < 1 by omega)
  clear hb hW HST HX1
  refine (isfact_to _ true _ HX.out).mono ?_
  rintro e w2' ⟨rfl, rfl⟩
  go_wp2_with (first | refine wpList_load_row rfl 63 _ rfl w1.heap.size rfl 63 _ (0, 0) _ h2 Try.underlying63 rfl info_fs ?_ | fail)
  refine (impl_reckon _ k n ts f _ (HV.out.below hb2) HO.out).mono ?_
  rintro e w3 ⟨⟨wb, gR, vc, vf, gc, wt, rfl, hwb, hI⟩, hb⟩
  have hb3 := hb2.trans (hb.mono hb2.size)
  have c0 := rk_cell_in hI.2.hr hx
  rw [HIn.out] at c0
  clear hI hb h2 HIn hc2
  have hx0 : (0 : Int) ≤ (x : Int) := by omega
  have hx1 : (x : Int) < 40 := by omega
  go_wp2
  go_ret2
  exact ⟨rfl, hb3⟩
theorem whyL_len {k n : Nat} {ts : Nat → Tk} {f : Nat → Int} (hO : Okay k n ts f) (x : Nat) : (whyL k n ts f x).length ≤ 40 := why_len (fin_inv hO.1.gr (f := nf f) (n := n) (fun _ hi => hO.2.nf_lt hi)).1 x
theorem law_why (v : Value) (k : Nat) (ts : Nat → Tk) (u : Value) (n : Nat) (f : Nat → Int) (x : Int) (w : World) (hv : TasksOf w v k ts) (hl : Lens k ts) (hu : IntsOf w u n f) (hn : n ≤ maxLen) :
    Calls Try.prog 7 #[v, u, .int .i64 x] w fun e w' => e = .returned (.bool true) ∧ Below w.heap.size w w' := by
  refine law_whyOf_run v u k n ts f x w hv hl hu hn (fun hs hn => ?_)
  by_cases hO : Okay k n ts f ∧ (0 ≤ x ∧ x ≤ 39)
  · obtain ⟨y, rfl⟩ : ∃ y : Nat, x = (y : Int) := ⟨x.toNat, by omega⟩
    have hy : y < 40 := by omega
    rcases hin : (fin (rls ts) k (nf f) n).inn y with _ | _
    · exact ⟨0, fun _ => 0, false, by omega, fun v u w hv hu => (spec_why_out v u k n ts f y w hv hs hu hn hO.1 hy hin).mono fun _ _ ⟨he, hb⟩ => ⟨⟨_, he, none_ints _⟩, hb⟩,
        fun v u w hv hu => (impl_why_out v u k n ts f y w hv hs hu hn hO.1 hy hin).mono fun _ _ ⟨he, hb⟩ => ⟨⟨_, he, .inl ⟨rfl, rfl⟩⟩, hb⟩⟩
    · exact ⟨(whyL k n ts f y).length, at' (whyL k n ts f y), true, by have := whyL_len hO.1 y; omega,
        fun v u w hv hu => (spec_why v u k n ts f y w hv hs hu hn hO.1 hy hin).mono fun _ _ ⟨⟨r, he, ho⟩, hb⟩ => ⟨⟨r, he, own_ints (own_lst ho)⟩, hb⟩,
        fun v u w hv hu => impl_why v u k n ts f y w hv hs hu hn hO.1 hy hin⟩
  · exact ⟨0, fun _ => 0, false, by omega, fun v u w hv hu => (spec_why_no v u k n ts f x w hv hs hu hn hO).mono fun _ _ ⟨he, hb⟩ => ⟨⟨_, he, none_ints _⟩, hb⟩,
      fun v u w hv hu => (impl_why_no v u k n ts f x w hv hs hu hn hO).mono fun _ _ ⟨he, hb⟩ => ⟨⟨_, he, .inl ⟨rfl, rfl⟩⟩, hb⟩⟩
end Go.Proofs.Ytpabnncfcklnpaa

/-
  LeastModel and Follows, of both texts.
-/
import Derived.Test.YtpabnncfcklnpaaHoY
import Derived.Test.YtpabnncfcklnpaaHoP
import Derived.Deep.MidRow
import Derived.Deep.RegionHeld
namespace Go.Proofs.Ytpabnncfcklnpaa
open Go.RowKit M
open Clk (upd upd_same upd_other)
open Go.Sort (grow)
open Ho
namespace M
abbrev fi (k n : Nat) (ts : Nat → Tk) (f : Nat → Int) : Sta := fin (rls ts) k (nf f) n
theorem rk_range {W : World} {gR : Nat} {rv vc vf : Value} {inn : Nat → Bool} {wt : Nat → Value} {wk : Int} {t : TypeId} (h : Blk W gR 84 (rk rv vc vf inn wt wk) t) : W.rangeAt gR 1 ((List.range 40).map (bv inn)) := fun j v hv => by
  have hj : j < 40 := by have := (List.getElem?_eq_some_iff.1 hv).1; simpa using this
  rw [List.getElem?_map, List.getElem?_range hj] at hv
  simp only [Option.map_some, Option.some.injEq] at hv
  rw [← hv]
  exact rk_cell_in h hj
end M
set_option maxHeartbeats 1000000 in
theorem spec_least_no (v u : Value) (k n : Nat) (ts : Nat → Tk) (f : Nat → Int) (w : World) (hv : TasksOf w v k ts) (hs : Short k ts) (hu : IntsOf w u n f) (hn : n ≤ 1048576) (hO : ¬ (Okay k n ts f)) :
    Calls Try.prog 16 #[v, u] w fun e w' => e = .returned (.tuple #[.slice none 0 0, .int .i64 0, .bool false]) ∧ Below w.heap.size w w' := by
  have HV := hide hv
  obtain ⟨a, cap, rfl⟩ := hv.form
  have HU := hide hu
  obtain ⟨au, cu, rfl⟩ := hu.form
  have HSh := hide hs
  clear hv hu hs
  by_cases hg : GoodL k ts
  · have HG := hide hg
    by_cases hr : Ris n f
    · exact absurd ⟨hg, hr⟩ hO
    · have HRi := hide hr
      clear hg hr hO
      go_enter Try.func16, Try.ntmps16
      go_wp2_with fail
      refine (spec_good _ k ts true _ HV.out HSh.out (decide_eq_true HG.out)).mono ?_
      rintro e w1 ⟨rfl, hb1⟩
      go_wp2_with fail
      refine (l8set_to _ n f false _ (HU.out.below hb1) hn (decide_eq_false HRi.out)).mono ?_
      rintro e w2 ⟨rfl, rfl⟩
      go_wp2
      exact bodyPost_ret (v := .tuple #[.slice none 0 0, .int .i64 0, .bool false]) (by simp [results, Try.results16, go_sem]) rfl ⟨rfl, hb1⟩
  · have HG := hide hg
    clear hg hO
    go_enter Try.func16, Try.ntmps16
    go_wp2_with fail
    refine (spec_good _ k ts false _ HV.out HSh.out (decide_eq_false HG.out)).mono ?_
    rintro e w1 ⟨rfl, hb1⟩
    go_wp2
    exact bodyPost_ret (v := .tuple #[.slice none 0 0, .int .i64 0, .bool false]) (by simp [results, Try.results16, go_sem]) rfl ⟨rfl, hb1⟩
set_option maxHeartbeats 1000000 in
theorem spec_follows_no (v u : Value) (k n : Nat) (ts : Nat → Tk) (f : Nat → Int) (x : Int) (w : World) (hv : TasksOf w v k ts) (hs : Short k ts) (hu : IntsOf w u n f) (hn : n ≤ 1048576) (hO : ¬ (Okay k n ts f ∧ (0 ≤ x ∧ x ≤ 39))) :
    Calls Try.prog 25 #[v, u, .int .i64 x] w fun e w' => e = .returned (.tuple #[.bool false, .bool false]) ∧ Below w.heap.size w w' := by
  have HV := hide hv
  obtain ⟨a, cap, rfl⟩ := hv.form
  have HU := hide hu
  obtain ⟨au, cu, rfl⟩ := hu.form
  have HSh := hide hs
  clear hv hu hs
  by_cases hg : GoodL k ts
  · have HG := hide hg
    by_cases hr : Ris n f
    · have hx : ¬ (0 ≤ x ∧ x ≤ 39) := fun h => hO ⟨⟨hg, hr⟩, h⟩
      have HRi := hide hr
      have HX := hide hx
      clear hg hr hO hx
      go_enter Try.func25, Try.ntmps25
      go_wp2_with fail
      refine (spec_good _ k ts true _ HV.out HSh.out (decide_eq_true HG.out)).mono ?_
      rintro e w1 ⟨rfl, hb1⟩
      go_wp2_with fail
      refine (l8set_to _ n f true _ (HU.out.below hb1) hn (decide_eq_true HRi.out)).mono ?_
      rintro e w2 ⟨rfl, rfl⟩
      go_wp2_with fail
      refine (l1in_to _ _ _ false _ (decide_eq_false HX.out)).mono ?_
      rintro e w3 ⟨rfl, rfl⟩
      go_wp2
      go_ret2
      exact ⟨rfl, hb1⟩
    · have HRi := hide hr
      clear hg hr hO
      go_enter Try.func25, Try.ntmps25
      go_wp2_with fail
      refine (spec_good _ k ts true _ HV.out HSh.out (decide_eq_true HG.out)).mono ?_
      rintro e w1 ⟨rfl, hb1⟩
      go_wp2_with fail
      refine (l8set_to _ n f false _ (HU.out.below hb1) hn (decide_eq_false HRi.out)).mono ?_
      rintro e w2 ⟨rfl, rfl⟩
      go_wp2
      go_ret2
      exact ⟨rfl, hb1⟩
  · have HG := hide hg
    clear hg hO
    go_enter Try.func25, Try.ntmps25
    go_wp2_with fail
    refine (spec_good _ k ts false _ HV.out HSh.out (decide_eq_false HG.out)).mono ?_
    rintro e w1 ⟨rfl, hb1⟩
    go_wp2
    go_ret2
    exact ⟨rfl, hb1⟩
set_option maxHeartbeats 1000000 in
theorem spec_why_no (v u : Value) (k n : Nat) (ts : Nat → Tk) (f : Nat → Int) (x : Int) (w : World) (hv : TasksOf w v k ts) (hs : Short k ts) (hu : IntsOf w u n f) (hn : n ≤ 1048576) (hO : ¬ (Okay k n ts f ∧ (0 ≤ x ∧ x ≤ 39))) :
    Calls Try.prog 27 #[v, u, .int .i64 x] w fun e w' => e = .returned (.tuple #[.slice none 0 0, .bool false]) ∧ Below w.heap.size w w' := by
  have HV := hide hv
  obtain ⟨a, cap, rfl⟩ := hv.form
  have HU := hide hu
  obtain ⟨au, cu, rfl⟩ := hu.form
  have HSh := hide hs
  clear hv hu hs
  by_cases hg : GoodL k ts
  · have HG := hide hg
    by_cases hr : Ris n f
    · have hx : ¬ (0 ≤ x ∧ x ≤ 39) := fun h => hO ⟨⟨hg, hr⟩, h⟩
      have HRi := hide hr
      have HX := hide hx
      clear hg hr hO hx
      go_enter Try.func27, Try.ntmps27
      go_wp2_with fail
      refine (spec_good _ k ts true _ HV.out HSh.out (decide_eq_true HG.out)).mono ?_
      rintro e w1 ⟨rfl, hb1⟩
      go_wp2_with fail
      refine (l8set_to _ n f true _ (HU.out.below hb1) hn (decide_eq_true HRi.out)).mono ?_
      rintro e w2 ⟨rfl, rfl⟩
      go_wp2_with fail
      refine (l1in_to _ _ _ false _ (decide_eq_false HX.out)).mono ?_
      rintro e w3 ⟨rfl, rfl⟩
      go_wp2
      go_ret2
      exact ⟨rfl, hb1⟩
    · have HRi := hide hr
      clear hg hr hO
      go_enter Try.func27, Try.ntmps27
      go_wp2_with fail
      refine (spec_good _ k ts true _ HV.out HSh.out (decide_eq_true HG.out)).mono ?_
      rintro e w1 ⟨rfl, hb1⟩
      go_wp2_with fail
      refine (l8set_to _ n f false _ (HU.out.below hb1) hn (decide_eq_false HRi.out)).mono ?_
      rintro e w2 ⟨rfl, rfl⟩
      go_wp2
      go_ret2
      exact ⟨rfl, hb1⟩
  · have HG := hide hg
    clear hg hO
    go_enter Try.func27, Try.ntmps27
    go_wp2_with fail
    refine (spec_good _ k ts false _ HV.out HSh.out (decide_eq_false HG.out)).mono ?_
    rintro e w1 ⟨rfl, hb1⟩
    go_wp2
    go_ret2
    exact ⟨rfl, hb1⟩
set_option maxRecDepth 20000 in
set_option maxHeartbeats 1000000 in
theorem impl_least_no (v u : Value) (k n : Nat) (ts : Nat → Tk) (f : Nat → Int) (w : World) (hv : TasksOf w v k ts) (hs : Short k ts) (hu : IntsOf w u n f) (hn : n ≤ 1048576) (hO : ¬ (Okay k n ts f)) :
    Calls Try.prog 18 #[v, u] w fun e w' => e = .returned (.tuple #[.slice none 0 0, .int .i64 0, .bool false]) ∧ Below w.heap.size w w' := by
  have HV := hide hv
  obtain ⟨a, cap, rfl⟩ := hv.form
  have HU := hide hu
  obtain ⟨au, cu, rfl⟩ := hu.form
  have HSh := hide hs
  clear hv hu hs
  by_cases hK : Okay k n ts f
  · exact absurd hK hO
  · have HK := hide hK
    clear hK hO
    go_enter Try.func18, Try.ntmps18
    go_wp2_with fail
    refine (set_for_no _ _ k n ts f _ HV.out HSh.out HU.out hn HK.out).mono ?_
    rintro e w1 ⟨rfl, hbq⟩
    have hb1 := hbq
    clear hbq
    go_wp2_with (first | refine wpList_store_row rfl 63 _ _ rfl w1.heap.size _ rfl rfl 63 _ (heap_alloc_new _ _) (by rw [cf_size]; exact info_fs) (by rw [cf_size]; rfl) (all_one _) ?_ | fail)
    have hb2 := hb1.trans (((set_new w1 (fun _ => false) _ rfl _ rfl).2).mono hb1.size)
    all_goals first | exact bodyPost_ret (v := .tuple #[.slice none 0 0, .int .i64 0, .bool false]) (by simp [results, Try.results18, go_sem]) rfl ⟨rfl, hb2⟩ | (go_wp2; exact bodyPost_ret (v := .tuple #[.slice none 0 0, .int .i64 0, .bool false]) (by simp [results, Try.results18, go_sem]) rfl ⟨rfl, hb2⟩)
set_option maxRecDepth 20000 in
set_option maxHeartbeats 1000000 in
theorem impl_follows_no (v u : Value) (k n : Nat) (ts : Nat → Tk) (f : Nat → Int) (x : Int) (w : World) (hv : TasksOf w v k ts) (hs : Short k ts) (hu : IntsOf w u n f) (hn : n ≤ 1048576) (hO : ¬ (Okay k n ts f ∧ (0 ≤ x ∧ x ≤ 39))) :
    Calls Try.prog 26 #[v, u, .int .i64 x] w fun e w' => e = .returned (.tuple #[.bool false, .bool false]) ∧ Below w.heap.size w w' := by
  have HV := hide hv
  obtain ⟨a, cap, rfl⟩ := hv.form
  have HU := hide hu
  obtain ⟨au, cu, rfl⟩ := hu.form
  have HSh := hide hs
  clear hv hu hs
  by_cases hK : Okay k n ts f
  · have hx : ¬ (0 ≤ x ∧ x ≤ 39) := fun h => hO ⟨hK, h⟩
    have HK := hide hK
    have HX := hide hx
    clear hK hO hx
    go_enter Try.func26, Try.ntmps26
    go_wp2_with fail
    refine (set_for _ _ k n ts f _ HV.out HSh.out HU.out hn HK.out).mono ?_
    rintro e w1 ⟨rfl, hbq⟩
    have hb1 := hbq
    clear hbq
    go_wp2_with (first | refine wpList_store_row rfl 63 _ _ rfl w1.heap.size _ rfl rfl 63 _ (heap_alloc_new _ _) (by rw [cf_size]; exact info_fs) (by rw [cf_size]; rfl) (all_one _) ?_ | fail)
    refine (isfact_to _ false _ (decide_eq_false HX.out)).mono ?_
    rintro e w2 ⟨rfl, rfl⟩
    have hb2 := hb1.trans (((set_new w1 (sof f n) _ rfl _ rfl).2).mono hb1.size)
    go_wp2
    go_ret2
    exact ⟨rfl, hb2⟩
  · have HK := hide hK
    clear hK hO
    go_enter Try.func26, Try.ntmps26
    go_wp2_with fail
    refine (set_for_no _ _ k n ts f _ HV.out HSh.out HU.out hn HK.out).mono ?_
    rintro e w1 ⟨rfl, hbq⟩
    have hb1 := hbq
    clear hbq
    go_wp2_with (first | refine wpList_store_row rfl 63 _ _ rfl w1.heap.size _ rfl rfl 63 _ (heap_alloc_new _ _) (by rw [cf_size]; exact info_fs) (by rw [cf_size]; rfl) (all_one _) ?_ | fail)
    have hb2 := hb1.trans (((set_new w1 (fun _ => false) _ rfl _ rfl).2).mono hb1.size)
    all_goals first | (go_ret2; exact ⟨rfl, hb2⟩) | (go_wp2; go_ret2; exact ⟨rfl, hb2⟩)
set_option maxRecDepth 20000 in
set_option maxHeartbeats 1000000 in
theorem impl_why_no (v u : Value) (k n : Nat) (ts : Nat → Tk) (f : Nat → Int) (x : Int) (w : World) (hv : TasksOf w v k ts) (hs : Short k ts) (hu : IntsOf w u n f) (hn : n ≤ 1048576) (hO : ¬ (Okay k n ts f ∧ (0 ≤ x ∧ x ≤ 39))) :
    Calls Try.prog 28 #[v, u, .int .i64 x] w fun e w' => e = .returned (.tuple #[.slice none 0 0, .bool false]) ∧ Below w.heap.size w w' := by
  have HV := hide hv
  obtain ⟨a, cap, rfl⟩ := hv.form
  have HU := hide hu
  obtain ⟨au, cu, rfl⟩ := hu.form
  have HSh := hide hs
  clear hv hu hs
  have hb0 := (Below.refl w.heap.size w).alloc (Nat.le_refl _) (.cells #[.slice a k cap] 25)
  by_cases hK : Okay k n ts f
  · have hx : ¬ (0 ≤ x ∧ x ≤ 39) := fun h => hO ⟨hK, h⟩
    have HK := hide hK
    have HX := hide hx
    clear hK hO hx
    go_enter Try.func28, Try.ntmps28
    go_wp2_with fail
    refine (set_for _ _ k n ts f _ (HV.out.below hb0) HSh.out (HU.out.below hb0) hn HK.out).mono ?_
    rintro e w1 ⟨rfl, hbq⟩
    have hb1 := hb0.trans (hbq.mono hb0.size)
    clear hbq
    go_wp2_with (first | refine wpList_store_row rfl 63 _ _ rfl w1.heap.size _ rfl rfl 63 _ (heap_alloc_new _ _) (by rw [cf_size]; exact info_fs) (by rw [cf_size]; rfl) (all_one _) ?_ | fail)
    refine (isfact_to _ false _ (decide_eq_false HX.out)).mono ?_
    rintro e w2 ⟨rfl, rfl⟩
    have hb2 := hb1.trans (((set_new w1 (sof f n) _ rfl _ rfl).2).mono hb1.size)
    go_wp2
    go_ret2
    exact ⟨rfl, hb2⟩
  · have HK := hide hK
    clear hK hO
    go_enter Try.func28, Try.ntmps28
    go_wp2_with fail
    refine (set_for_no _ _ k n ts f _ (HV.out.below hb0) HSh.out (HU.out.below hb0) hn HK.out).mono ?_
    rintro e w1 ⟨rfl, hbq⟩
    have hb1 := hb0.trans (hbq.mono hb0.size)
    clear hbq
    go_wp2_with (first | refine wpList_store_row rfl 63 _ _ rfl w1.heap.size _ rfl rfl 63 _ (heap_alloc_new _ _) (by rw [cf_size]; exact info_fs) (by rw [cf_size]; rfl) (all_one _) ?_ | fail)
    have hb2 := hb1.trans (((set_new w1 (fun _ => false) _ rfl _ rfl).2).mono hb1.size)
    all_goals first | (go_ret2; exact ⟨rfl, hb2⟩) | (go_wp2; go_ret2; exact ⟨rfl, hb2⟩)
set_option maxHeartbeats 1000000 in
theorem spec_least (v u : Value) (k n : Nat) (ts : Nat → Tk) (f : Nat → Int) (w : World) (hv : TasksOf w v k ts) (hs : Short k ts) (hu : IntsOf w u n f) (hn : n ≤ 1048576) (hO : Okay k n ts f) :
    Calls Try.prog 16 #[v, u] w fun e w' => (∃ r, e = .returned (.tuple #[r, .int .i64 (((fi k n ts f).wk : Nat) : Int), .bool true]) ∧ w'.ownsRow w.heap.size 3 1 r (lst (fi k n ts f).inn 40).length ((lst (fi k n ts f).inn 40).map nv)) ∧ Below w.heap.size w w' := by
  have HV := hide hv
  obtain ⟨a, cap, rfl⟩ := hv.form
  have HU := hide hu
  obtain ⟨au, cu, rfl⟩ := hu.form
  have HSh := hide hs
  have HO := hide hO
  clear hv hu hs hO
  go_enter Try.func16, Try.ntmps16
  go_wp2_with fail
  refine (spec_good _ k ts true _ HV.out HSh.out (decide_eq_true HO.out.1)).mono ?_
  rintro e w1 ⟨rfl, hb1⟩
  go_wp2_with fail
  refine (l8set_to _ n f true _ (HU.out.below hb1) hn (decide_eq_true HO.out.2)).mono ?_
  rintro e w2 ⟨rfl, rfl⟩
  go_wp2_with fail
  refine (spec_run _ _ k n ts f _ (HV.out.below hb1) (HU.out.below hb1) HO.out).mono ?_
  rintro e w3 ⟨qv, cc, rfl, hR⟩
  generalize hF : fin (rls ts) k (nf f) n = F at *
  have HF := hide (show fi k n ts f = F from hF)
  clear hF
  obtain ⟨-, -, b, -, h0⟩ := hR
  have hb3 := hb1.trans (h0.2.2.2.2.1.mono hb1.size)
  have HB := hide h0.1
  clear h0
  go_wp2_with fail
  refine (spec_list _ _ _ _ ⟨rfl, HB.out⟩).mono ?_
  rintro e w4 ⟨⟨r, rfl, ho⟩, hb⟩
  have hb4 := hb3.trans (hb.mono hb3.size)
  have HR := hide (owns_mono ho hb3.size)
  clear ho hb HB
  go_wp2
  exact bodyPost_ret (v := .tuple #[r, .int .i64 ((F.wk : Nat) : Int), .bool true]) (by simp [results, Try.results16, go_sem]) rfl ⟨⟨_, by rw [HF.out], by rw [HF.out]; exact HR.out⟩, hb4⟩
set_option maxHeartbeats 1000000 in
theorem spec_follows (v u : Value) (k n : Nat) (ts : Nat → Tk) (f : Nat → Int) (x : Nat) (w : World) (hv : TasksOf w v k ts) (hs : Short k ts) (hu : IntsOf w u n f) (hn : n ≤ 1048576) (hO : Okay k n ts f) (hx : x < 40) :
    Calls Try.prog 25 #[v, u, .int .i64 (x : Int)] w fun e w' => e = .returned (.tuple #[.bool ((fi k n ts f).inn x), .bool true]) ∧ Below w.heap.size w w' := by
  have HV := hide hv
  obtain ⟨a, cap, rfl⟩ := hv.form
  have HU := hide hu
  obtain ⟨au, cu, rfl⟩ := hu.form
  have HSh := hide hs
  have HO := hide hO
  clear hv hu hs hO
  have HX := hide (show decide ((0 : Int) ≤ (x : Int) ∧ (x : Int) ≤ 39) = true by simp; omega)
  go_enter Try.func25, Try.ntmps25
  go_wp2_with fail
  refine (spec_good _ k ts true _ HV.out HSh.out (decide_eq_true HO.out.1)).mono ?_
  rintro e w1 ⟨rfl, hb1⟩
  go_wp2_with fail
  refine (l8set_to _ n f true _ (HU.out.below hb1) hn (decide_eq_true HO.out.2)).mono ?_
  rintro e w2 ⟨rfl, rfl⟩
  go_wp2_with fail
  refine (l1in_to _ _ _ true _ HX.out).mono ?_
  rintro e w2' ⟨rfl, rfl⟩
  go_wp2_with fail
  refine (spec_run _ _ k n ts f _ (HV.out.below hb1) (HU.out.below hb1) HO.out).mono ?_
  rintro e w3 ⟨qv, cc, rfl, hR⟩
  generalize hF : fin (rls ts) k (nf f) n = F at *
  have HF := hide (show fi k n ts f = F from hF)
  clear hF
  obtain ⟨-, -, b, -, h0⟩ := hR
  have hb3 := hb1.trans (h0.2.2.2.2.1.mono hb1.size)
  have c0 := h0.1.cell_bv hx
  clear h0
  have hx0 : (0 : Int) ≤ (x : Int) := by omega
  have hx1 : (x : Int) < 40 := by omega
  go_wp2
  go_ret2
  exact ⟨by rw [HF.out]; rfl, hb3⟩
set_option maxRecDepth 20000 in
set_option maxHeartbeats 1000000 in
theorem impl_follows (v u : Value) (k n : Nat) (ts : Nat → Tk) (f : Nat → Int) (x : Nat) (w : World) (hv : TasksOf w v k ts) (hs : Short k ts) (hu : IntsOf w u n f) (hn : n ≤ 1048576) (hO : Okay k n ts f) (hx : x < 40) :
    Calls Try.prog 26 #[v, u, .int .i64 (x : Int)] w fun e w' => e = .returned (.tuple #[.bool ((fi k n ts f).inn x), .bool true]) ∧ Below w.heap.size w w' := by
  have HV := hide hv
  obtain ⟨a, cap, rfl⟩ := hv.form
  have HU := hide hu
  obtain ⟨au, cu, rfl⟩ := hu.form
  have HSh := hide hs
  have HO := hide hO
  clear hv hu hs hO
  have HX := hide (show decide ((0 : Int) ≤ (x : Int) ∧ (x : Int) ≤ 39) = true by simp; omega)
  go_enter Try.func26, Try.ntmps26
  go_wp2_with fail
  refine (set_for _ _ k n ts f _ HV.out HSh.out HU.out hn HO.out).mono ?_
  rintro e w1 ⟨rfl, hb1⟩
  have HST := hide (set_new w1 (sof f n))
  go_wp2_with (first | refine wpList_store_row rfl 63 _ _ rfl w1.heap.size _ rfl rfl 63 _ (heap_alloc_new _ _) (by rw [cf_size]; exact info_fs) (by rw [cf_size]; rfl) (all_one _) ?_ | fail)
  generalize hW : (w1.alloc _).setRow _ _ = w2
  obtain ⟨h2, hb⟩ := HST.out _ rfl w2 hW.symm
  have hb2 := hb1.trans (hb.mono hb1.size)
  clear hb hW HST
  refine (isfact_to _ true _ HX.out).mono ?_
  rintro e w2' ⟨rfl, rfl⟩
  go_wp2_with (first | refine wpList_load_row rfl 63 _ rfl w1.heap.size rfl 63 _ (0, 0) _ h2 Try.underlying63 rfl info_fs ?_ | fail)
  refine (impl_reckon _ k n ts f _ (HV.out.below hb2) HO.out).mono ?_
  rintro e w3 ⟨⟨wb, gR, vc, vf, gc, wt, rfl, hwb, hI⟩, hb⟩
  generalize hF : fin (rls ts) k (nf f) n = F at *
  have HF := hide (show fi k n ts f = F from hF)
  clear hF
  have hb3 := hb2.trans (hb.mono hb2.size)
  have c0 := rk_cell_in hI.2.hr hx
  clear hI hb h2
  have hx0 : (0 : Int) ≤ (x : Int) := by omega
  have hx1 : (x : Int) < 40 := by omega
  go_wp2
  go_ret2
  exact ⟨by rw [HF.out]; rfl, hb3⟩
set_option maxRecDepth 20000 in
set_option maxHeartbeats 2000000 in
theorem impl_least (v u : Value) (k n : Nat) (ts : Nat → Tk) (f : Nat → Int) (w : World) (hv : TasksOf w v k ts) (hs : Short k ts) (hu : IntsOf w u n f) (hn : n ≤ 1048576) (hO : Okay k n ts f) :
    Calls Try.prog 18 #[v, u] w fun e w' => (∃ r, e = .returned (.tuple #[r, .int .i64 (((fi k n ts f).wk : Nat) : Int), .bool true]) ∧ w'.ownsRow w.heap.size 3 1 r (lst (fi k n ts f).inn 40).length ((lst (fi k n ts f).inn 40).map nv)) ∧ Below w.heap.size w w' := by
  have HV := hide hv
  obtain ⟨a, cap, rfl⟩ := hv.form
  have HU := hide hu
  obtain ⟨au, cu, rfl⟩ := hu.form
  have HSh := hide hs
  have HO := hide hO
  clear hv hu hs hO
  go_enter Try.func18, Try.ntmps18
  go_wp2_with fail
  refine (set_for _ _ k n ts f _ HV.out HSh.out HU.out hn HO.out).mono ?_
  rintro e w1 ⟨rfl, hb1⟩
  go_wp2_with (first | refine wpList_store_row rfl 63 _ _ rfl w1.heap.size _ rfl rfl 63 _ (heap_alloc_new _ _) (by rw [cf_size]; exact info_fs) (by rw [cf_size]; rfl) (all_one _) ?_ | refine stop_at (some 19) rfl (fun W => Blk W w1.heap.size 40 (bv (sof f n)) 63 ∧ Below w1.heap.size w1 W) ?hR ?_)
  case hR => exact hide (set_new w1 (sof f n) _ rfl _ rfl)
  rintro w2 ⟨h2, hb⟩
  have hb2 := hb1.trans (hb.mono hb1.size)
  clear hb
  go_wp2_with (first | refine wpList_load_row rfl 63 _ rfl w1.heap.size rfl 63 _ (0, 0) _ h2 Try.underlying63 rfl info_fs ?_ | fail)
  refine (impl_reckon _ k n ts f _ (HV.out.below hb2) HO.out).mono ?_
  rintro e w3 ⟨⟨wb, gR, vc, vf, gc, wt, rfl, hwb, hI⟩, hb⟩
  generalize hF : fin (rls ts) k (nf f) n = F at *
  have HF := hide (show fi k n ts f = F from hF)
  clear hF
  have hb3 := hb2.trans (hb.mono hb2.size)
  have hr := hI.2.hr
  have r3 := rk_range hr
  have k3 := (rk_cells hr).2.2.2
  have HFull := hide hr
  clear hI hb h2 hwb
  generalize hin : F.inn = inn at *
  generalize hwk : F.wk = wk at *
  have HFi := hide (And.intro hin hwk)
  clear hin hwk
  have r3d : w3.drew.rangeAt gR 1 ((List.range 40).map (bv inn)) := r3
  have k3d : w3.drew.cell? ⟨gR, 83, none⟩ = some (.int .i64 (wk : Int)) := k3
  have hu40 : Try.prog.underlying 63 = some (.array 40 4) := Try.underlying63
  have hi40 : (Try.prog.info? 63).map (·.size) = some ((List.range 40).map (bv inn)).length := by rw [List.length_map, List.length_range]; exact info_fs
  have HL := hide (show ∀ W, Below w3.heap.size w3 W → Calls Try.prog 48 #[fs inn] W fun e w' => (∃ r, e = .returned r ∧ w'.ownsRow W.heap.size 3 1 r (lst inn 40).length ((lst inn 40).map nv)) ∧ Below W.heap.size W w' from fun W _ => set_list inn W)
  have hb3d := (Below.refl w3.heap.size w3).drew
  go_upto_region 5 with fail
  go_region_held (fun W => W.rangeAt gR 1 ((List.range 40).map (bv inn)) ∧ W.cell? ⟨gR, 83, none⟩ = some (.int .i64 (wk : Int))) (first | exact ⟨r3, k3⟩ | exact ⟨r3d, k3d⟩ | exact ⟨r3c, k3c⟩) (first | (go_at_call 48; refine Calls.mono (HL.out _ (by first | exact Below.refl _ _ | exact hb3d)) ?_; rintro e wc ⟨⟨rr, rfl, ho⟩, hbc⟩; have r3c := rk_range (HFull.out.down (hb3d.trans (hbc.mono hb3d.size))); have k3c := (rk_cells (HFull.out.down (hb3d.trans (hbc.mono hb3d.size)))).2.2.2; have hbC := hb3.trans ((hb3d.trans (hbc.mono hb3d.size)).mono hb3.size); have HRr := hide (owns_mono ho (Nat.le_trans hb3.size hb3d.size)); clear HL ho hbc))
  all_goals
    go_wp2
    exact bodyPost_ret (v := .tuple #[rr, .int .i64 (wk : Int), .bool true]) (by simp [results, Try.results18, go_sem]) rfl ⟨⟨_, by rw [HF.out, HFi.out.2], by rw [HF.out, HFi.out.1]; exact HRr.out⟩, hbC⟩
end Go.Proofs.Ytpabnncfcklnpaa

/-
  CutItems in both texts: the items of the events up to an Id.
-/
import Derived.Test.YtbajiamkgffhkaaDoorItQ
import Derived.Lib.SlBuf
import Derived.Laws.CopyRow
namespace Go.Proofs.YtbajiamkgffhkaaDoor
open Go.RowKit M
open Clk (upd upd_same upd_other)
namespace M
/-- Items cut at x, each for itself. -/
def cm (l : Nat → Im) (x : Int) : Nat → Im := fun i => ⟨min (l i).u x, (l i).v⟩
theorem cm_ah (l : Nat → Im) {x : Int} (h : 0 ≤ x) (j : Nat) : (ah (cm l x) j = x) ↔ x ≤ ah l j := by
  cases j with
  | zero => rw [ah_zero, ah_zero]; omega
  | succ j => rw [ah_succ, ah_succ]; unfold cm; show min (l j).u x = x ↔ _; omega
theorem cm_cut {n c : Nat} {l : Nat → Im} {x : Int} (h : Beg n l x c) (h2 : x ≤ ah l n) : ∀ i, i < c → cm l x i = cutL l x c i := by
  intro i hi
  obtain ⟨k, rfl⟩ : ∃ k, c = k + 1 := ⟨c - 1, by omega⟩
  have ht := h.top h2
  show cm l x i = upd l k ⟨x, (l k).v⟩ i
  by_cases e : i = k
  · subst e
    rw [upd_same]
    unfold cm
    rw [show min (l i).u x = x by omega]
  · rw [upd_other _ _ _ _ e]
    have := h.2.1 (i + 1) (by omega)
    rw [ah_succ] at this
    unfold cm
    rw [show min (l i).u x = (l i).u by omega]
def CutOk (n : Nat) (l : Nat → Im) (x : Int) : Prop := GoodI n l ∧ 0 ≤ x ∧ x ≤ ah l n
theorem beg_ex (l : Nat → Im) (x : Int) : ∀ n : Nat, ∃ c, Beg n l x c
  | 0 => ⟨0, Nat.le_refl _, fun i h => absurd h (by omega), fun h => absurd h (by omega)⟩
  | n + 1 => by
    obtain ⟨c, h1, h2, h3⟩ := beg_ex l x n
    by_cases e : c < n
    · exact ⟨c, by omega, h2, fun _ => h3 e⟩
    · obtain rfl : c = n := by omega
      by_cases f : ah l c < x
      · exact ⟨c + 1, Nat.le_refl _, fun i hi => by
          by_cases g : i = c
          · subst g; exact f
          · exact h2 i (by omega), fun h => absurd h (by omega)⟩
      · exact ⟨c, by omega, h2, fun _ => by omega⟩
theorem cf_list (n : Nat) (l : Nat → Im) : (tvs n l).toArray = cf (n * 2) (tv l) := rfl
end M
theorem run_copy_items (w : World) (ty : TypeId) (g c cs' : Nat) (a : Addr) (cur : Array Value) (l : Nat → Im) (hg : w.heap[g]? = some (.cells cur 57 (0, 0))) (hcur : cur.size = c * 2)
    (hsrc : ∀ j v, (tvs c l)[j]? = some v → w.cell? (a.add j) = some v) :
    (Builtin.copy_ #[24, 24] ty #[.slice (some ⟨g, 0, none⟩) c c, .slice (some a) c cs']).run Tryd.prog w = .ok (goInt c) (w.setRow g (cf (c * 2) (tv l))) := by
  obtain ⟨i, hi, hz0, hz1, hz2⟩ := info_parts info_item
  have hl := run_loadCells_list (P := Tryd.prog) w a (tvs c l) hsrc
  have hst := run_storeCells_at Tryd.prog g 0 57 (tvs c l) 0 cur w hg (by rw [tvs_len]; omega) (one_tvs c l)
  rw [tvs_len] at hl
  have hd : (cur.toList.take (0 + 0) ++ tvs c l ++ cur.toList.drop (0 + 0 + (tvs c l).length)).toArray = cf (c * 2) (tv l) := by
    rw [tvs_len, List.drop_of_length_le (by simp; omega), ← cf_list]
    simp
  rw [hd] at hst
  simp [Builtin.copy_, run_underlying Tryd.underlying24, Builtin.lenOf, Builtin.firstCells, sizeOf, typeInfo, hi, hz1, hl, hst]
theorem run_copy_noitems (w : World) (ty : TypeId) (g cs' : Nat) (a : Option Addr) :
    (Builtin.copy_ #[24, 24] ty #[.slice (some ⟨g, 0, none⟩) 0 0, .slice a 0 cs']).run Tryd.prog w = .ok (goInt 0) w := by
  obtain ⟨i, hi, hz0, hz1, hz2⟩ := info_parts info_item
  have hl : ∀ (x : Addr), (loadCells x 0).run Tryd.prog w = .ok #[] w := fun x => by simpa using run_loadCells_list (P := Tryd.prog) w x [] (by simp)
  cases a <;> simp [Builtin.copy_, run_underlying Tryd.underlying24, Builtin.lenOf, Builtin.firstCells, sizeOf, typeInfo, hi, storeCells, hl]
namespace M
/-- What CutItems answers. -/
def CP (w w' : World) (n : Nat) (l : Nat → Im) (x : Int) (e : Ending) : Prop :=
  ((CutOk n l x ∧ ∃ r c, e = .returned (.tuple #[r, .bool true]) ∧ Beg n l x c ∧ AnsT w' w.heap.size r c (cutL l x c)) ∨ (¬ CutOk n l x ∧ e = .returned (.tuple #[.slice none 0 0, .bool false]))) ∧ Below w.heap.size w w'
end M
set_option maxRecDepth 20000 in
set_option maxHeartbeats 4000000 in
theorem spec_cutL (v : Value) (n : Nat) (l : Nat → Im) (x : Int) (w : World) (hv : ItemsOf w v n l) (hn : n ≤ 1048576) (hx : 0 ≤ x) :
    Calls Tryd.prog 41 #[v, .int .i64 x] w fun e w' => (∃ r c, e = .returned r ∧ Beg n l x c ∧ AnsT w' w.heap.size r c (cm l x)) ∧ Below w.heap.size w w' := by
  obtain ⟨a, cap, rfl, hr⟩ := hv
  have HR := hide hr
  obtain ⟨i0, hi, hz0, hz1, hz2⟩ := info_parts info_item
  clear hr
  go_enter Tryd.func41, Tryd.ntmps41
  go_wp2
  go_loopw [5, 10] (fun o i wr => ∃ (j : Nat) (ao : Option Addr) (c : Nat), j ≤ n ∧ i = .int .i64 j ∧ o = .slice ao j c ∧ Hid (wr.ownsRow w.heap.size 57 2 (.slice ao j c) j (tvs j (cm l x))) ∧ Hid (∀ q, q < j → ah l q < x) ∧ Below w.heap.size w wr) (fun _ i _ => n - (intOf i).toNat)
  case atStart => exact ⟨0, none, 0, Nat.zero_le _, rfl, rfl, hide (World.ownsRow_nil _ _ _ _), hide (fun q h => absurd h (by omega)), Below.refl _ _⟩
  case round =>
    obtain ⟨j, ao, c, hj, rfl, rfl, HO, HA, hbw⟩ := hrel
    by_cases hlt : j < n
    · obtain ⟨b, off, rfl, hb, hrow⟩ := HR.out (by omega)
      have c0 := (hbw.cell (p := ⟨b, off + j * 2, none⟩) hb).trans (hrow j hlt).1
      have c1 := (hbw.cell (p := ⟨b, off + j * 2 + 1, none⟩) hb).trans (hrow j hlt).2
      have hdx := (Below.refl wr.heap.size wr).alloc (Nat.le_refl _) (.cells #[.int .i64 (l j).u, .int .i64 (l j).v] 57)
      have hbw2 := hbw.trans (hdx.mono hbw.size)
      have HO2 := hide (owns_below HO.out hdx)
      have hdy := (Below.refl wr.heap.size wr).alloc (Nat.le_refl _) (.cells #[.int .i64 x, .int .i64 (l j).v] 57)
      have hbw3 := hbw.trans (hdy.mono hbw.size)
      have HO3 := hide (owns_below HO.out hdy)
      clear HR hrow HO
      go_wp2_with fail
      refine (spec_last _ j (cm l x) _ (own_ansT HO2.out).items (by omega)).mono ?_
      rintro e w1 ⟨rfl, rfl⟩
      by_cases hs : x ≤ ah l j
      · have he : (ah (cm l x) j == x) = true := by rw [beq_iff_eq]; exact (cm_ah l hx j).2 hs
        have HB := hide (show Beg n l x j from ⟨hj, HA.out, fun _ => hs⟩)
        have HT := hide (own_ansT HO2.out)
        clear HA HO2 HO3
        generalize ah (cm l x) j = y at *
        go_wp2
        go_ret
        exact ⟨⟨_, j, rfl, HB.out, HT.out⟩, hbw2⟩
      · have he : (ah (cm l x) j == x) = false := by rw [Bool.eq_false_iff]; intro h; rw [beq_iff_eq] at h; exact hs ((cm_ah l hx j).1 h)
        have HA2 := hide (show ∀ q, q < j + 1 → ah l q < x from fun q hq => by
          by_cases e : q = j
          · subst e; omega
          · exact HA.out q (by omega))
        have HSN := hide (tvs_snoc j (cm l x))
        have hown := HO2.out
        have hownx := HO3.out
        clear HA HO2 HO3
        generalize ah (cm l x) j = y at *
        by_cases hu : (l j).u > x
        · have hu2 : decide ((l j).u > x) = true := decide_eq_true hu
          have HCM := hide (show cm l x j = ⟨x, (l j).v⟩ by unfold cm; rw [show min (l j).u x = x by omega])
          have hsz := hbw3.size
          go_wp2_with (at_builtin; refine wpList_append_own _ rfl _ _ 24 rfl w.heap.size 57 i0 _ 2 16 Tryd.underlying24 hi hz0 hz1 hz2 rfl (by decide) _ j _ rfl (hownx.alloc _) ⟨wr.heap.size + 1, 0, none⟩ 1 1 [.int .i64 x, .int .i64 (l j).v] rfl rfl (news2' (wr.alloc (.cells #[.int .i64 x, .int .i64 (l j).v] 57)) _ _ _ _ (by simp)) (one2 _ _) (by unfold maxLen; omega) (by omega) (by have := hbw.size; simp; omega) ?_)
          intro v' w6 hown6 hgrow6 _
          have hbw6 : Below w.heap.size w w6 := (hbw3.alloc hbw3.size _).grown hgrow6 (by have := hbw.size; simp; omega) (fun q hq => (hownx.lt q hq).1)
          obtain ⟨a6, c6, rfl⟩ := own_form hown6
          have HO6 := hide (show w6.ownsRow w.heap.size 57 2 (.slice a6 (j + 1) c6) (j + 1) (tvs (j + 1) (cm l x)) by rw [HSN.out, HCM.out]; exact hown6)
          clear hown hownx hown6 hgrow6 hbw2 hbw3 hdx hdy
          go_wp2
          exact ⟨⟨j + 1, a6, c6, by omega, by go_num, rfl, HO6, HA2, hbw6⟩, by simp [intOf]; omega⟩
        · have hu2 : decide ((l j).u > x) = false := decide_eq_false hu
          have HCM := hide (show cm l x j = ⟨(l j).u, (l j).v⟩ by unfold cm; rw [show min (l j).u x = (l j).u by omega])
          have hsz := hbw2.size
          go_wp2_with (at_builtin; refine wpList_append_own _ rfl _ _ 24 rfl w.heap.size 57 i0 _ 2 16 Tryd.underlying24 hi hz0 hz1 hz2 rfl (by decide) _ j _ rfl (hown.alloc _) ⟨wr.heap.size + 1, 0, none⟩ 1 1 [.int .i64 (l j).u, .int .i64 (l j).v] rfl rfl (news2' (wr.alloc (.cells #[.int .i64 (l j).u, .int .i64 (l j).v] 57)) _ _ _ _ (by simp)) (one2 _ _) (by unfold maxLen; omega) (by omega) (by have := hbw.size; simp; omega) ?_)
          intro v' w6 hown6 hgrow6 _
          have hbw6 : Below w.heap.size w w6 := (hbw2.alloc hbw2.size _).grown hgrow6 (by have := hbw.size; simp; omega) (fun q hq => (hown.lt q hq).1)
          obtain ⟨a6, c6, rfl⟩ := own_form hown6
          have HO6 := hide (show w6.ownsRow w.heap.size 57 2 (.slice a6 (j + 1) c6) (j + 1) (tvs (j + 1) (cm l x)) by rw [HSN.out, HCM.out]; exact hown6)
          clear hown hownx hown6 hgrow6 hbw2 hbw3 hdx hdy
          go_wp2
          exact ⟨⟨j + 1, a6, c6, by omega, by go_num, rfl, HO6, HA2, hbw6⟩, by simp [intOf]; omega⟩
    · obtain rfl : j = n := by omega
      have HB := hide (show Beg j l x j from ⟨Nat.le_refl _, HA.out, fun h => absurd h (by omega)⟩)
      have HT := hide (own_ansT HO.out)
      clear HR HO HA
      go_wp2
      go_ret
      exact ⟨⟨_, j, rfl, HB.out, HT.out⟩, hbw⟩
set_option maxRecDepth 20000 in
set_option maxHeartbeats 4000000 in
theorem spec_cut (v : Value) (n : Nat) (l : Nat → Im) (x : Int) (w : World) (hv : ItemsOf w v n l) (hn : n ≤ 1048576) :
    Calls Tryd.prog 21 #[v, .int .i64 x] w fun e w' => CP w w' n l x e := by
  have HV := hide hv
  obtain ⟨a, cap, rfl⟩ := hv.form
  clear hv
  cases hg : decide (GoodI n l)
  · have HN := hide (show ¬ CutOk n l x from fun h => of_decide_eq_false hg h.1)
    go_enter Tryd.func21, Tryd.ntmps21
    go_wp2_with fail
    refine (spec_goodI _ n l _ HV.out hn).mono ?_
    rintro e w1 ⟨rfl, hb1⟩
    rw [hg]
    clear HV
    go_wp2
    go_ret2
    exact ⟨.inr ⟨HN.out, rfl⟩, hb1⟩
  cases hi : inB x 0 (ah l n)
  · have HN := hide (show ¬ CutOk n l x from fun h => by rw [inB_iff.2 h.2] at hi; cases hi)
    go_enter Tryd.func21, Tryd.ntmps21
    go_wp2_with fail
    refine (spec_goodI _ n l _ HV.out hn).mono ?_
    rintro e w1 ⟨rfl, hb1⟩
    rw [hg]
    go_wp2_with fail
    refine (spec_last _ n l _ (HV.out.below hb1) hn).mono ?_
    rintro e w2 ⟨rfl, rfl⟩
    go_wp2_with fail
    refine (spec_in _ _ _ _).mono ?_
    rintro e w3 ⟨rfl, rfl⟩
    rw [hi]
    clear HV
    go_wp2
    go_ret2
    exact ⟨.inr ⟨HN.out, rfl⟩, hb1⟩
  · have HP := hide (show CutOk n l x from ⟨of_decide_eq_true hg, inB_iff.1 hi⟩)
    have hx0 := HP.out.2.1
    go_enter Tryd.func21, Tryd.ntmps21
    go_wp2_with fail
    refine (spec_goodI _ n l _ HV.out hn).mono ?_
    rintro e w1 ⟨rfl, hb1⟩
    rw [hg]
    go_wp2_with fail
    refine (spec_last _ n l _ (HV.out.below hb1) hn).mono ?_
    rintro e w2 ⟨rfl, rfl⟩
    go_wp2_with fail
    refine (spec_in _ _ _ _).mono ?_
    rintro e w3 ⟨rfl, rfl⟩
    rw [hi]
    go_wp2_with fail
    refine (spec_cutL _ n l x _ (HV.out.below hb1) hn hx0).mono ?_
    rintro e w4 ⟨⟨r, c, rfl, hc, hA⟩, hb4⟩
    have hB := hb1.trans (hb4.mono hb1.size)
    have HA := hide ((hA.mono hb1.size).ext (cm_cut hc HP.out.2.2))
    have HC := hide hc
    obtain ⟨ar, cr, rfl⟩ := hA.form
    clear hA hc hb4 hb1 HV
    go_wp2
    go_ret2
    exact ⟨.inl ⟨HP.out, _, c, rfl, HC.out, HA.out⟩, hB⟩
set_option maxRecDepth 20000 in
set_option maxHeartbeats 4000000 in
theorem impl_cut (a : Option Addr) (n cap : Nat) (l : Nat → Im) (x : Int) (w : World) (hv : ItemsOf w (.slice a n cap) n l) (hcap : n ≤ cap) (hn : n ≤ 1048576) :
    Calls Tryd.prog 20 #[.slice a n cap, .int .i64 x] w fun e w' => CP w w' n l x e := by
  have HV := hide hv
  clear hv
  cases hg : decide (GoodI n l)
  · have HN := hide (show ¬ CutOk n l x from fun h => of_decide_eq_false hg h.1)
    go_enter Tryd.func20, Tryd.ntmps20
    go_wp2_with fail
    refine (impl_goodI _ n l _ HV.out hn).mono ?_
    rintro e w1 ⟨rfl, hb1⟩
    rw [hg]
    clear HV
    go_wp2
    go_ret2
    exact ⟨.inr ⟨HN.out, rfl⟩, hb1⟩
  have hfld : ∀ W : World, (Instr.field 57 (.agg #[.int .i64 (lst l n).u, .int .i64 (lst l n).v]) 0).run Tryd.prog W = .ok (.int .i64 (ah l n)) W := fun W => by unfold ah; generalize lst l n = y; kernel_rfl
  cases hi : inB x 0 (ah l n)
  · have HN := hide (show ¬ CutOk n l x from fun h => by rw [inB_iff.2 h.2] at hi; cases hi)
    go_enter Tryd.func20, Tryd.ntmps20
    go_wp2_with fail
    refine (impl_goodI _ n l _ HV.out hn).mono ?_
    rintro e w1 ⟨rfl, hb1⟩
    rw [hg]
    go_wp2_with fail
    refine (impl_last _ n l _ (HV.out.below hb1) hn).mono ?_
    rintro e w2 ⟨rfl, hb2⟩
    have hb3 := hb1.trans (hb2.mono hb1.size)
    clear hb1 hb2
    go_wp2_with fail
    refine (impl_in _ _ _ _).mono ?_
    rintro e w3 ⟨rfl, rfl⟩
    rw [hi]
    clear HV
    go_wp2
    go_ret2
    exact ⟨.inr ⟨HN.out, rfl⟩, hb3⟩
  · have HP := hide (show CutOk n l x from ⟨of_decide_eq_true hg, inB_iff.1 hi⟩)
    go_enter Tryd.func20, Tryd.ntmps20
    go_wp2_with fail
    refine (impl_goodI _ n l _ HV.out hn).mono ?_
    rintro e w1 ⟨rfl, hb1⟩
    rw [hg]
    go_wp2_with fail
    refine (impl_last _ n l _ (HV.out.below hb1) hn).mono ?_
    rintro e w2 ⟨rfl, hb2⟩
    have hb3 := hb1.trans (hb2.mono hb1.size)
    clear hb1 hb2
    go_wp2_with fail
    refine (impl_in _ _ _ _).mono ?_
    rintro e w3 ⟨rfl, rfl⟩
    rw [hi]
    go_wp2_with fail
    refine (impl_begun _ n l x _ (HV.out.below hb3) hn).mono ?_
    rintro e w4 ⟨⟨c, rfl, hc⟩, hb4⟩
    have hB := hb3.trans (hb4.mono hb3.size)
    have HC := hide hc
    have hcn := hc.1
    have hmk := make_items c (by omega)
    have hdn := (Below.refl w4.heap.size w4).alloc (Nat.le_refl _) (.cells (cf (c * 2) (tv fun _ => im0)) 57)
    have HV4 := hide ((HV.out.below hB).below hdn)
    have hB5 := hB.trans (hdn.mono hB.size)
    have HBK := hide (Blk.new w4 (c * 2) (tv fun _ => im0) 57)
    have hcc : (c : Int) ≤ (cap : Int) := by omega
    clear hc hb3 hb4 HV hfld hdn
    by_cases h0 : c = 0
    · subst h0
      have hmk0 : ∀ W : World, (Instr.makeSlice 24 (.int .i64 0) (.int .i64 0)).run Tryd.prog W = .ok (.slice (some ⟨W.heap.size, 0, none⟩) 0 0) (W.alloc (.cells (cf (0 * 2) (tv fun _ => im0)) 57)) := make_items 0 (by omega)
      have HO := hide (show AnsT (w4.alloc (.cells (cf (0 * 2) (tv fun _ => im0)) 57)) w.heap.size (.slice (some ⟨w4.heap.size, 0, none⟩) 0 0) 0 (cutL l x 0) from .inr ⟨_, 0, rfl, hB.size, (Blk.ownI (n := 0) HBK.out).ext (fun i h => absurd h (by omega))⟩)
      clear hmk
      go_wp2_with (refine Lib.wpList_copy_run _ rfl _ _ 24 24 rfl _ _ rfl rfl (run_copy_noitems _ _ _ _ _) ?_)
      go_ret2
      exact ⟨.inl ⟨HP.out, _, 0, rfl, HC.out, HO.out⟩, hB5⟩
    · have HW := hide (show ∃ b off, a = some ⟨b, off, none⟩ from by
        obtain ⟨a1, cp1, he, hr⟩ := HV4.out
        obtain ⟨b, off, ha, -⟩ := hr (by omega)
        cases he
        exact ⟨b, off, ha⟩)
      obtain ⟨b, off, rfl⟩ := HW.out
      obtain ⟨k, hk⟩ : ∃ k, c = k + 1 := ⟨c - 1, by omega⟩
      have HK := hide hk
      have hk1 : (c : Int) - 1 = (k : Int) := by omega
      have hkc : (k : Int) < (c : Int) := by omega
      have hki : (0 : Int) ≤ (k : Int) := by omega
      have hk2 : decide ((c : Int) > 0) = true := decide_eq_true (by omega)
      have HCP := hide (fun ty => run_copy_items (w4.alloc (.cells (cf (c * 2) (tv fun _ => im0)) 57)) ty w4.heap.size c c ⟨b, off, none⟩ _ l HBK.out (cf_size _ _) (items_holds HV4.out hcn _ rfl))
      obtain ⟨W5, hrun, hblk, hbel⟩ : ∃ W5, (∀ ty, (Builtin.copy_ #[24, 24] ty #[.slice (some ⟨w4.heap.size, 0, none⟩) c c, .slice (some ⟨b, off, none⟩) c c]).run Tryd.prog (w4.alloc (.cells (cf (c * 2) (tv fun _ => im0)) 57)) = .ok (goInt c) W5) ∧ Blk W5 w4.heap.size (c * 2) (tv l) 57 ∧ Below w.heap.size w W5 :=
        ⟨_, HCP.out, setRow_heap _ _ _ _ _ _ HBK.out, below_setRow hB5 hB.size _⟩
      have HRN := hide hrun
      have hO := Blk.ownI (n := c) hblk
      have c0 := (hO.cell (show k < c by omega)).1
      have f0 := hO.thaw (k * 2)
      have HO := hide (hO.setU k x)
      have hB6 := hbel.setCell (p := ⟨w4.heap.size, k * 2, none⟩) hB.size (.int .i64 x)
      have HG := hide hB.size
      clear HW HCP hrun hblk hO hbel hB5 HBK hk h0
      go_wp2_with (refine Lib.wpList_copy_run _ rfl _ _ 24 24 rfl _ _ rfl rfl (HRN.out _) ?_)
      go_ret2
      exact ⟨.inl ⟨HP.out, _, c, rfl, HC.out, .inr ⟨_, c, rfl, HG.out, by rw [show cutL l x c = upd l k ⟨x, (l k).v⟩ by rw [HK.out]; rfl]; exact HO.out⟩⟩, hB6⟩
end Go.Proofs.YtbajiamkgffhkaaDoor

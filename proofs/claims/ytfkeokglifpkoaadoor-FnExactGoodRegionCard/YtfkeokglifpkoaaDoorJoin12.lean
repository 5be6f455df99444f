/-
  Names that are good, and GoodState in both texts: each returns whether; nothing that was there is turned.
-/
import Derived.Test.YtfkeokglifpkoaaDoorJoin10
namespace Go.Proofs.YtfkeokglifpkoaaDoor
open Go.RowKit M
open Go.Sort (grow)
namespace M
/-- A slice of texts that is read, its length within its capacity. -/
def TxC (w : World) (v : Value) (l : Txs) : Prop := TxsOf w v l ∧ ∃ a c, v = .slice a l.length c ∧ l.length ≤ c ∧ (a = none → c = 0)
theorem TxC.below {w w' : World} {v : Value} {l : Txs} (h : TxC w v l) (hb : Below w.heap.size w w') : TxC w' v l := ⟨h.1.below hb, h.2⟩
theorem OwnT.c {w : World} {B : Nat} {v : Value} {l : Txs} (h : OwnT w B v l) : TxC w v l := by
  refine ⟨h.txs, ?_⟩
  rcases h.split with ⟨rfl, rfl⟩ | ⟨g, cap, rfl, _, _, hc, _⟩
  · exact ⟨_, _, rfl, Nat.le_refl _, fun _ => rfl⟩
  · exact ⟨_, _, rfl, hc, fun h => by cases h⟩
theorem TxC.parts {w : World} {v : Value} {l : Txs} (h : TxC w v l) : ∃ a cap, v = .slice a l.length cap ∧ l.length ≤ cap ∧ (0 < l.length → ∃ b off, a = some ⟨b, off, none⟩ ∧ b < w.heap.size ∧ ∀ i x, l[i]? = some x → w.cell? ⟨b, off + i, none⟩ = some (.string x)) := by
  obtain ⟨⟨a, cap, rfl, hr⟩, a', c', hv, hc, -⟩ := h
  simp only [Value.slice.injEq, true_and] at hv
  obtain ⟨rfl, rfl⟩ := hv
  exact ⟨a, cap, rfl, hc, hr⟩
theorem TxC.nil0 {w : World} {n c : Nat} {l : Txs} (h : TxC w (.slice none n c) l) : n = 0 ∧ c = 0 ∧ l = [] := by
  obtain ⟨⟨a, cap, hv1, hr⟩, a', c', hv, hc, h0⟩ := h
  simp only [Value.slice.injEq] at hv hv1
  obtain ⟨rfl, h1, rfl⟩ := hv
  have := h0 rfl
  have h2 : l.length = 0 := by omega
  exact ⟨by omega, this, List.length_eq_zero_iff.1 h2⟩
theorem gt_of {x y : ByteArray} (hne : y ≠ x) (h : ltS y x = false) : ltS x y = true := by
  rcases lt_tri x y with h1 | h1 | h1
  · exact h1
  · exact absurd h1.symm hne
  · rw [h] at h1; cases h1
/-- Those ahead of place j are told apart from x, which stands at place k. -/
def Ahd (r : Bool) (l : Txs) (x : ByteArray) (k j : Nat) : Prop := ∀ m y, m < j → l[m]? = some y → y ≠ x ∧ (r = true → m + 1 = k → ltS x y = false)
theorem Ahd.zero (r : Bool) (l : Txs) (x : ByteArray) (k : Nat) : Ahd r l x k 0 := fun m y hm => by omega
theorem Ahd.succ {r : Bool} {l : Txs} {x y : ByteArray} {k j : Nat} (h : Ahd r l x k j) (hy : l[j]? = some y) (h2 : y ≠ x) (h3 : r = true → j + 1 = k → ltS x y = false) : Ahd r l x k (j + 1) := fun m z hm hz => by
  by_cases c : m = j
  · subst c
    rw [hy] at hz
    simp only [Option.some.injEq] at hz
    subst hz; exact ⟨h2, h3⟩
  · exact h m z (by omega) hz
theorem Ahd.at {r : Bool} {l : Txs} {x : ByteArray} {k : Nat} (h : Ahd r l x k k) (hx : l[k]? = some x) (hg : gN x = true) : NmAt r l k := fun z hz => by
  rw [hx] at hz
  simp only [Option.some.injEq] at hz
  subst hz; exact ⟨hg, h⟩
theorem NmUp.bad {r : Bool} {l : Txs} {k : Nat} (hk : k < l.length) (h : ¬ NmAt r l k) : ¬ Nms r l := fun hn => h (hn.2 k hk)
end M
set_option maxHeartbeats 1000000 in
theorem index_txs (v : Value) (l : Txs) (x : ByteArray) (w : World) (hv : TxsOf w v l) (hn : l.length ≤ 1048576) :
    Calls Tryd.prog 82 #[v, .string x] w fun e w' => (∃ r : Int, e = .returned (.int .i64 r) ∧ (0 ≤ r ↔ x ∈ l)) ∧ w' = w := by
  obtain ⟨a, cap, rfl, hr⟩ := hv
  have HR := hide hr
  clear hr
  go_enter Tryd.func82, Tryd.ntmps82
  go_wp2
  go_loop [8] (fun i => ∃ k : Nat, k ≤ l.length ∧ i = .int .i64 k ∧ Hid (x ∉ l.take k)) (fun i => l.length - (intOf i).toNat)
  case atStart => exact ⟨0, Nat.zero_le _, rfl, hide (by simp)⟩
  case round =>
    obtain ⟨k, hk, rfl, HX⟩ := hrel
    by_cases hlt : k < l.length
    · obtain ⟨b, off, rfl, hb, hrow⟩ := HR.out (by omega)
      obtain ⟨y, hy⟩ : ∃ y, l[k]? = some y := ⟨l[k], List.getElem?_eq_getElem hlt⟩
      have c0 := hrow k y hy
      have HY := hide hy
      clear hrow hy HR
      by_cases hxy : x = y
      · have hd : (x.toList == y.toList) = true := by rw [eqS]; exact decide_eq_true hxy
        have HM := hide (show x ∈ l from by rw [hxy]; exact List.mem_of_getElem? HY.out)
        clear hxy
        go_wp2
        go_ret
        exact ⟨⟨_, rfl, fun _ => HM.out, fun _ => by omega⟩, rfl⟩
      · have hd : (x.toList == y.toList) = false := by rw [eqS]; exact decide_eq_false hxy
        have HX2 := hide (show x ∉ l.take (k + 1) from by
          rw [take_snoc' HY.out]; simp only [List.mem_append, List.mem_singleton, not_or]; exact ⟨HX.out, hxy⟩)
        clear hxy
        go_wp2
        go_round
        case rel => exact ⟨k + 1, by omega, by go_num, HX2⟩
        case measure => simp [intOf]; omega
    · have HN := hide (show x ∉ l from by have := HX.out; rwa [List.take_of_length_le (by omega)] at this)
      clear HR HX
      go_wp2
      go_ret
      exact ⟨⟨_, rfl, fun h => by omega, fun h => absurd h HN.out⟩, rfl⟩
theorem contains_txs (v : Value) (l : Txs) (x : ByteArray) (b : Bool) (w : World) (hv : TxsOf w v l) (hn : l.length ≤ 1048576) (hb : BP b (x ∈ l)) :
    Calls Tryd.prog 76 #[v, .string x] w fun e w' => e = .returned (.bool b) ∧ w' = w := by
  have HB := hide hb
  clear hb
  have HV := hide hv
  obtain ⟨a, cap, rfl⟩ := hv.form
  clear hv
  go_enter Tryd.func76, Tryd.ntmps76
  go_wp2_with fail
  refine (index_txs _ l x _ HV.out hn).mono ?_
  rintro e w' ⟨⟨r, rfl, hr⟩, hw⟩
  have HR := hide hr
  have HW := hide hw
  clear hr hw
  go_wp2
  go_ret
  exact ⟨ret_bool (by rw [Bool.eq_iff_iff]; simp only [decide_eq_true_eq]; exact HR.out.trans HB.out.symm), HW.out⟩
set_option maxHeartbeats 2000000 in
theorem spec_names (r : Bool) (v : Value) (l : Txs) (b : Bool) (w : World) (hv : TxC w v l) (hn : l.length ≤ 1048576) (hnm : ∀ x ∈ l, x.size ≤ maxLen) (hb : BP b (Nms r l)) :
    Calls Tryd.prog 62 #[v, .bool r] w fun e w' => e = .returned (.bool b) ∧ w' = w := by
  obtain ⟨a, cap, rfl, hcap, hr⟩ := hv.parts
  have HR := hide hr
  have HN := hide hnm
  have HB := hide hb
  clear hr hv hnm hb
  go_enter Tryd.func62, Tryd.ntmps62
  go_wp2
  go_loop [11] (fun i => ∃ k : Nat, k ≤ l.length ∧ i = .int .i64 k ∧ Hid (NmUp r l k)) (fun i => l.length - (intOf i).toNat)
  case atStart => exact ⟨0, Nat.zero_le _, rfl, hide (fun i hi => by omega)⟩
  case round =>
    obtain ⟨k, hk, rfl, HU⟩ := hrel
    by_cases hlt : k < l.length
    · obtain ⟨bb, off, rfl, hbb, hrow⟩ := HR.out (by omega)
      obtain ⟨x, hx⟩ : ∃ x, l[k]? = some x := ⟨l[k], List.getElem?_eq_getElem hlt⟩
      have c0 := hrow k x hx
      have HX := hide hx
      have HRow := hide hrow
      have HXN := hide (HN.out x (List.mem_of_getElem? hx))
      clear hrow hx HR HN
      cases hg : gN x
      · have HF := hide (HB.out.no (NmUp.bad hlt (fun h => by have := (h x HX.out).1; rw [hg] at this; cases this)))
        go_wp2_with (go_at_call 61; refine (spec_name _ _ HXN.out).mono ?_; rintro e w' ⟨rfl, rfl⟩; rw [show goodName x.data.toList = false from hg])
        go_ret
        exact ⟨ret_bool HF.out.symm, rfl⟩
      · have HG := hide hg
        have hkc : k ≤ cap := by omega
        have hkc2 : (k : Int) ≤ (cap : Int) := by omega
        go_wp2_with (go_at_call 61; refine (spec_name _ _ HXN.out).mono ?_; rintro e w' ⟨rfl, rfl⟩; rw [show goodName x.data.toList = true from hg])
        clear hg
        go_loop [23] (fun i => ∃ j : Nat, j ≤ k ∧ i = .int .i64 j ∧ Hid (Ahd r l x k j)) (fun i => k - (intOf i).toNat)
        case atStart => exact ⟨0, Nat.zero_le _, rfl, hide (Ahd.zero _ _ _ _)⟩
        case round =>
          obtain ⟨j, hj, rfl, HJ⟩ := hrel
          by_cases hlt2 : j < k
          · obtain ⟨y, hy⟩ : ∃ y, l[j]? = some y := ⟨l[j], List.getElem?_eq_getElem (by omega)⟩
            have c1 := HRow.out j y hy
            have HY := hide hy
            have hjl : j < l.length := by omega
            clear hy
            by_cases hyx : y = x
            · have hd : (y.toList == x.toList) = true := by rw [eqS]; exact decide_eq_true hyx
              have HF := hide (HB.out.no (NmUp.bad hlt (fun h => ((h x HX.out).2 j y hlt2 HY.out).1 hyx)))
              clear hyx HJ HRow
              go_wp2
              go_ret
              exact ⟨ret_bool HF.out.symm, rfl⟩
            · have hd : (y.toList == x.toList) = false := by rw [eqS]; exact decide_eq_false hyx
              have HYX := hide hyx
              clear hyx
              by_cases hr : r = true
              · subst hr
                by_cases hjk : j + 1 = k
                · have HJK := hide hjk
                  cases hl : ltS y x
                  · have hl2 : Op.bytesLess y.toList x.toList = false := hl
                    have HF := hide (HB.out.no (NmUp.bad hlt (fun h => by
                      have h1 := ((h x HX.out).2 j y hlt2 HY.out).2 rfl hjk
                      rw [gt_of HYX.out hl] at h1; cases h1)))
                    clear hjk hl HJ HRow
                    go_wp2
                    all_goals first
                      | (go_ret; exact ⟨ret_bool HF.out.symm, rfl⟩)
                      | (exfalso; have := HJK.out; omega)
                  · have hl2 : Op.bytesLess y.toList x.toList = true := hl
                    have HJ2 := hide (HJ.out.succ HY.out HYX.out (fun _ _ => lt_asym hl))
                    clear hjk hl HJ
                    go_wp2
                    all_goals first
                      | (exfalso; have := HJK.out; omega)
                      | exact ⟨⟨j + 1, by omega, by go_num, HJ2⟩, by simp [intOf]; omega⟩
                · have hq2 : ¬ (j : Int) = (k : Int) - 1 := by omega
                  have HJ2 := hide (HJ.out.succ HY.out HYX.out (fun _ h => absurd h hjk))
                  clear hjk HJ
                  go_wp2
                  go_round
                  case rel => exact ⟨j + 1, by omega, by go_num, HJ2⟩
                  case measure => simp [intOf]; omega
              · obtain rfl : r = false := by cases r <;> simp_all
                have HJ2 := hide (HJ.out.succ HY.out HYX.out (fun h => by cases h))
                clear hr HJ
                go_wp2
                go_round
                case rel => exact ⟨j + 1, by omega, by go_num, HJ2⟩
                case measure => simp [intOf]; omega
          · obtain rfl : j = k := by omega
            have HU2 := hide (HU.out.succ (HJ.out.at HX.out HG.out))
            clear HJ HU HRow
            go_wp2
            go_round
            case rel => exact ⟨j + 1, by omega, by go_num, HU2⟩
            case measure => simp [intOf]; omega
    · obtain rfl : k = l.length := by omega
      have HE := hide (show b = decide (l.length ≤ 30) from by
        rw [Bool.eq_iff_iff, decide_eq_true_eq]
        exact ⟨fun h => (HB.out.1 h).1, fun h => HB.out.2 ⟨h, HU.out⟩⟩)
      clear HR HN HB HU
      go_wp2
      go_ret
      exact ⟨ret_bool (by rw [HE.out]; exact decide_eq_decide.2 (by omega)), rfl⟩
set_option maxHeartbeats 2000000 in
theorem impl_signals (v : Value) (l : Txs) (b : Bool) (w : World) (hv : TxC w v l) (hn : l.length ≤ 1048576) (hnm : ∀ x ∈ l, x.size ≤ maxLen) (hb : BP b (Nms false l)) :
    Calls Tryd.prog 69 #[v] w fun e w' => e = .returned (.bool b) ∧ w' = w := by
  obtain ⟨a, cap, rfl, hcap, hr⟩ := hv.parts
  have HR := hide hr
  have HN := hide hnm
  have HB := hide hb
  clear hr hv hnm hb
  by_cases h30 : l.length ≤ 30
  case neg =>
    have hgt : (30 : Int) < (l.length : Int) := by omega
    have HF := hide (HB.out.no (fun h => h30 h.1))
    go_enter Tryd.func69, Tryd.ntmps69
    go_wp2
    go_ret
    exact ⟨ret_bool HF.out.symm, rfl⟩
  have hgt : ¬ (30 : Int) < (l.length : Int) := by omega
  go_enter Tryd.func69, Tryd.ntmps69
  go_wp2
  go_loop [10] (fun i => ∃ k : Nat, k ≤ l.length ∧ i = .int .i64 k ∧ Hid (NmUp false l k)) (fun i => l.length - (intOf i).toNat)
  case atStart => exact ⟨0, Nat.zero_le _, rfl, hide (fun i hi => by omega)⟩
  case round =>
    obtain ⟨k, hk, rfl, HU⟩ := hrel
    by_cases hlt : k < l.length
    · obtain ⟨bb, off, rfl, hbb, hrow⟩ := HR.out (by omega)
      obtain ⟨x, hx⟩ : ∃ x, l[k]? = some x := ⟨l[k], List.getElem?_eq_getElem hlt⟩
      have c0 := hrow k x hx
      have HX := hide hx
      have HT := hide (show TxsOf w (.slice (some ⟨bb, off, none⟩) k cap) (l.take k) from
        ⟨_, _, by rw [List.length_take, Nat.min_eq_left (by omega)], fun _ => ⟨bb, off, rfl, hbb, fun i y hi => by
          rw [List.getElem?_take] at hi
          split at hi
          · exact hrow i y hi
          · cases hi⟩⟩)
      have HXN := hide (HN.out x (List.mem_of_getElem? hx))
      clear hrow hx HR HN
      have hkc : k ≤ cap := by omega
      have hkc2 : (k : Int) ≤ (cap : Int) := by omega
      cases hg : gN x
      · have HF := hide (HB.out.no (NmUp.bad hlt (fun h => by have := (h x HX.out).1; rw [hg] at this; cases this)))
        go_wp2_with (go_at_call 72; refine (impl_name _ _ HXN.out).mono ?_; rintro e w' ⟨rfl, rfl⟩; rw [show goodName x.data.toList = false from hg])
        go_ret
        exact ⟨ret_bool HF.out.symm, rfl⟩
      · have HG := hide hg
        by_cases hm : x ∈ l.take k
        · have HF := hide (HB.out.no (NmUp.bad hlt (fun h => ((sg_iff l k).1 h x HX.out).2 hm)))
          have HBM := hide (show BP true (x ∈ l.take k) from ⟨fun _ => hm, fun _ => rfl⟩)
          clear hm
          go_wp2_with (first
            | (go_at_call 72; refine (impl_name _ _ HXN.out).mono ?_; rintro e w' ⟨rfl, rfl⟩; rw [show goodName x.data.toList = true from hg])
            | (go_at_call 76; refine (contains_txs _ (l.take k) x true _ HT.out (by rw [List.length_take]; omega) HBM.out).mono ?_; rintro e w' ⟨rfl, rfl⟩))
          go_ret
          exact ⟨ret_bool HF.out.symm, rfl⟩
        · have HU2 := hide (HU.out.succ ((sg_iff l k).2 (fun z hz => by
            have e := HX.out
            rw [hz] at e
            simp only [Option.some.injEq] at e
            subst e
            exact ⟨HG.out, hm⟩)))
          have HBM := hide (show BP false (x ∈ l.take k) from ⟨fun h => (by cases h), fun h => absurd h hm⟩)
          clear hm HU
          go_wp2_with (first
            | (go_at_call 72; refine (impl_name _ _ HXN.out).mono ?_; rintro e w' ⟨rfl, rfl⟩; rw [show goodName x.data.toList = true from hg])
            | (go_at_call 76; refine (contains_txs _ (l.take k) x false _ HT.out (by rw [List.length_take]; omega) HBM.out).mono ?_; rintro e w' ⟨rfl, rfl⟩))
          go_round
          case rel => exact ⟨k + 1, by omega, by go_num, HU2⟩
          case measure => simp [intOf]; omega
    · obtain rfl : k = l.length := by omega
      have HE := hide (HB.out.yes ⟨h30, HU.out⟩)
      clear HR HN HB HU
      go_wp2
      go_ret
      exact ⟨ret_bool HE.out.symm, rfl⟩
set_option maxHeartbeats 2000000 in
theorem impl_timers (v : Value) (l : Txs) (b : Bool) (w : World) (hv : TxC w v l) (hn : l.length ≤ 1048576) (hnm : ∀ x ∈ l, x.size ≤ maxLen) (hb : BP b (Nms true l)) :
    Calls Tryd.prog 70 #[v] w fun e w' => e = .returned (.bool b) ∧ w' = w := by
  obtain ⟨a, cap, rfl, hcap, hr⟩ := hv.parts
  have HR := hide hr
  have HN := hide hnm
  have HB := hide hb
  clear hr hv hnm hb
  by_cases h30 : l.length ≤ 30
  case neg =>
    have hgt : (30 : Int) < (l.length : Int) := by omega
    have HF := hide (HB.out.no (fun h => h30 h.1))
    go_enter Tryd.func70, Tryd.ntmps70
    go_wp2
    go_ret
    exact ⟨ret_bool HF.out.symm, rfl⟩
  have hgt : ¬ (30 : Int) < (l.length : Int) := by omega
  go_enter Tryd.func70, Tryd.ntmps70
  go_wp2
  go_loop [10] (fun i => ∃ k : Nat, k ≤ l.length ∧ i = .int .i64 k ∧ Hid (∀ i, i < k → TmAt l i)) (fun i => l.length - (intOf i).toNat)
  case atStart => exact ⟨0, Nat.zero_le _, rfl, hide (fun i hi => by omega)⟩
  case round =>
    obtain ⟨k, hk, rfl, HU⟩ := hrel
    by_cases hlt : k < l.length
    · obtain ⟨bb, off, rfl, hbb, hrow⟩ := HR.out (by omega)
      obtain ⟨x, hx⟩ : ∃ x, l[k]? = some x := ⟨l[k], List.getElem?_eq_getElem hlt⟩
      have c0 := hrow k x hx
      have HX := hide hx
      have HRow := hide hrow
      have HXN := hide (HN.out x (List.mem_of_getElem? hx))
      have bad := fun (h : ¬ TmAt l k) => HB.out.no (fun hh => h (tm_iff.2 hh.2 k hlt))
      have HBad := hide bad
      have sam := fun z (hz : l[k]? = some z) => (show z = x by rw [HX.out] at hz; simpa using hz.symm)
      have HSam := hide sam
      clear hrow hx HR HN bad sam
      cases hg : gN x
      · have HF := hide (HBad.out (fun h => by have := (h x HX.out).1; rw [hg] at this; cases this))
        go_wp2_with (go_at_call 72; refine (impl_name _ _ HXN.out).mono ?_; rintro e w' ⟨rfl, rfl⟩; rw [show goodName x.data.toList = false from hg])
        go_ret
        exact ⟨ret_bool HF.out.symm, rfl⟩
      · have HG := hide hg
        by_cases hk0 : k = 0
        · have hz : decide (0 < (k : Int)) = false := decide_eq_false (by omega)
          have hz2 : decide ((k : Int) > 0) = false := decide_eq_false (by omega)
          have hz3 : decide (0 < k) = false := decide_eq_false (by omega)
          have HU2 := hide (show ∀ i, i < k + 1 → TmAt l i from fun i hi z hzz => by
            obtain rfl : i = k := by omega
            obtain rfl := HSam.out z hzz
            exact ⟨HG.out, fun m y hm => by omega⟩)
          clear hk0
          go_wp2_with (go_at_call 72; refine (impl_name _ _ HXN.out).mono ?_; rintro e w' ⟨rfl, rfl⟩; rw [show goodName x.data.toList = true from hg])
          go_round
          case rel => exact ⟨k + 1, by omega, by go_num, HU2⟩
          case measure => simp [intOf]; omega
        · obtain ⟨j, hj⟩ : ∃ j, k = j + 1 := ⟨k - 1, by omega⟩
          obtain ⟨y, hy⟩ : ∃ y, l[j]? = some y := ⟨l[j], List.getElem?_eq_getElem (by omega)⟩
          have c1 := HRow.out j y hy
          have HY := hide hy
          have HJ := hide hj
          have hz : decide (0 < (k : Int)) = true := decide_eq_true (by omega)
          have hz2 : decide ((k : Int) > 0) = true := decide_eq_true (by omega)
          have hz3 : decide (0 < k) = true := decide_eq_true (by omega)
          have hkj : (k : Int) - 1 = (j : Int) := by omega
          have hj0 : (0 : Int) ≤ (j : Int) := by omega
          have hj1 : (j : Int) < (l.length : Int) := by omega
          clear hy hj hk0
          cases hl : ltS y x
          · have hl2 : Op.bytesLess y.toList x.toList = false := hl
            have HF := hide (HBad.out (fun h => by
              have h1 := (h x HX.out).2 j y (HJ.out.symm) HY.out
              rw [hl] at h1; cases h1))
            clear hl
            go_wp2_with (go_at_call 72; refine (impl_name _ _ HXN.out).mono ?_; rintro e w' ⟨rfl, rfl⟩; rw [show goodName x.data.toList = true from hg])
            go_ret
            exact ⟨ret_bool HF.out.symm, rfl⟩
          · have hl2 : Op.bytesLess y.toList x.toList = true := hl
            have HU2 := hide (show ∀ i, i < k + 1 → TmAt l i from fun i hi z hzz => by
              by_cases c : i = k
              · subst c
                obtain rfl := HSam.out z hzz
                refine ⟨HG.out, fun m u hm hu => ?_⟩
                obtain rfl : m = j := by have := HJ.out; omega
                rw [HY.out] at hu
                simp only [Option.some.injEq] at hu
                subst hu; exact hl
              · exact HU.out i (by omega) z hzz)
            clear hl HU
            go_wp2_with (go_at_call 72; refine (impl_name _ _ HXN.out).mono ?_; rintro e w' ⟨rfl, rfl⟩; rw [show goodName x.data.toList = true from hg])
            go_round
            case rel => exact ⟨k + 1, by omega, by go_num, HU2⟩
            case measure => simp [intOf]; omega
    · obtain rfl : k = l.length := by omega
      have HE := hide (HB.out.yes ⟨h30, tm_iff.1 HU.out⟩)
      clear HR HN HB HU
      go_wp2
      go_ret
      exact ⟨ret_bool HE.out.symm, rfl⟩
end Go.Proofs.YtfkeokglifpkoaaDoor

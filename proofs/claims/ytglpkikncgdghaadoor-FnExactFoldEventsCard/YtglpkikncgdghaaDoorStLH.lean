/-
  The law of IsHistory, walked: it returns true and turns nothing that was there. Condition: the table knownKinds reads as the program's text lays it.
-/
import Derived.Test.YtglpkikncgdghaaDoorStY
import Derived.Test.YtglpkikncgdghaaDoorEvM
namespace Go.Proofs.YtglpkikncgdghaaDoor
open Go.RowKit M
open Clk (upd upd_same upd_other)
namespace M
theorem evs_sl {w : World} {g n : Nat} {es : List Ev} {t : TypeId} (h : w.heap[g]? = some (.cells (cellsE es).toArray t (0, 0))) (hn : n = es.length) : SliceOf w (.slice (some ⟨g, 0, none⟩) n n) es := by
  subst hn
  have hlt : g < w.heap.size := by
    rcases Nat.lt_or_ge g w.heap.size with h' | h'
    · exact h'
    · rw [Array.getElem?_eq_none h'] at h; cases h
  exact ⟨_, _, rfl, fun _ => ⟨g, 0, rfl, hlt, row_of_block (rest := []) (by simpa using h)⟩⟩
theorem evs_bk {w : World} {g : Nat} {es : List Ev} {t : TypeId} (h : w.heap[g]? = some (.cells (cellsE es).toArray t (0, 0))) : ∃ f, Blk w g (es.length * 4) f t := by
  have := blk_of h
  rw [List.size_toArray, cellsE_len] at this
  exact ⟨_, this⟩
theorem blk_lt {w : World} {g : Nat} {o : Obj} (h : w.heap[g]? = some o) : g < w.heap.size := by
  rcases Nat.lt_or_ge g w.heap.size with h' | h'
  · exact h'
  · rw [Array.getElem?_eq_none h'] at h; cases h
end M
set_option maxRecDepth 20000 in
set_option maxHeartbeats 4000000 in
theorem law_IsHistory (v : Value) (es : List Ev) (w : World) (hv : SliceOf w v es) (hml : es.length ≤ maxLen) (hnm : ∀ e ∈ es, e.name.size ≤ maxLen) (hkk : KK w) :
    Calls Tryd.prog 6 #[v] w fun e w' => e = .returned (.bool true) ∧ Below w.heap.size w w' := by
  have HV := hide hv
  have HK := hide hkk
  have HNM := hide hnm
  clear hkk hnm
  by_cases hl : es.length + tot es ≤ 1048576
  case neg =>
    obtain ⟨a, cap, rfl, -⟩ := hv
    have hge : ((-1 : Int) < 0) := by omega
    go_enter Tryd.func6, Tryd.ntmps6
    go_wp2_with fail
    refine (sz_all_no _ es _ HV.out hml HNM.out (by omega)).mono ?_
    rintro e w1 ⟨rfl, hb1⟩
    go_wp2
    go_ret
    exact ⟨rfl, hb1⟩
  have hlen : es.length ≤ 1048576 := by omega
  have hge : ¬ (1048576 - (es.length : Int) - ((tot es : Nat) : Int) < 0) := by omega
  have HLN := hide hlen
  obtain ⟨b, hb⟩ := bp_ex (Hist es)
  have HB := hide hb
  have hbb : (b != b) = false := by cases b <;> rfl
  clear hb
  obtain ⟨a, cap, rfl, -⟩ := hv
  go_enter Tryd.func6, Tryd.ntmps6
  go_wp2_with fail
  refine (sz_all_yes _ es _ HV.out hl).mono ?_
  rintro e w1 ⟨rfl, hb1⟩
  go_wp2_with fail
  refine (to_evs _ es _ (HV.out.below hb1) HLN.out).mono ?_
  rintro e w2 ⟨⟨rfl, hO⟩, hb⟩
  have hb2 := hb1.trans (hb.mono hb1.size)
  have HO := hide (evs_sl hO rfl)
  clear hb hO hb1 hge hl
  go_wp2_with fail
  refine (spec_hist _ es b _ HO.out HLN.out HNM.out HB.out).mono ?_
  rintro e w3 ⟨rfl, hb⟩
  have hb3 := hb2.trans (hb.mono hb2.size)
  clear hb hb2 HO
  go_wp2_with fail
  refine (to_evs _ es _ (HV.out.below hb3) HLN.out).mono ?_
  rintro e w4 ⟨⟨rfl, hO⟩, hb⟩
  have hb4 := hb3.trans (hb.mono hb3.size)
  have HO := hide (evs_sl hO rfl)
  clear hb hO hb3
  go_wp2_with fail
  refine (impl_hist _ es b _ HO.out HLN.out HNM.out (HK.out.below hb4) HB.out).mono ?_
  rintro e w5 ⟨rfl, hb⟩
  have hb5 := hb4.trans (hb.mono hb4.size)
  have HO5 := hide (HO.out.below hb)
  clear hb hb4 HO
  go_wp2_with fail
  refine (to_evs _ es _ (HV.out.below hb5) HLN.out).mono ?_
  rintro e w6 ⟨⟨rfl, hO⟩, hb⟩
  have hb6 := hb5.trans (hb.mono hb5.size)
  have HO := hide (evs_sl hO rfl)
  have HO6 := hide (HO5.out.below hb)
  clear hb hO hb5 HO5
  go_wp2_with fail
  refine (eq_all _ _ es _ HO6.out HO.out HLN.out eq_ev).mono ?_
  rintro e w7 ⟨rfl, hb⟩
  have hb7 := hb6.trans (hb.mono hb6.size)
  clear hb hb6 HO HO6 HB HV HK HNM
  go_wp2
  go_ret
  exact ⟨rfl, hb7⟩
end Go.Proofs.YtglpkikncgdghaaDoor

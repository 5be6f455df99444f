/-
  The law of ItemsOf, walked: it returns true and turns nothing that was there. Condition: the table knownKinds reads as the program's text lays it.
-/
import Derived.Test.YtbajiamkgffhkaaDoorItX
namespace Go.Proofs.YtbajiamkgffhkaaDoor
open Go.RowKit M
open Clk (upd upd_same upd_other)
namespace M
/-- What is held while the law goes on. -/
structure LJ (w A W : World) (B : Nat) (r : Value) (q : Nat) (f : Nat → Im) : Prop where
  low : Below w.heap.size w W
  sp : Below A.heap.size A W
  out : AnsT W B r q f
  lo : w.heap.size ≤ A.heap.size
  hi : A.heap.size ≤ B
theorem LJ.down {w A W W' : World} {B : Nat} {r : Value} {q : Nat} {f : Nat → Im} (h : LJ w A W B r q f) (hb : Below W.heap.size W W') : LJ w A W' B r q f :=
  ⟨h.low.trans (hb.mono h.low.size), h.sp.trans (hb.mono h.sp.size), h.out.down hb, h.lo, h.hi⟩
theorem LJ.marks {w A W W' : World} {B : Nat} {r : Value} {q : Nat} {f f' : Nat → Im} (h : LJ w A W B r q f) (hb : Below B W W') (hc : AnsT W' B r q f') : LJ w A W' B r q f' :=
  have h1 := h.lo
  have h2 := h.hi
  ⟨h.low.trans (hb.mono (by omega)), h.sp.trans (hb.mono (by omega)), hc, h.lo, h.hi⟩
theorem LJ.gb {w A W W' : World} {B g : Nat} {r : Value} {q : Nat} {f : Nat → Im} (h : LJ w A W B r q f) (hg : W.grownBy W' (some g)) (h1 : A.heap.size ≤ g) (h2 : g < B) : LJ w A W' B r q f :=
  have h3 := h.lo
  ⟨h.low.trans (gb_low hg (by omega) h.low.size), h.sp.trans (gb_low hg h1 h.sp.size), h.out.gb hg h2, h.lo, h.hi⟩
theorem evs_slice {w : World} {g n : Nat} {es : List Ev} {t : TypeId} (h : w.heap[g]? = some (.cells (cellsE es).toArray t (0, 0))) (hn : n = es.length) : SliceOf w (.slice (some ⟨g, 0, none⟩) n n) es := by
  subst hn
  have hlt : g < w.heap.size := by
    rcases Nat.lt_or_ge g w.heap.size with h' | h'
    · exact h'
    · rw [Array.getElem?_eq_none h'] at h; cases h
  exact ⟨_, _, rfl, fun _ => ⟨g, 0, rfl, hlt, row_of_block (rest := []) (by simpa using h)⟩⟩
theorem evs_blk {w : World} {g : Nat} {es : List Ev} {t : TypeId} (h : w.heap[g]? = some (.cells (cellsE es).toArray t (0, 0))) : ∃ f, Blk w g (es.length * 4) f t := by
  have := blk_of h
  rw [List.size_toArray, cellsE_len] at this
  exact ⟨_, this⟩
theorem ga_all_le (es : List Ev) : (ga es es.length).1 ≤ es.length := ga_le es _
end M
set_option maxRecDepth 20000 in
set_option maxHeartbeats 4000000 in
theorem law_itemsOf (v : Value) (es : List Ev) (w : World) (hv : SliceOf w v es) (hml : es.length ≤ maxLen) (hnm : ∀ e ∈ es, e.name.size ≤ maxLen) (hkk : KK w) :
    Calls Tryd.prog 3 #[v] w fun e w' => e = .returned (.bool true) ∧ Below w.heap.size w w' := by
  have HV := hide hv
  have HK := hide hkk
  have HNM := hide hnm
  clear hkk hnm
  by_cases hl : es.length + tot es ≤ 1048576
  case neg =>
    obtain ⟨a, cap, rfl, -⟩ := hv
    have hge : ((-1 : Int) < 0) := by omega
    go_enter Tryd.func3, Tryd.ntmps3
    go_wp2_with fail
    refine (sz_all_no _ es _ HV.out hml HNM.out (by omega)).mono ?_
    rintro e w1 ⟨rfl, hb1⟩
    go_wp2
    go_ret
    exact ⟨rfl, hb1⟩
  have hlen : es.length ≤ 1048576 := by omega
  have hge : ¬ (1048576 - (es.length : Int) - ((tot es : Nat) : Int) < 0) := by omega
  obtain ⟨q, f, ok, hq, hS, hI⟩ : ∃ (q : Nat) (f : Nat → Im) (ok : Bool), q ≤ 1048576 ∧
      (∀ (u : Value) (W : World), SliceOf W u es → Calls Tryd.prog 6 #[u] W fun e w' => (∃ r, e = .returned (.tuple #[r, .bool ok]) ∧ ItemsOf w' r q f) ∧ Below W.heap.size W w') ∧
      (∀ (u : Value) (W : World), SliceOf W u es → KK W → Calls Tryd.prog 8 #[u] W fun e w' => (∃ r, e = .returned (.tuple #[r, .bool ok]) ∧ AnsT w' W.heap.size r q f) ∧ Below W.heap.size W w') := by
    rcases Classical.em (IOk es) with hp | hp
    · refine ⟨(ga es es.length).1, (ga es es.length).2, true, by have := ga_all_le es; omega, fun u W hu => (spec_itemsOf u es W hu hlen HNM.out).mono ?_, fun u W hu hk => (impl_itemsOf u es W hu hlen HNM.out hk).mono ?_⟩
      · rintro e w' ⟨⟨-, r, he, hA⟩ | ⟨h, -⟩, hb⟩
        · exact ⟨⟨r, he, hA.items⟩, hb⟩
        · exact absurd hp h
      · rintro e w' ⟨⟨-, r, he, hA⟩ | ⟨h, -⟩, hb⟩
        · exact ⟨⟨r, he, hA⟩, hb⟩
        · exact absurd hp h
    · refine ⟨0, fun _ => im0, false, by omega, fun u W hu => (spec_itemsOf u es W hu hlen HNM.out).mono ?_, fun u W hu hk => (impl_itemsOf u es W hu hlen HNM.out hk).mono ?_⟩
      · rintro e w' ⟨⟨h, -⟩ | ⟨-, he⟩, hb⟩
        · exact absurd h hp
        · exact ⟨⟨_, he, .nil _ _ _ _⟩, hb⟩
      · rintro e w' ⟨⟨h, -⟩ | ⟨-, he⟩, hb⟩
        · exact absurd h hp
        · exact ⟨⟨_, he, .inl ⟨rfl, rfl⟩⟩, hb⟩
  have HQ := hide hq
  have HS := hide hS
  have HI := hide hI
  have HLN := hide hlen
  have hok : (ok != ok) = false := by simp
  obtain ⟨mm, hmm⟩ : ∃ mm, 1 + q * 2 = mm := ⟨_, rfl⟩
  have HM := hide hmm
  have hm0 : ¬ ((mm : Int) < 0) := by omega
  have hm1 : ((mm : Int) != (mm : Int)) = false := by simp
  obtain ⟨a, cap, rfl, -⟩ := hv
  clear hq hS hI hmm
  go_enter Tryd.func3, Tryd.ntmps3
  go_wp2_with fail
  refine (sz_all_yes _ es _ HV.out hl).mono ?_
  rintro e w1 ⟨rfl, hb1⟩
  go_wp2_with fail
  refine (to_evs _ es _ (HV.out.below hb1) HLN.out).mono ?_
  rintro e w2 ⟨⟨rfl, hO⟩, hb⟩
  have hb2 := hb1.trans (hb.mono hb1.size)
  have HO := hide (evs_slice hO rfl)
  clear hb hO hb1 hge hl
  go_wp2_with fail
  refine (HS.out _ _ HO.out).mono ?_
  rintro e wA ⟨⟨rs, rfl, hR⟩, hb⟩
  have hB4 := hb2.trans (hb.mono hb2.size)
  have HR := hide hR
  obtain ⟨asp, csp, rfl⟩ := hR.form
  clear hb hb2 hR HO HS
  go_wp2_with fail
  refine (to_evs _ es _ (HV.out.below hB4) HLN.out).mono ?_
  rintro e w5 ⟨⟨rfl, hO⟩, hb5⟩
  have HO := hide hO
  have HB5 := hide hb5
  have hB5 := hB4.trans (hb5.mono hB4.size)
  have hlt5 : wA.heap.size < w5.heap.size := by
    rcases Nat.lt_or_ge wA.heap.size w5.heap.size with h' | h'
    · exact h'
    · rw [Array.getElem?_eq_none h'] at hO; cases hO
  have HLT := hide hlt5
  clear hO hb5 hlt5
  go_wp2_with fail
  refine (HI.out _ _ (evs_slice HO.out rfl) (HK.out.below hB5)).mono ?_
  rintro e w6 ⟨⟨r, rfl, hA⟩, hb⟩
  obtain ⟨ar, cr, rfl⟩ := hA.form
  have HL6 := hide (show LJ w wA w6 w5.heap.size (.slice ar q cr) q f from ⟨hB5.trans (hb.mono hB5.size), HB5.out.trans (hb.mono HB5.out.size), hA, hB4.size, HB5.out.size⟩)
  have HO6 := hide (blk_below HO.out hb)
  clear hb hA HO HB5 hB4 hB5
  go_wp2_with fail
  refine (eq_items _ _ q f _ HL6.out.out.items (HR.out.below HL6.out.sp) HQ.out).mono ?_
  rintro e w7 ⟨rfl, hb⟩
  have HL7 := hide (HL6.out.down hb)
  have HO7 := hide (blk_below HO6.out hb)
  clear hb HL6 HO6
  go_wp2_with fail
  refine (to_evs _ es _ (HV.out.below HL7.out.low) HLN.out).mono ?_
  rintro e w8 ⟨⟨rfl, hO⟩, hb⟩
  have HO := hide hO
  have HL8 := hide (HL7.out.down hb)
  have HO8 := hide (blk_below HO7.out hb)
  clear hb hO HL7 HO7
  go_wp2_with fail
  refine (eq_all _ _ es _ (evs_slice HO8.out rfl) (evs_slice HO.out rfl) HLN.out eq_ev).mono ?_
  rintro e w9 ⟨rfl, hb⟩
  have HL9 := hide (HL8.out.down hb)
  have HO9 := hide (evs_blk (blk_below HO8.out hb))
  clear hb HL8 HO HO8
  obtain ⟨fb, hfb⟩ := HO9.out
  have HFB := hide hfb
  clear hfb HO9
  go_wp2_with fail
  refine (mark_evs wA.heap.size es.length es.length fb _ HFB.out HLN.out).mono ?_
  rintro e w10 ⟨⟨kk, rfl⟩, hg⟩
  have HL10 := hide (HL9.out.gb hg (Nat.le_refl _) HLT.out)
  have hkn : ¬ ((kk : Int) < 0) := by omega
  clear hg HL9 HFB
  go_wp2_with fail
  refine (eq_items _ _ q f _ HL10.out.out.items (HR.out.below HL10.out.sp) HQ.out).mono ?_
  rintro e w11 ⟨rfl, hb⟩
  have HL11 := hide (HL10.out.down hb)
  clear hb HL10 hkn
  go_wp2_with fail
  refine (mark_ansT w5.heap.size q 1 _ f _ HL11.out.out HQ.out (by omega)).mono ?_
  rintro e w12 ⟨rfl, hC, hb, -⟩
  have HL12 := hide (HL11.out.marks hb hC)
  clear hb hC HL11
  rw [HM.out]
  go_wp2_with fail
  refine (held_items _ q 1 _ HL12.out.out.items HQ.out (by omega)).mono ?_
  rintro e w13 ⟨rfl, rfl⟩
  rw [HM.out]
  go_wp2_with fail
  refine (to_evs _ es _ (HV.out.below HL12.out.low) HLN.out).mono ?_
  rintro e w14 ⟨⟨rfl, hO⟩, hb⟩
  have HO := hide hO
  have HL14 := hide (HL12.out.down hb)
  clear hb hO HL12
  go_wp2_with fail
  refine (HI.out _ _ (evs_slice HO.out rfl) (HK.out.below HL14.out.low)).mono ?_
  rintro e w15 ⟨⟨r2, rfl, hA⟩, hb⟩
  obtain ⟨ar2, cr2, rfl⟩ := hA.form
  have HA := hide hA.items
  have HL15 := hide (HL14.out.down hb)
  clear hb hA HO HL14 HI
  go_wp2_with fail
  refine (eq_items _ _ q f _ HA.out (HR.out.below HL15.out.sp) HQ.out).mono ?_
  rintro e w16 ⟨rfl, hb⟩
  have HL16 := hide (HL15.out.down hb)
  clear hb HL15 HA
  go_wp2_with fail
  refine (held_items _ q 1 _ HL16.out.out.items HQ.out (by omega)).mono ?_
  rintro e w17 ⟨rfl, rfl⟩
  have hbz := HL16.out.low
  rw [HM.out]
  clear HL16 HR HV HM HQ
  go_wp2
  go_ret
  exact ⟨rfl, hbz⟩
end Go.Proofs.YtbajiamkgffhkaaDoor

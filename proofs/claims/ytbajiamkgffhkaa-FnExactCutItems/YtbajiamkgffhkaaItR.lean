/-
  The laws of AppendItem and CutItems, walked: each returns true and turns nothing that was there, wherever both texts tell the same items.
-/
import Derived.Test.YtbajiamkgffhkaaItG
namespace Go.Proofs.Ytbajiamkgffhkaa
open Go.RowKit M
open Clk (upd upd_same upd_other)
namespace M
/-- What is held while the law goes on: what the program answered (from block B on), the copy that was handed in (block g), what the specification answered. -/
structure LI (w A W : World) (n : Nat) (l : Nat → Im) (g : Nat) (B : Nat) (r : Value) (q : Nat) (f : Nat → Im) : Prop where
  low : Below w.heap.size w W
  sp : Below A.heap.size A W
  inn : OwnI W g n n l
  out : AnsT W B r q f
  ge : A.heap.size ≤ g
  gt : g < B
  lo : w.heap.size ≤ A.heap.size
theorem LI.down {w A W W' : World} {n : Nat} {l : Nat → Im} {g B : Nat} {r : Value} {q : Nat} {f : Nat → Im} (h : LI w A W n l g B r q f) (hb : Below W.heap.size W W') : LI w A W' n l g B r q f :=
  ⟨h.low.trans (hb.mono h.low.size), h.sp.trans (hb.mono h.sp.size), h.inn.down hb, h.out.down hb, h.ge, h.gt, h.lo⟩
theorem LI.marked {w A W W' : World} {n : Nat} {l l' : Nat → Im} {g B : Nat} {r : Value} {q : Nat} {f : Nat → Im} (h : LI w A W n l g B r q f) (ho : Only g W W') (hk : OwnI W' g n n l') : LI w A W' n l' g B r q f :=
  have h1 := h.ge
  have h2 := h.lo
  ⟨h.low.trans (ho.below (by omega)), h.sp.trans (ho.below h.ge), hk, h.out.only ho h.gt, h.ge, h.gt, h.lo⟩
theorem LI.marks {w A W W' : World} {n : Nat} {l : Nat → Im} {g B : Nat} {r : Value} {q : Nat} {f f' : Nat → Im} (h : LI w A W n l g B r q f) (hb : Below B W W') (hc : AnsT W' B r q f') : LI w A W' n l g B r q f' := by
  have h1 := h.ge
  have h2 := h.lo
  have h3 := h.gt
  obtain ⟨hc0, k, hk, he⟩ := h.inn
  exact ⟨h.low.trans (hb.mono (by omega)), h.sp.trans (hb.mono (by omega)), ⟨hc0, k, hk.below hb h3, he⟩, hc, h.ge, h.gt, h.lo⟩
end M
set_option maxRecDepth 20000 in
set_option maxHeartbeats 4000000 in
theorem law_append_run (v : Value) (n : Nat) (l : Nat → Im) (x0 : Int) (x1 : Int) (w : World) (hv : ItemsOf w v n l) (hl : n ≤ maxLen)
    (hC : n ≤ 1048576 → ∃ (q : Nat) (f : Nat → Im) (ok : Bool), q ≤ 1048576 ∧
      (∀ (u : Value) (W : World), ItemsOf W u n l → Calls Try.prog 21 #[u, .int .i64 x0, .int .i64 x1] W fun e w' => (∃ r, e = .returned (.tuple #[r, .bool ok]) ∧ ItemsOf w' r q f) ∧ Below W.heap.size W w') ∧
      (∀ (b : Nat) (W : World), ItemsOf W (.slice (some ⟨b, 0, none⟩) n n) n l → Calls Try.prog 22 #[.slice (some ⟨b, 0, none⟩) n n, .int .i64 x0, .int .i64 x1] W fun e w' => (∃ r, e = .returned (.tuple #[r, .bool ok]) ∧ AnsT w' W.heap.size r q f) ∧ Below W.heap.size W w')) :
    Calls Try.prog 6 #[v, .int .i64 x0, .int .i64 x1] w fun e w' => e = .returned (.bool true) ∧ Below w.heap.size w w' := by
  have HV := hide hv
  have HL := hide hl
  have HC := hide hC
  obtain ⟨a, cap, rfl⟩ := hv.form
  clear hv hl hC
  go_enter Try.func6, Try.ntmps6
  go_wp2_with fail
  refine (sz_items _ n _ 1048576 _ HL.out (by omega) (by omega)).mono ?_
  rintro e w1 ⟨⟨q0, rfl, hq0⟩, rfl⟩
  by_cases hn0 : q0 < 0
  · clear hq0
    go_wp2
    go_ret
    exact ⟨rfl, Below.refl _ _⟩
  have hn : n ≤ 1048576 := by omega
  have HN := hide hn
  obtain ⟨q, f, ok, hq, hS, hI⟩ := HC.out hn
  have HQ := hide hq
  have HS := hide hS
  have HI := hide hI
  have hok : (ok != ok) = false := by simp
  have hkn : ¬ (((1 + n * 2 : Nat) : Int) < 0) := by omega
  obtain ⟨mm, hmm⟩ : ∃ mm, 1 + q * 2 = mm := ⟨_, rfl⟩
  have HM := hide hmm
  have hm0 : ¬ ((mm : Int) < 0) := by omega
  have hm1 : ((mm : Int) != (mm : Int)) = false := by simp
  clear hq0 hn hq hS hI HC HL hmm
  go_wp2_with fail
  refine (to_items _ n l _ HV.out HN.out).mono ?_
  rintro e w3 ⟨⟨rfl, hO⟩, hB3⟩
  have HO := hide hO
  clear hO
  go_wp2_with fail
  refine (HS.out _ _ HO.out.items).mono ?_
  rintro e wA ⟨⟨rs, rfl, hR⟩, hb⟩
  have hB4 := hB3.trans (hb.mono hB3.size)
  have HR := hide hR
  obtain ⟨asp, csp, rfl⟩ := hR.form
  clear hb hB3 hR HO HS
  go_wp2_with fail
  refine (to_items _ n l _ (HV.out.below hB4) HN.out).mono ?_
  rintro e w5 ⟨⟨rfl, hO⟩, hb5⟩
  have HO := hide hO
  have HB5 := hide hb5
  clear hO hb5
  go_wp2_with fail
  refine (HI.out _ _ HO.out.items).mono ?_
  rintro e w6 ⟨⟨r, rfl, hA⟩, hb⟩
  obtain ⟨ar, cr, rfl⟩ := hA.form
  have HL6 := hide (show LI w1 wA w6 n l wA.heap.size w5.heap.size (.slice ar q cr) q f from ⟨(hB4.trans (HB5.out.mono hB4.size)).trans (hb.mono (Nat.le_trans hB4.size HB5.out.size)), HB5.out.trans (hb.mono HB5.out.size), HO.out.down hb, hA, Nat.le_refl _, HO.out.lt, hB4.size⟩)
  clear hb hA HO HB5 hB4
  go_wp2_with fail
  refine (eq_items _ _ q f _ HL6.out.out.items (HR.out.below HL6.out.sp) HQ.out).mono ?_
  rintro e w7 ⟨rfl, hb⟩
  have HL7 := hide (HL6.out.down hb)
  clear hb HL6
  go_wp2_with fail
  refine (to_items _ n l _ (HV.out.below HL7.out.low) HN.out).mono ?_
  rintro e w8 ⟨⟨rfl, hO⟩, hb⟩
  have HO := hide hO
  have HL8 := hide (HL7.out.down hb)
  clear hb hO HL7
  go_wp2_with fail
  refine (eq_items _ _ n l _ HL8.out.inn.items HO.out.items HN.out).mono ?_
  rintro e w9 ⟨rfl, hb⟩
  have HL9 := hide (HL8.out.down hb)
  clear hb HL8 HO
  go_wp2_with fail
  refine (mark_items wA.heap.size n n n 1 l _ HL9.out.inn HN.out (by omega)).mono ?_
  rintro e w10 ⟨rfl, hk, ho⟩
  have HL10 := hide (HL9.out.marked ho hk)
  clear ho hk HL9
  go_wp2_with fail
  refine (eq_items _ _ q f _ HL10.out.out.items (HR.out.below HL10.out.sp) HQ.out).mono ?_
  rintro e w11 ⟨rfl, hb⟩
  have HL11 := hide (HL10.out.down hb)
  clear hb HL10 hkn
  go_wp2_with fail
  refine (mark_ansT w5.heap.size q 1 _ f _ HL11.out.out HQ.out (by omega)).mono ?_
  rintro e w12 ⟨rfl, hC, hb, -⟩
  have HL12 := hide (HL11.out.marks hb hC)
  clear hb hC HL11
  rw [HM.out]
  go_wp2_with fail
  refine (held_items _ q 1 _ HL12.out.out.items HQ.out (by omega)).mono ?_
  rintro e w13 ⟨rfl, rfl⟩
  rw [HM.out]
  go_wp2_with fail
  refine (to_items _ n l _ (HV.out.below HL12.out.low) HN.out).mono ?_
  rintro e w14 ⟨⟨rfl, hO⟩, hb⟩
  have HO := hide hO
  have HL14 := hide (HL12.out.down hb)
  clear hb hO HL12
  go_wp2_with fail
  refine (HI.out _ _ HO.out.items).mono ?_
  rintro e w15 ⟨⟨r2, rfl, hA⟩, hb⟩
  obtain ⟨ar2, cr2, rfl⟩ := hA.form
  have HA := hide hA.items
  have HL15 := hide (HL14.out.down hb)
  clear hb hA HO HL14 HI
  go_wp2_with fail
  refine (eq_items _ _ q f _ HA.out (HR.out.below HL15.out.sp) HQ.out).mono ?_
  rintro e w16 ⟨rfl, hb⟩
  have HL16 := hide (HL15.out.down hb)
  clear hb HL15 HA
  go_wp2_with fail
  refine (held_items _ q 1 _ HL16.out.out.items HQ.out (by omega)).mono ?_
  rintro e w17 ⟨rfl, rfl⟩
  have hbz := HL16.out.low
  rw [HM.out]
  clear HL16 HR HV HM HN HQ
  go_wp2
  go_ret
  exact ⟨rfl, hbz⟩
set_option maxRecDepth 20000 in
set_option maxHeartbeats 4000000 in
theorem law_cut_run (v : Value) (n : Nat) (l : Nat → Im) (x0 : Int) (w : World) (hv : ItemsOf w v n l) (hl : n ≤ maxLen)
    (hC : n ≤ 1048576 → ∃ (q : Nat) (f : Nat → Im) (ok : Bool), q ≤ 1048576 ∧
      (∀ (u : Value) (W : World), ItemsOf W u n l → Calls Try.prog 28 #[u, .int .i64 x0] W fun e w' => (∃ r, e = .returned (.tuple #[r, .bool ok]) ∧ ItemsOf w' r q f) ∧ Below W.heap.size W w') ∧
      (∀ (b : Nat) (W : World), ItemsOf W (.slice (some ⟨b, 0, none⟩) n n) n l → Calls Try.prog 29 #[.slice (some ⟨b, 0, none⟩) n n, .int .i64 x0] W fun e w' => (∃ r, e = .returned (.tuple #[r, .bool ok]) ∧ AnsT w' W.heap.size r q f) ∧ Below W.heap.size W w')) :
    Calls Try.prog 8 #[v, .int .i64 x0] w fun e w' => e = .returned (.bool true) ∧ Below w.heap.size w w' := by
  have HV := hide hv
  have HL := hide hl
  have HC := hide hC
  obtain ⟨a, cap, rfl⟩ := hv.form
  clear hv hl hC
  go_enter Try.func8, Try.ntmps8
  go_wp2_with fail
  refine (sz_items _ n _ 1048576 _ HL.out (by omega) (by omega)).mono ?_
  rintro e w1 ⟨⟨q0, rfl, hq0⟩, rfl⟩
  by_cases hn0 : q0 < 0
  · clear hq0
    go_wp2
    go_ret
    exact ⟨rfl, Below.refl _ _⟩
  have hn : n ≤ 1048576 := by omega
  have HN := hide hn
  obtain ⟨q, f, ok, hq, hS, hI⟩ := HC.out hn
  have HQ := hide hq
  have HS := hide hS
  have HI := hide hI
  have hok : (ok != ok) = false := by simp
  have hkn : ¬ (((1 + n * 2 : Nat) : Int) < 0) := by omega
  obtain ⟨mm, hmm⟩ : ∃ mm, 1 + q * 2 = mm := ⟨_, rfl⟩
  have HM := hide hmm
  have hm0 : ¬ ((mm : Int) < 0) := by omega
  have hm1 : ((mm : Int) != (mm : Int)) = false := by simp
  clear hq0 hn hq hS hI HC HL hmm
  go_wp2_with fail
  refine (to_items _ n l _ HV.out HN.out).mono ?_
  rintro e w3 ⟨⟨rfl, hO⟩, hB3⟩
  have HO := hide hO
  clear hO
  go_wp2_with fail
  refine (HS.out _ _ HO.out.items).mono ?_
  rintro e wA ⟨⟨rs, rfl, hR⟩, hb⟩
  have hB4 := hB3.trans (hb.mono hB3.size)
  have HR := hide hR
  obtain ⟨asp, csp, rfl⟩ := hR.form
  clear hb hB3 hR HO HS
  go_wp2_with fail
  refine (to_items _ n l _ (HV.out.below hB4) HN.out).mono ?_
  rintro e w5 ⟨⟨rfl, hO⟩, hb5⟩
  have HO := hide hO
  have HB5 := hide hb5
  clear hO hb5
  go_wp2_with fail
  refine (HI.out _ _ HO.out.items).mono ?_
  rintro e w6 ⟨⟨r, rfl, hA⟩, hb⟩
  obtain ⟨ar, cr, rfl⟩ := hA.form
  have HL6 := hide (show LI w1 wA w6 n l wA.heap.size w5.heap.size (.slice ar q cr) q f from ⟨(hB4.trans (HB5.out.mono hB4.size)).trans (hb.mono (Nat.le_trans hB4.size HB5.out.size)), HB5.out.trans (hb.mono HB5.out.size), HO.out.down hb, hA, Nat.le_refl _, HO.out.lt, hB4.size⟩)
  clear hb hA HO HB5 hB4
  go_wp2_with fail
  refine (eq_items _ _ q f _ HL6.out.out.items (HR.out.below HL6.out.sp) HQ.out).mono ?_
  rintro e w7 ⟨rfl, hb⟩
  have HL7 := hide (HL6.out.down hb)
  clear hb HL6
  go_wp2_with fail
  refine (to_items _ n l _ (HV.out.below HL7.out.low) HN.out).mono ?_
  rintro e w8 ⟨⟨rfl, hO⟩, hb⟩
  have HO := hide hO
  have HL8 := hide (HL7.out.down hb)
  clear hb hO HL7
  go_wp2_with fail
  refine (eq_items _ _ n l _ HL8.out.inn.items HO.out.items HN.out).mono ?_
  rintro e w9 ⟨rfl, hb⟩
  have HL9 := hide (HL8.out.down hb)
  clear hb HL8 HO
  go_wp2_with fail
  refine (mark_items wA.heap.size n n n 1 l _ HL9.out.inn HN.out (by omega)).mono ?_
  rintro e w10 ⟨rfl, hk, ho⟩
  have HL10 := hide (HL9.out.marked ho hk)
  clear ho hk HL9
  go_wp2_with fail
  refine (eq_items _ _ q f _ HL10.out.out.items (HR.out.below HL10.out.sp) HQ.out).mono ?_
  rintro e w11 ⟨rfl, hb⟩
  have HL11 := hide (HL10.out.down hb)
  clear hb HL10 hkn
  go_wp2_with fail
  refine (mark_ansT w5.heap.size q 1 _ f _ HL11.out.out HQ.out (by omega)).mono ?_
  rintro e w12 ⟨rfl, hC, hb, -⟩
  have HL12 := hide (HL11.out.marks hb hC)
  clear hb hC HL11
  rw [HM.out]
  go_wp2_with fail
  refine (held_items _ q 1 _ HL12.out.out.items HQ.out (by omega)).mono ?_
  rintro e w13 ⟨rfl, rfl⟩
  rw [HM.out]
  go_wp2_with fail
  refine (to_items _ n l _ (HV.out.below HL12.out.low) HN.out).mono ?_
  rintro e w14 ⟨⟨rfl, hO⟩, hb⟩
  have HO := hide hO
  have HL14 := hide (HL12.out.down hb)
  clear hb hO HL12
  go_wp2_with fail
  refine (HI.out _ _ HO.out.items).mono ?_
  rintro e w15 ⟨⟨r2, rfl, hA⟩, hb⟩
  obtain ⟨ar2, cr2, rfl⟩ := hA.form
  have HA := hide hA.items
  have HL15 := hide (HL14.out.down hb)
  clear hb hA HO HL14 HI
  go_wp2_with fail
  refine (eq_items _ _ q f _ HA.out (HR.out.below HL15.out.sp) HQ.out).mono ?_
  rintro e w16 ⟨rfl, hb⟩
  have HL16 := hide (HL15.out.down hb)
  clear hb HL15 HA
  go_wp2_with fail
  refine (held_items _ q 1 _ HL16.out.out.items HQ.out (by omega)).mono ?_
  rintro e w17 ⟨rfl, rfl⟩
  have hbz := HL16.out.low
  rw [HM.out]
  clear HL16 HR HV HM HN HQ
  go_wp2
  go_ret
  exact ⟨rfl, hbz⟩
end Go.Proofs.Ytbajiamkgffhkaa

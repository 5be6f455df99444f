/-
  The program's FinishFrom: back from the end by first arrivals.
-/
import Derived.Test.YthilapalgakhhaaNetTok
import Derived.Test.YthilapalgakhhaaNetRows
import Derived.Test.YthilapalgakhhaaNetRev
namespace Go.Proofs.Ythilapalgakhhaa
open Go.RowKit M
open Clk (upd upd_same upd_other)
namespace M
theorem tok_one (q : Nat) : tok q = one q := rfl
theorem map_apart {w : World} {b c B e z n : Nat} {K : Nat → Nat → Int} {V : Nat → Value} {v : Value} {xs : List Value} (h : MapB w b c K V) (ho : w.ownsRow B e z v n xs) : some b ≠ v.ownBlock := by
  intro he
  rcases ho.2 with ⟨rfl, _⟩ | ⟨g, cap, cur, rfl, _, hb, _⟩
  · simp [Value.ownBlock] at he
  · simp only [Value.ownBlock, Option.some.injEq] at he
    subst he
    unfold MapB at h
    rw [h] at hb
    cases hb
theorem veq8_self (x : Nat → Int) : veq8 x x = true := (veq8_iff x x).2 fun _ _ => rfl
end M
theorem arr_f0 (o : Int) (f : Nat → Int) (u : Int) (W : World) : (Instr.field 94 (arrV o f u) 0).run Try.prog W = .ok (.int .i64 o) W := by
  simp [Instr.field, go_sem, asAgg]
theorem arr_f1 (o : Int) (f : Nat → Int) (u : Int) (W : World) : (Instr.field 94 (arrV o f u) 1).run Try.prog W = .ok (mkV f) W := by
  simp [Instr.field, go_sem, asAgg]
theorem arr_f2 (o : Int) (f : Nat → Int) (u : Int) (W : World) : (Instr.field 94 (arrV o f u) 2).run Try.prog W = .ok (.int .i64 u) W := by
  simp [Instr.field, go_sem, asAgg]
set_option maxRecDepth 20000 in
set_option maxHeartbeats 1000000 in
theorem impl_fin (n : Nat) (v : Value) (k : Nat) (st : Nat → Sp) (u : Value) (f : Nat → Int) (s : Bs) (d : Nat) (pb : Nat → List Nat) (w : World) (hv : StepsOf w v k st) (hu : IntsOf w u n f) (hs : Short k st) (h : NOk (n : Int) k st n f) (hf : foundB st k (pad n f) = some s)
    (hd : d < s.c) (hno : NoKey d s.M (tok (n - 1))) (hy : veq8 (tok (n - 1)) (s.M d) = true) (hp : IsPath s pb) :
    Calls Try.prog 43 #[netV (n : Int) v, u] w fun e w' => (∃ r, e = .returned (.tuple #[r, .bool true]) ∧ AnsC w' w.heap.size r (pb d).length (lv (pb d))) ∧ Below w.heap.size w w' := by
  obtain ⟨i0, hi, hz0, hz1, hz2⟩ := info_parts info_int
  have HV := hide hv
  have HU := hide hu
  have HS := hide hs
  have HN := hide h
  have hn8 : n ≤ 8 := by have := h.1.1.2; omega
  have hn1 : 1 ≤ n := by have := h.1.1.1; omega
  have hok := allB_ok h.1.2.2 h.mk hf
  have hc4 : s.c ≤ 400 := hok.most
  have HOk := hide hok
  have HP := hide hp
  have hpl := hp.len hok d hd
  obtain ⟨a, cap, rfl⟩ := hv.form
  obtain ⟨a2, cap2, rfl⟩ := hu.form
  obtain ⟨m, rfl⟩ : ∃ m, n = m + 1 := ⟨n - 1, by omega⟩
  simp only [Nat.add_sub_cancel] at hno hy
  have hbA := (Below.refl w.heap.size w).alloc (Nat.le_refl _) (.cells #[.int .i64 ((m + 1 : Nat) : Int), .slice a k cap] 29)
  have hNA : Blk (w.alloc (.cells #[.int .i64 ((m + 1 : Nat) : Int), .slice a k cap] 29)) w.heap.size 2 (p2 (.int .i64 ((m + 1 : Nat) : Int)) (.slice a k cap)) 29 := Blk.fresh w _ 2 _ 29 rfl
  clear hv hu hs h hok hp
  go_enter Try.func43, Try.ntmps43
  go_wp2_with fail
  refine (met_from (m + 1) _ k st _ f _ (HV.out.below hbA) (HU.out.below hbA) HS.out HN.out).mono ?_
  rintro e w1 ⟨hF, hb⟩
  rw [hf] at hF
  obtain ⟨b, rfl, hbb, hMp⟩ := hF
  have hb1 := hbA.trans (hb.mono hbA.size)
  have hN1 := hNA.down hb
  obtain ⟨d0, d1, -, -⟩ := hN1.pair
  have hs1 := hb1.size
  clear hbA hNA hb hf HV HU HS HN
  go_wp2_with fail
  refine (token_in m _ (by omega)).mono ?_
  rintro e w2 ⟨rfl, hb⟩
  have hb2 := hb1.trans (hb.mono hs1)
  have hM2 := hMp.down hb
  have hs2 := hb2.size
  have hbB := (Below.refl w2.heap.size w2).alloc (Nat.le_refl _) (.cells #[.int .i64 (tok m 0), .int .i64 (tok m 1), .int .i64 (tok m 2), .int .i64 (tok m 3), .int .i64 (tok m 4), .int .i64 (tok m 5), .int .i64 (tok m 6), .int .i64 (tok m 7)] 68)
  have hlk := look_yes Try.underlying78 (hM2.down hbB) (tok m) hd hno hy true
  obtain ⟨lo, lf, lu, hform⟩ := arrB_form s d
  rw [hform] at hlk
  simp only [if_true] at hlk
  have hbl : b < w2.heap.size := hM2.lt
  have hbw : w.heap.size + 1 ≤ b := by rw [World.size_alloc] at hbb; exact hbb
  have HM2 := hide hM2
  have HVE := hide (show ∀ q, q < 8 → tok m q = s.M d q from (veq8_iff _ _).1 hy)
  clear hb hM2 hMp hno hform hbb hN1 d0 d1 hb1
  have H5 := hide (show ∀ o t, t = 68 → Blk (((w2.alloc (.cells #[.int .i64 (tok m 0), .int .i64 (tok m 1), .int .i64 (tok m 2), .int .i64 (tok m 3), .int .i64 (tok m 4), .int .i64 (tok m 5), .int .i64 (tok m 6), .int .i64 (tok m 7)] 68)).alloc o).alloc (.cells #[.int .i64 (tok m 0), .int .i64 (tok m 1), .int .i64 (tok m 2), .int .i64 (tok m 3), .int .i64 (tok m 4), .int .i64 (tok m 5), .int .i64 (tok m 6), .int .i64 (tok m 7)] t)) (w2.heap.size + 1 + 1) 8 (iv (s.M d)) 68 ∧
      MapB (((w2.alloc (.cells #[.int .i64 (tok m 0), .int .i64 (tok m 1), .int .i64 (tok m 2), .int .i64 (tok m 3), .int .i64 (tok m 4), .int .i64 (tok m 5), .int .i64 (tok m 6), .int .i64 (tok m 7)] 68)).alloc o).alloc (.cells #[.int .i64 (tok m 0), .int .i64 (tok m 1), .int .i64 (tok m 2), .int .i64 (tok m 3), .int .i64 (tok m 4), .int .i64 (tok m 5), .int .i64 (tok m 6), .int .i64 (tok m 7)] t)) b s.c s.M (arrB s) ∧
      Below w.heap.size w (((w2.alloc (.cells #[.int .i64 (tok m 0), .int .i64 (tok m 1), .int .i64 (tok m 2), .int .i64 (tok m 3), .int .i64 (tok m 4), .int .i64 (tok m 5), .int .i64 (tok m 6), .int .i64 (tok m 7)] 68)).alloc o).alloc (.cells #[.int .i64 (tok m 0), .int .i64 (tok m 1), .int .i64 (tok m 2), .int .i64 (tok m 3), .int .i64 (tok m 4), .int .i64 (tok m 5), .int .i64 (tok m 6), .int .i64 (tok m 7)] t)) from by
    rintro o t rfl
    have hbC := hbB.alloc hbB.size o
    have hbD := hbC.alloc hbC.size (.cells #[.int .i64 (tok m 0), .int .i64 (tok m 1), .int .i64 (tok m 2), .int .i64 (tok m 3), .int .i64 (tok m 4), .int .i64 (tok m 5), .int .i64 (tok m 6), .int .i64 (tok m 7)] 68)
    refine ⟨?_, HM2.out.down hbD, hb2.trans (hbD.mono hs2)⟩
    have := Blk.fresh ((w2.alloc (.cells #[.int .i64 (tok m 0), .int .i64 (tok m 1), .int .i64 (tok m 2), .int .i64 (tok m 3), .int .i64 (tok m 4), .int .i64 (tok m 5), .int .i64 (tok m 6), .int .i64 (tok m 7)] 68)).alloc o) _ 8 (iv (tok m)) 68 (cf8 (tok m))
    rw [World.size_alloc, World.size_alloc] at this
    exact this.ext fun q hq => by unfold iv; rw [HVE.out q hq])
  go_wp2_with fail
  go_loopw [11, 12] (fun x y wr => ∃ (j : Nat) (L : List Nat) (g : Nat), j < s.c ∧ Hid (pb d = pb j ++ L.reverse) ∧ y = .pointer (some ⟨g, 0, none⟩) ∧ w.heap.size ≤ g ∧ Hid (wr.ownsRow w.heap.size 3 1 x L.length (pv L)) ∧ Hid (Blk wr g 8 (iv (s.M j)) 68 ∧ MapB wr b s.c s.M (arrB s) ∧ Below w.heap.size w wr)) (fun x _ _ => (pb d).length - lenV x)
  case atStart => exact ⟨d, [], w2.heap.size + 1 + 1, hd, hide (by simp), rfl, by omega, hide (World.ownsRow_nil _ _ _ _), hide (H5.out _ _ rfl)⟩
  case round =>
    rename World => wo
    obtain ⟨j, L, g, hj, HL, rfl, hgw, HW, HB⟩ := hrel
    obtain ⟨hB, hM, hbo⟩ := HB.out
    obtain ⟨k0, k1, k2, k3, k4, k5, k6, k7⟩ := hB.eight
    have hlk2 := look_yes Try.underlying78 hM (s.M j) hj (HOk.out.new j hj) (veq8_self _) false
    simp only [Bool.false_eq_true, if_false] at hlk2
    have hso := hbo.size
    obtain ⟨ax, cx, rfl⟩ := own_form HW.out
    by_cases h0 : j = 0
    · subst h0
      rw [show arrB s 0 = arrV 0 z8 0 from rfl] at hlk2
      have af0 := fun W => arr_f0 0 z8 0 W
      have hLe : L.reverse = pb d := by rw [HL.out, HP.out.1]; simp
      have hLl : L.length ≤ 1048576 := by
        have := congrArg List.length hLe
        rw [List.length_reverse] at this
        omega
      have HLe := hide hLe
      clear H5 hlk HL hB hM hLe
      go_wp2_with fail
      refine (reverse_own _ _ L _ HW.out hLl).mono ?_
      rintro e w6 ⟨rfl, hA, hb⟩
      have hb6 := hbo.trans hb
      have HA := hide (show AnsC w6 w.heap.size (.slice ax L.length cx) (pb d).length (lv (pb d)) from by rw [← HLe.out, List.length_reverse]; exact hA)
      clear hA hb HW HLe
      go_wp2
      go_ret2
      exact ⟨⟨_, rfl, HA.out⟩, hb6⟩
    · have hpj : 0 < j := by omega
      rw [show arrB s j = arrV (j : Int) (s.M (s.fr j)) (s.st j : Int) by unfold arrB; rw [if_neg h0]] at hlk2
      have af0 := fun W => arr_f0 (j : Int) (s.M (s.fr j)) (s.st j : Int) W
      have af1 := fun W => arr_f1 (j : Int) (s.M (s.fr j)) (s.st j : Int) W
      have af2 := fun W => arr_f2 (j : Int) (s.M (s.fr j)) (s.st j : Int) W
      have hfr := HOk.out.back j hpj hj
      have hpath := HP.out.2 j hpj hj
      have hlen : L.length + 1 ≤ (pb d).length := by rw [HL.out, hpath]; simp
      have HL2 := hide (show pb d = pb (s.fr j) ++ (L ++ [s.st j]).reverse by rw [HL.out, hpath]; simp)
      have hj0 : ((j : Int) > 0) := by omega
      have hbE := (Below.refl wo.heap.size wo).alloc (Nat.le_refl _) (.cells #[.int .i64 (s.st j : Int)] 3)
      have hoE := owns_below HW.out hbE
      have HBE := hide (And.intro (hB.down hbE) (hM.down hbE))
      have hboE := hbo.trans (hbE.mono hso)
      clear H5 hlk HL hpath hB hM h0 HB
      go_wp2_with (at_builtin; refine wpList_append_own _ rfl _ _ 33 rfl w.heap.size 3 i0 _ 1 8 Try.underlying33 hi hz0 hz1 hz2 rfl (by decide) _ L.length _ rfl hoE ⟨wo.heap.size, 0, none⟩ 1 1 [.int .i64 (s.st j : Int)] rfl rfl (news1 wo _ _) (by intro u hu; simp at hu; subst hu; rfl) (by unfold maxLen; omega) (by omega) (by simp; omega) ?_)
      intro v7 w7 hown7 hgrow7 _
      have hB7 := HBE.out.1.grown hoE (by decide) hgrow7
      have hM7 : MapB w7 b s.c s.M (arrB s) := HBE.out.2.only (hgrow7.block b HBE.out.2.lt (map_apart HBE.out.2 hoE))
      have hb7 : Below w.heap.size w w7 := hboE.grown hgrow7 (by simp; omega) (fun q hq => (hoE.lt q hq).1)
      have hs7 := hb7.size
      obtain ⟨a7, c7, rfl⟩ := own_form hown7
      have HO7 := hide hown7
      clear k0 k1 k2 k3 k4 k5 k6 k7 hlk2
      obtain ⟨k0, k1, k2, k3, k4, k5, k6, k7⟩ := hB7.eight
      have hbG := (Below.refl w7.heap.size w7).alloc (Nat.le_refl _) (.cells #[.int .i64 (s.M j 0), .int .i64 (s.M j 1), .int .i64 (s.M j 2), .int .i64 (s.M j 3), .int .i64 (s.M j 4), .int .i64 (s.M j 5), .int .i64 (s.M j 6), .int .i64 (s.M j 7)] 68)
      have hlk3 := look_yes Try.underlying78 (hM7.down hbG) (s.M j) hj (HOk.out.new j hj) (veq8_self _) false
      simp only [Bool.false_eq_true, if_false] at hlk3
      rw [show arrB s j = arrV (j : Int) (s.M (s.fr j)) (s.st j : Int) by unfold arrB; rw [if_neg (by omega)]] at hlk3
      have HM7 := hide hM7
      clear hgrow7 hoE HBE hboE hbE hB7 hM7 hown7 HW
      have hbH := (Below.refl w7.heap.size w7).alloc (Nat.le_refl _) (.cells #[.int .i64 (s.M (s.fr j) 0), .int .i64 (s.M (s.fr j) 1), .int .i64 (s.M (s.fr j) 2), .int .i64 (s.M (s.fr j) 3), .int .i64 (s.M (s.fr j) 4), .int .i64 (s.M (s.fr j) 5), .int .i64 (s.M (s.fr j) 6), .int .i64 (s.M (s.fr j) 7)] 68)
      have HFi := hide (show (w7.alloc (.cells #[.int .i64 (s.M (s.fr j) 0), .int .i64 (s.M (s.fr j) 1), .int .i64 (s.M (s.fr j) 2), .int .i64 (s.M (s.fr j) 3), .int .i64 (s.M (s.fr j) 4), .int .i64 (s.M (s.fr j) 5), .int .i64 (s.M (s.fr j) 6), .int .i64 (s.M (s.fr j) 7)] 68)).ownsRow w.heap.size 3 1 (.slice a7 (L.length + 1) c7) (L ++ [s.st j]).length (pv (L ++ [s.st j])) from by
        rw [List.length_append, pv_snoc]; exact owns_below HO7.out hbH)
      have HFj := hide (And.intro (Blk.fresh w7 _ 8 (iv (s.M (s.fr j))) 68 (cf8 (s.M (s.fr j)))) (And.intro (HM7.out.down hbH) (hb7.trans (hbH.mono hs7))))
      have hlen2 : (pb d).length - (L.length + 1) < (pb d).length - L.length := by omega
      clear hbH hbG HO7 HM7
      go_wp2
      exact ⟨⟨s.fr j, L ++ [s.st j], w7.heap.size, by omega, HL2, rfl, hs7, HFi, HFj⟩, by simp only [lenV]; exact hlen2⟩
set_option maxRecDepth 20000 in
set_option maxHeartbeats 1000000 in
theorem impl_fin_no (p : Int) (v : Value) (k : Nat) (st : Nat → Sp) (u : Value) (n : Nat) (f : Nat → Int) (w : World) (hv : StepsOf w v k st) (hu : IntsOf w u n f) (hs : Short k st) (hn : n ≤ 1048576) (h : ¬ NOk p k st n f ∨ (NOk p k st n f ∧ foundB st k (pad n f) = none)) :
    Calls Try.prog 43 #[netV p v, u] w fun e w' => e = .returned (.tuple #[.slice none 0 0, .bool false]) ∧ Below w.heap.size w w' := by
  have HM := hide (show ∀ wx : World, Below w.heap.size w wx → Calls Try.prog 60 #[netV p v, u] wx fun e w' => e = .returned (.tuple #[.map none, .bool false]) ∧ Below wx.heap.size wx w' from fun wx hbx => by
    rcases h with h | ⟨h, h2⟩
    · exact met_from_no p v k st u n f wx (hv.below hbx) (hu.below hbx) hs hn h
    · obtain rfl : (n : Int) = p := h.2.2
      refine (met_from n v k st u f wx (hv.below hbx) (hu.below hbx) hs h).mono ?_
      rintro e w' ⟨hF, hb⟩
      rw [h2] at hF
      exact ⟨hF, hb⟩)
  obtain ⟨a, cap, rfl⟩ := hv.form
  obtain ⟨a2, cap2, rfl⟩ := hu.form
  have hbA := (Below.refl w.heap.size w).alloc (Nat.le_refl _) (.cells #[.int .i64 p, .slice a k cap] 29)
  clear hv hu hs h
  go_enter Try.func43, Try.ntmps43
  go_wp2_with fail
  refine (HM.out _ hbA).mono ?_
  rintro e w1 ⟨rfl, hb⟩
  have hb1 := hbA.trans (hb.mono hbA.size)
  clear hbA hb HM
  go_wp2
  go_ret2
  exact ⟨rfl, hb1⟩
set_option maxRecDepth 20000 in
set_option maxHeartbeats 1000000 in
theorem impl_fin_end (n : Nat) (v : Value) (k : Nat) (st : Nat → Sp) (u : Value) (f : Nat → Int) (s : Bs) (w : World) (hv : StepsOf w v k st) (hu : IntsOf w u n f) (hs : Short k st) (h : NOk (n : Int) k st n f) (hf : foundB st k (pad n f) = some s) (hno : NoKey s.c s.M (tok (n - 1))) :
    Calls Try.prog 43 #[netV (n : Int) v, u] w fun e w' => e = .returned (.tuple #[.slice none 0 0, .bool false]) ∧ Below w.heap.size w w' := by
  have HV := hide hv
  have HU := hide hu
  have HS := hide hs
  have HN := hide h
  have hn8 : n ≤ 8 := by have := h.1.1.2; omega
  have hn1 : 1 ≤ n := by have := h.1.1.1; omega
  obtain ⟨a, cap, rfl⟩ := hv.form
  obtain ⟨a2, cap2, rfl⟩ := hu.form
  obtain ⟨m, rfl⟩ : ∃ m, n = m + 1 := ⟨n - 1, by omega⟩
  simp only [Nat.add_sub_cancel] at hno
  have hbA := (Below.refl w.heap.size w).alloc (Nat.le_refl _) (.cells #[.int .i64 ((m + 1 : Nat) : Int), .slice a k cap] 29)
  have hNA : Blk (w.alloc (.cells #[.int .i64 ((m + 1 : Nat) : Int), .slice a k cap] 29)) w.heap.size 2 (p2 (.int .i64 ((m + 1 : Nat) : Int)) (.slice a k cap)) 29 := Blk.fresh w _ 2 _ 29 rfl
  clear hv hu hs h
  go_enter Try.func43, Try.ntmps43
  go_wp2_with fail
  refine (met_from (m + 1) _ k st _ f _ (HV.out.below hbA) (HU.out.below hbA) HS.out HN.out).mono ?_
  rintro e w1 ⟨hF, hb⟩
  rw [hf] at hF
  obtain ⟨b, rfl, hbb, hMp⟩ := hF
  have hb1 := hbA.trans (hb.mono hbA.size)
  have hN1 := hNA.down hb
  obtain ⟨d0, d1, -, -⟩ := hN1.pair
  have hs1 := hb1.size
  clear hbA hNA hb hf HV HU HS HN
  go_wp2_with fail
  refine (token_in m _ (by omega)).mono ?_
  rintro e w2 ⟨rfl, hb⟩
  have hb2 := hb1.trans (hb.mono hs1)
  have hM2 := hMp.down hb
  have hs2 := hb2.size
  have hbB := (Below.refl w2.heap.size w2).alloc (Nat.le_refl _) (.cells #[.int .i64 (tok m 0), .int .i64 (tok m 1), .int .i64 (tok m 2), .int .i64 (tok m 3), .int .i64 (tok m 4), .int .i64 (tok m 5), .int .i64 (tok m 6), .int .i64 (tok m 7)] 68)
  have hlk := look_no Try.underlying78 (zero_arr _) (hM2.down hbB) (tok m) hno true
  simp only [if_true] at hlk
  have HB3 := hide (show ∀ o, Below w.heap.size w ((w2.alloc (.cells #[.int .i64 (tok m 0), .int .i64 (tok m 1), .int .i64 (tok m 2), .int .i64 (tok m 3), .int .i64 (tok m 4), .int .i64 (tok m 5), .int .i64 (tok m 6), .int .i64 (tok m 7)] 68)).alloc o) from fun o => (hb2.trans (hbB.mono hs2)).alloc (by simp; omega) _)
  clear hb hM2 hMp hno hbb hN1 d0 d1 hb1 hbB
  go_wp2
  go_ret2
  exact ⟨rfl, HB3.out _⟩
end Go.Proofs.Ythilapalgakhhaa

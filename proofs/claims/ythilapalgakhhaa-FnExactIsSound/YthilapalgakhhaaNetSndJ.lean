/-
  The program's aheadOfEach, walked.
-/
import Derived.Test.YthilapalgakhhaaNetSndH
import Derived.Test.YthilapalgakhhaaNetMarks
namespace Go.Proofs.Ythilapalgakhhaa
open Go.RowKit M
open Clk (upd upd_same upd_other)
set_option maxRecDepth 20000 in
set_option maxHeartbeats 2000000 in
theorem ahead_is (p : Nat) (v : Value) (k : Nat) (st : Nat → Sp) (s : Bs) (b : Nat) (w : World) (hv : StepsOf w v k st) (hp : p ≤ 8) (hk : k ≤ 12) (hg : ∀ t, t < k → GoodS p (st t)) (hok : BOk p k s) (hm : MapB w b s.c s.M (arrB s)) :
    Calls Try.prog 78 #[netV (p : Int) v, .map (some b)] w fun e w' => (∃ V a, e = .returned (.map (some (w.heap.size + 1))) ∧ AH w' (w.heap.size + 1 + 1 + 1) (w.heap.size + 1) V a ∧ AI st k p s s.c 0 a) ∧ Below w.heap.size w w' := by
  have HG := hide hg
  have HOk := hide hok
  have hmost := hok.most
  obtain ⟨a0, cap, rfl, hrow⟩ := hv
  have HR := hide hrow
  have hmm := fun W => run_makeMap (P := Try.prog) 101 W
  have hM0 : MapB w b s.c s.M (fun i => arrV (i : Int) ((fun j => if j = 0 then z8 else s.M (s.fr j)) i) ((fun j => if j = 0 then 0 else (s.st j : Int)) i)) := hm.congr (fun j _ => ⟨rfl, arrB_arr s j⟩)
  have hbA := (Below.refl w.heap.size w).alloc (Nat.le_refl _) (.cells #[.int .i64 (p : Int), .slice a0 k cap] 29)
  have hNA := Blk.fresh w _ 2 (p2 (.int .i64 (p : Int)) (.slice a0 k cap)) 29 rfl
  have hbB := hbA.alloc hbA.size (.map #[] 0)
  obtain ⟨W2, hW2⟩ : ∃ W2, (w.alloc (.cells #[.int .i64 (p : Int), .slice a0 k cap] 29)).alloc (.map #[] 0) = W2 := ⟨_, rfl⟩
  have hs2 : W2.heap.size = w.heap.size + 1 + 1 := by rw [← hW2]; simp
  have HN2 := hide (show Blk W2 w.heap.size 2 (p2 (.int .i64 (p : Int)) (.slice a0 k cap)) 29 from hW2 ▸ hNA.alloc _)
  have HA2 := hide (show MapB W2 (w.heap.size + 1) 0 (fun _ _ => 0) (fun _ => .slice none 0 0) from by
    rw [← hW2]
    have := MapB.made (w.alloc (.cells #[.int .i64 (p : Int), .slice a0 k cap] 29)) (fun _ _ => 0) (fun _ => .slice none 0 0)
    rw [World.size_alloc] at this; exact this)
  have HB2 := hide (show Below w.heap.size w W2 from hW2 ▸ hbB)
  have HM2 := hide (hM0.down HB2.out)
  have HW2 := hide hW2
  have HS2 := hide hs2
  clear hW2 hs2 hbA hbB hNA hM0 hm hrow hg hok
  go_enter Try.func78, Try.ntmps78
  go_wp2_with fail
  rw [HW2.out]
  refine (in_order b s.c s.M _ _ _ HM2.out hmost).mono ?_
  rintro e w3 ⟨⟨rfl, hI⟩, hb3⟩
  have H0 := hide (show AhR w w3 st k p s (p2 (.int .i64 (p : Int)) (.slice a0 k cap)) 0 0 ⟨0, fun _ _ => 0, fun _ => []⟩ (fun _ => .slice none 0 0) from
    ⟨HB2.out.trans (hb3.mono HB2.out.size), HN2.out.down hb3, by rw [← HS2.out]; exact hI, ⟨HA2.out.down hb3, fun j hj => absurd hj (Nat.not_lt_zero _), fun i j hi => absurd hi (Nat.not_lt_zero _)⟩, AI.start⟩)
  rw [HS2.out]
  clear HW2 HM2 hI hb3 HN2 HA2 HB2 HS2
  go_wp2_with fail
  go_loopw [16] (fun x wr => ∃ (i : Nat) (a : Ah) (V : Nat → Value), i ≤ s.c ∧ x = .int .i64 (i : Int) ∧ Hid (AhR w wr st k p s (p2 (.int .i64 (p : Int)) (.slice a0 k cap)) i 0 a V)) (fun x _ => s.c - (intOf x).toNat)
  case atStart => exact ⟨0, _, _, Nat.zero_le _, rfl, H0⟩
  case round =>
    rename World => wo
    obtain ⟨i, a, V, his, rfl, HA⟩ := hrel
    clear H0
    by_cases hlt : i < s.c
    · obtain ⟨⟨p0, p1, p2', p3, p4, p5, p6, p7⟩, -⟩ := (HA.out.2.2.1).row8 (k := i) (by omega)
      obtain ⟨e0, e1, -, -⟩ := HA.out.2.1.pair
      have ae0 := fun o : Obj => alloc_cell o e0
      have ae1 := fun o : Obj => alloc_cell o e1
      have hi0 : (0 : Int) ≤ (i : Int) := by omega
      have hi1 : (i : Int) < (s.c : Int) := by omega
      have hsz := HA.out.1.size
      have hbl := HA.out.2.2.1.lt
      have HI0 := hide (show AhR w (wo.alloc (.cells #[.int .i64 (s.M i 0), .int .i64 (s.M i 1), .int .i64 (s.M i 2), .int .i64 (s.M i 3), .int .i64 (s.M i 4), .int .i64 (s.M i 5), .int .i64 (s.M i 6), .int .i64 (s.M i 7)] 68)) st k p s (p2 (.int .i64 (p : Int)) (.slice a0 k cap)) i 0 a V ∧ Blk (wo.alloc (.cells #[.int .i64 (s.M i 0), .int .i64 (s.M i 1), .int .i64 (s.M i 2), .int .i64 (s.M i 3), .int .i64 (s.M i 4), .int .i64 (s.M i 5), .int .i64 (s.M i 6), .int .i64 (s.M i 7)] 68)) wo.heap.size 8 (iv (s.M i)) 68 ∧ Apt V a.n wo.heap.size from
        ⟨HA.out.down ((Below.refl _ _).alloc (Nat.le_refl _) _), Blk.fresh wo _ 8 (iv (s.M i)) 68 (cf8 (s.M i)), fun j hj e => by have := (own_lt (HA.out.2.2.2.1.row j hj) e).1; omega⟩)
      clear HA
      go_wp2_with fail
      go_loopw [23] (fun y wr => ∃ (t : Nat) (a : Ah) (V : Nat → Value), t ≤ k ∧ y = .int .i64 (t : Int) ∧ Hid (AhR w wr st k p s (p2 (.int .i64 (p : Int)) (.slice a0 k cap)) i t a V ∧ Blk wr wo.heap.size 8 (iv (s.M i)) 68 ∧ Apt V a.n wo.heap.size)) (fun y _ => k - (intOf y).toNat)
      case atStart => exact ⟨0, a, V, Nat.zero_le _, rfl, HI0⟩
      case round =>
        rename World => wq
        clear HI0
        obtain ⟨t, a, V, htk, rfl, HI⟩ := hrel
        clear e0 e1 ae0 ae1 p0 p1 p2' p3 p4 p5 p6 p7
        by_cases htl : t < k
        · obtain ⟨hSp, hG, hAp⟩ := HI.out
          have hb2 := hSp.1
          obtain ⟨bb, off, rfl, hbb, hrw⟩ := HR.out (by omega)
          obtain ⟨vx, vy, q1, q2, i1, i2⟩ := hrw t htl
          obtain ⟨ax, cx, rfl⟩ := i1.form
          obtain ⟨ay, cy, rfl⟩ := i2.form
          have l1 := (hb2.cell (p := ⟨bb, off + t * 2, none⟩) hbb).trans q1
          have l2 := (hb2.cell (p := ⟨bb, off + t * 2 + 1, none⟩) hbb).trans q2
          obtain ⟨l3, l4, l5, l6, l7, l8, l9, l10⟩ := hG.eight
          have al3 := fun o : Obj => alloc_cell o l3
          have al4 := fun o : Obj => alloc_cell o l4
          have al5 := fun o : Obj => alloc_cell o l5
          have al6 := fun o : Obj => alloc_cell o l6
          have al7 := fun o : Obj => alloc_cell o l7
          have al8 := fun o : Obj => alloc_cell o l8
          have al9 := fun o : Obj => alloc_cell o l9
          have al10 := fun o : Obj => alloc_cell o l10
          have J1 := hide (i1.below hb2)
          have J2 := hide (i2.below hb2)
          have ht0 : (0 : Int) ≤ (t : Int) := by omega
          have ht1 : (t : Int) < (k : Int) := by omega
          have HF := hide (show ∀ (r : Option (Nat → Int)) (wx : World), fire (st t) (s.M i) = r → Below wq.heap.size wq wx → Calls Try.prog 55 #[mkV (s.M i), .agg #[.slice ax (st t).ni cx, .slice ay (st t).no cy]] wx fun e w' => e = .returned (.tuple #[mkV (r.getD z8), .bool r.isSome]) ∧ Below wx.heap.size wx w' from fun r wx hr hbx =>
            fire_is (s.M i) _ _ (st t) p r wx (J1.out.below hbx) (J2.out.below hbx) (HG.out t htl) hp (HOk.out.mark i hlt) hr)
          have hlo := hG.lt
          clear hrw q1 q2 i1 i2 hSp hG hb2 hAp
          go_wp2_with fail
          refine (HF.out (fire (st t) (s.M i)) _ rfl ((Below.refl _ _).alloc (Nat.le_refl _) _)).mono ?_
          rintro e w4 ⟨rfl, hb4⟩
          have hbx : Below wq.heap.size wq w4 := ((Below.refl _ _).alloc (Nat.le_refl _) _).trans (hb4.mono (by simp))
          have hbs := hbx.size
          have HS4 := hide (And.intro (HI.out.1.down hbx) (And.intro (HI.out.2.1.down hbx) HI.out.2.2))
          clear al3 al4 al5 al6 al7 al8 al9 al10 l1 l2 l3 l4 l5 l6 l7 l8 l9 l10 HF J1 J2 HI hb4 hbx
          cases hr : fire (st t) (s.M i) with
          | none =>
            have HRn2 := hide hr
            clear hr
            simp only [Option.getD_none, Option.isSome_none]
            go_wp2
            exact ⟨⟨t + 1, a, V, by omega, by go_num, hide ⟨(show AhR w _ st k p s _ i (t + 1) a V from by
              obtain ⟨h1, h2, h3, h4, h5⟩ := HS4.out.1.down ((Below.refl _ _).alloc (Nat.le_refl _) _)
              exact ⟨h1, h2, h3, h4, h5.no HRn2.out⟩), HS4.out.2.1.alloc _, HS4.out.2.2⟩⟩, by simp [intOf]; omega⟩
          | some x =>
            simp only [Option.getD_some, Option.isSome_some]
            have HFx := hide hr
            have HXm := hide (show Mk p x from fire_mk (HG.out t htl) (HOk.out.mark i hlt) hr)
            clear hr
            have hb5 := (Below.refl w4.heap.size w4).alloc (Nat.le_refl _) (.cells #[.int .i64 (x 0), .int .i64 (x 1), .int .i64 (x 2), .int .i64 (x 3), .int .i64 (x 4), .int .i64 (x 5), .int .i64 (x 6), .int .i64 (x 7)] 68)
            have hX5 := Blk.fresh w4 _ 8 (iv x) 68 (cf8 x)
            obtain ⟨l3, l4, l5, l6, l7, l8, l9, l10⟩ := (HS4.out.2.1.down hb5).eight
            obtain ⟨m3, m4, m5, m6, m7, m8, m9, m10⟩ := hX5.eight
            have hb6 := hb5.alloc hb5.size (.cells #[.int .i64 (s.M i 0), .int .i64 (s.M i 1), .int .i64 (s.M i 2), .int .i64 (s.M i 3), .int .i64 (s.M i 4), .int .i64 (s.M i 5), .int .i64 (s.M i 6), .int .i64 (s.M i 7)] 68)
            have hY6 := Blk.fresh (w4.alloc (.cells #[.int .i64 (x 0), .int .i64 (x 1), .int .i64 (x 2), .int .i64 (x 3), .int .i64 (x 4), .int .i64 (x 5), .int .i64 (x 6), .int .i64 (x 7)] 68)) _ 8 (iv (s.M i)) 68 (cf8 (s.M i))
            rw [World.size_alloc] at hY6
            obtain ⟨a', V', d, w7, hr7, hd, hKd, h7, hY7⟩ := entry_either hp (HS4.out.1.down hb6) (HS4.out.2.1.down hb6) (by omega) HS4.out.2.2 hY6 (by omega) HXm.out
            have H7 := hide h7
            have HY7 := hide hY7
            have HKd := hide hKd
            clear hb5 hb6 hX5 hY6 h7 hY7 HS4 hKd
            have hrow7 := hide (H7.out.1.2.2.2.1.row d hd)
            have hlen7 : (a'.L d).length ≤ 100000 := by
              have h1 := H7.out.1.2.2.2.2.len d hd
              have h2 : i * k ≤ 400 * 12 := Nat.mul_le_mul (by omega) hk
              omega
            have hB7 : w.heap.size + 1 + 1 + 1 ≤ w7.heap.size := by have := H7.out.1.2.2.1.lt; omega
            go_wp2_with (at_builtin; refine wpList_own_put rfl _ _ rfl (w.heap.size + 1 + 1 + 1) (a'.L d).length (V' d) _ rfl hrow7.out (w4.heap.size + 1) 1 (s.M i) rfl (fun q hq => HY7.out.cell hq) hlen7 hB7 ?_)
            rintro v8 w8 hown8 hg8 hat8
            have hM8 : MapB w8 (w.heap.size + 1) a'.n a'.K V' := H7.out.1.2.2.2.1.map.only (hg8.block _ H7.out.1.2.2.2.1.map.lt (fun e => own_ne_map hrow7.out H7.out.1.2.2.2.1.map e.symm))
            obtain ⟨w9, hr9, hM9, hO9⟩ := entry_store (t := 101) hM8 hd v8
            have hr9' : (Instr.entryStore 101 (.map (some (w.heap.size + 1))) (.int .i64 (d : Int)) v8).run Try.prog w8 = .ok () w9 := hr9
            have HE := hide (AhR.put H7.out.1 H7.out.2.1 (by omega) H7.out.2.2 hd HKd.out HFx.out hlt htl hown8 hg8 hat8 hM9 hO9)
            clear hr9 hM9 hO9 hM8 hown8 hg8 hat8 H7 HY7 HKd hrow7 l3 l4 l5 l6 l7 l8 l9 l10 m3 m4 m5 m6 m7 m8 m9 m10 hr7
            go_wp2
            exact ⟨⟨t + 1, a'.put d (s.M i), upd V' d v8, by omega, by go_num, HE⟩, by simp [intOf]; omega⟩
        · obtain rfl : t = k := by omega
          have HSo := hide (show AhR w wq st t p s (p2 (.int .i64 (p : Int)) (.slice a0 t cap)) (i + 1) 0 a V from by
            obtain ⟨h1, h2, h3, h4, h5⟩ := HI.out.1
            exact ⟨h1, h2, h3, h4, h5.row⟩)
          clear HI
          go_wp2
          exact ⟨⟨i + 1, a, V, by omega, by go_num, HSo⟩, by simp [intOf]; omega⟩
    · obtain rfl : i = s.c := by omega
      obtain ⟨h1, h2, h3, h4, h5⟩ := HA.out
      clear HA
      go_wp2
      go_ret
      exact ⟨⟨V, a, rfl, h4, h5⟩, h1⟩
end Go.Proofs.Ythilapalgakhhaa

/-
  The law FnDomains, walked: whatever the bytes, it returns true.
-/
import Derived.Test.YtgccoognklolbaaDmJ
import Derived.Test.YtgccoognklolbaaDmC
import Derived.Test.YtgccoognklolbaaDmV
namespace Go.Proofs.Ytgccoognklolbaa
open Go.RowKit M
open Go.Sort (grow)
set_option maxRecDepth 20000 in
set_option maxHeartbeats 2000000 in
theorem same_doms (v u : Value) (l : Dms) (w : World) (hv : DomsOf w v l) (hu : DomsOf w u l) (hl : l.length ≤ 1048576) :
    Calls Try.prog 37 #[v, u] w fun e w' => e = .returned (.bool true) ∧ Below w.heap.size w w' := by
  obtain ⟨a, cap, rfl, hr⟩ := hv
  obtain ⟨a2, cap2, rfl, hr2⟩ := hu
  have HR := hide hr
  have HR2 := hide hr2
  clear hr hr2
  go_enter Try.func37, Try.ntmps37
  go_wp2
  go_loopw [13] (fun i wr => ∃ k : Nat, k ≤ l.length ∧ i = .int .i64 k ∧ Below w.heap.size w wr) (fun i _ => l.length - (intOf i).toNat)
  case atStart => exact ⟨0, Nat.zero_le _, rfl, Below.refl _ _⟩
  case round =>
    obtain ⟨k, hk, rfl, hbw⟩ := hrel
    by_cases hlt : k < l.length
    · obtain ⟨b, off, rfl, hb, hrow⟩ := HR.out (by omega)
      obtain ⟨b2, off2, rfl, hb2, hrow2⟩ := HR2.out (by omega)
      obtain ⟨x, hx⟩ : ∃ x, l[k]? = some x := ⟨l[k], List.getElem?_eq_getElem hlt⟩
      obtain ⟨c0, c1, c2⟩ := (hrow k x hx).below hbw hb
      obtain ⟨e0, e1, e2⟩ := (hrow2 k x hx).below hbw hb2
      have k0 := cell_regrown c0
      have k1 := cell_regrown c1
      have k2 := cell_regrown c2
      have g0 := cell_regrown e0
      have g1 := cell_regrown e1
      have g2 := cell_regrown e2
      have hi0 : (0 : Int) ≤ (k : Int) := by omega
      have hi1 : (k : Int) < (l.length : Int) := by omega
      have hn := fun W => neq_dom x x W
      rw [(deq_iff x x).2 rfl] at hn
      have hgd := fun op a b W => guard_dom op a b x x W
      clear hrow hrow2 HR HR2 hx c0 c1 c2 e0 e1 e2
      go_wp2
      refine wp_region_quiet_below (by kernel_rfl) (by kernel_rfl) ?_
      repeat (go_big_quiet_step (fail))
      refine wpQuiet_nil ?_
      intro _ hw'
      obtain ⟨⟨dq, osq⟩, hw''⟩ := hw'
      subst hw''
      have hbw2 := hbw.trans ((below_regrown wr dq osq).mono hbw.size)
      clear hn hgd
      go_wp2
      go_roundw
      case rel => exact ⟨k + 1, by omega, by go_num, hbw2⟩
      case measure => simp [intOf]; omega
    · clear HR HR2
      go_wp2
      go_ret
      exact ⟨rfl, hbw⟩
set_option maxRecDepth 20000 in
set_option maxHeartbeats 2000000 in
theorem spec_fail_nil (x : ByteArray) (r : Int) (w : World) :
    Calls Try.prog 24 #[.slice none 0 0, .string x, .int .i64 r] w fun e w' => e = .returned (.tuple #[.slice none 0 0, .bool false]) ∧ Below w.heap.size w w' := by
  have hg : GoodDm [] := ⟨by simp, fun i hi => absurd hi (by simp)⟩
  have HG := hide (gdB_yes hg)
  obtain ⟨i0, hi0, hz0, hz1, hz2⟩ := info_parts info_dom
  clear hg
  go_enter Try.func24, Try.ntmps24
  go_wp2_with fail
  refine (spec_gdoms _ [] _ (DomsOf.nil _ _ _) (by simp) ⟨by simp, fun d hd => by simp at hd⟩).mono ?_
  rintro e w1 ⟨rfl, hb1⟩
  rw [HG.out]
  have hb2 := hb1.alloc hb1.size (.cells #[] 58)
  have hr := fun ty => run_append_owned_none (P := Try.prog) (w := w1.alloc (.cells #[] 58)) w1.heap.size 32 ty 58 i0 3 Try.underlying32 hi0 _ _ _ (OwnD.lit0 w1)
  have HR := hide hr
  clear hb1 hr hi0 hz0 hz1 hz2 HG
  go_wp2_with (at_builtin; refine Lib.wpList_append_run (P := Try.prog) _ rfl _ _ _ _ rfl _ _ rfl rfl _ _ (HR.out _) ?_)
  go_wp2
  refine wp_loop_rounds 1 ?_; rw [rounds_succ]
  go_wp2
  go_ret2
  exact ⟨rfl, hb2⟩
theorem spec_fail_own (B : Nat) (v : Value) (l : Dms) (x : ByteArray) (r : Int) (w : World) (hv : OwnD w B v l) (hn : l.length ≤ 1048576) (hl : LenD l) :
    Calls Try.prog 24 #[v, .string x, .int .i64 r] w fun e w' => (∃ u, e = .returned (.tuple #[u, .bool (fob l x r)]) ∧ OwnD w' w.heap.size u (foa l x r)) ∧ Below w.heap.size w w' := by
  have hd := hv.doms
  rcases hv.split with ⟨rfl, rfl⟩ | ⟨g, cap, rfl, -, -, -, -⟩
  · have hb : fob [] x r = false := by unfold fob; rw [dvb_none (fun d hd => by simp at hd)]; rfl
    rw [hb, foa_no hb]
    refine (spec_fail_nil x r w).mono ?_
    rintro e w' ⟨rfl, h⟩
    exact ⟨⟨_, rfl, OwnD.nil _ _⟩, h⟩
  · exact spec_fail g 0 cap l x r w hd hn hl
set_option maxHeartbeats 1000000 in
theorem draw_merge (v : Value) (n : Nat) (f : Nat → Nat) (w : World) (hv : OctetsOf w v n f) (hn : n ≤ 1048576) :
    Calls Try.prog 36 #[v] w fun e w' => (∃ va vb la lb, e = .returned (.tuple #[va, vb]) ∧ DomsOf w' va la ∧ DomsOf w' vb lb ∧ la.length ≤ 13 ∧ lb.length ≤ 13 ∧ Sm la ∧ Sm lb) ∧ Below w.heap.size w w' := by
  obtain ⟨a, cap, rfl⟩ := hv.form
  have hal := (Below.refl w.heap.size w).alloc (Nat.le_refl _) (.cells #[.slice a n cap, .int .i64 0, .int .u64 0] 70)
  have HC := hide (cur_new hv hn)
  have HB := hide hal
  clear hv hal
  go_enter Try.func36, Try.ntmps36
  go_wp2_with fail
  refine (cur_domains w.heap.size w.heap.size 0 _ HC.out (by omega)).mono ?_
  rintro e w1 ⟨⟨va, la, rfl, ho1, hl1, hs1⟩, hc1, hb1⟩
  obtain ⟨aa, ca, rfl⟩ := ho1.form
  have H1 := hide (And.intro hc1 (And.intro (HB.out.trans (hb1.below (Nat.le_refl _) HB.out.size)) (And.intro ho1 hs1)))
  clear hc1 hb1 ho1 hs1 HC HB
  go_wp2_with fail
  refine (cur_domains w.heap.size w.heap.size (0 + 50) _ H1.out.1 (by omega)).mono ?_
  rintro e w2 ⟨⟨vb, lb, rfl, ho2, hl2, hs2⟩, hc2, hb2⟩
  obtain ⟨ab, cb, rfl⟩ := ho2.form
  have HZ := hide (show DomsOf w2 (.slice aa la.length ca) la ∧ DomsOf w2 (.slice ab lb.length cb) lb ∧ Sm la ∧ Sm lb ∧ Below w.heap.size w w2 from
    ⟨OwnD.doms (B := (w.alloc (.cells #[.slice a n cap, .int .i64 0, .int .u64 0] 70)).heap.size + 1) (hb2.owns H1.out.2.2.1 (by simp; omega)), ho2.doms, H1.out.2.2.2, hs2, H1.out.2.1.trans (hb2.below (Nat.le_refl _) H1.out.2.1.size)⟩)
  clear hc2 hb2 ho2 hs2 H1
  go_wp2
  go_ret2
  exact ⟨⟨_, _, la, lb, rfl, HZ.out.1, HZ.out.2.1, hl1, hl2, HZ.out.2.2.1, HZ.out.2.2.2.1⟩, HZ.out.2.2.2.2⟩
set_option maxHeartbeats 1000000 in
theorem draw_fail (v : Value) (n : Nat) (f : Nat → Nat) (w : World) (hv : OctetsOf w v n f) (hn : n ≤ 1048576) :
    Calls Try.prog 38 #[v] w fun e w' => (∃ va la x r, e = .returned (.tuple #[va, .string x, .int .i64 r]) ∧ OwnD w' w.heap.size va la ∧ la.length ≤ 13 ∧ Sm la) ∧ Below w.heap.size w w' := by
  obtain ⟨a, cap, rfl⟩ := hv.form
  have hal := (Below.refl w.heap.size w).alloc (Nat.le_refl _) (.cells #[.slice a n cap, .int .i64 0, .int .u64 0] 70)
  have HC := hide (cur_new hv hn)
  have HB := hide hal
  clear hv hal
  go_enter Try.func38, Try.ntmps38
  go_wp2_with fail
  refine (cur_domains w.heap.size w.heap.size 0 _ HC.out (by omega)).mono ?_
  rintro e w1 ⟨⟨va, la, rfl, ho1, hl1, hs1⟩, hc1, hb1⟩
  obtain ⟨aa, ca, rfl⟩ := ho1.form
  have hal := (Below.refl w1.heap.size w1).alloc (Nat.le_refl _) (.cells #[.string ⟨#[97]⟩, .string ⟨#[98]⟩, .string ⟨#[99]⟩, .string ⟨#[120]⟩] 9)
  have hlt1 := hc1.lt
  have hb1' := HB.out.trans (hb1.below (Nat.le_refl _) HB.out.size)
  have H1 := hide (And.intro (hc1.below hal) (And.intro (hb1'.trans (hal.mono hb1'.size)) (And.intro (ho1.down hal) hs1)))
  have HT := hide (Blk.fresh w1 #[.string ⟨#[97]⟩, .string ⟨#[98]⟩, .string ⟨#[99]⟩, .string ⟨#[120]⟩] 4 (tvS x4) 9 rfl)
  have hne : w1.heap.size ≠ w.heap.size := by omega
  clear hc1 hb1 ho1 hs1 HC HB hal hb1'
  go_wp2_with fail
  refine (cur_of w.heap.size w.heap.size (0 + 50) w1.heap.size 4 x4 _ H1.out.1 (by omega) HT.out hne (by omega) (by omega)).mono ?_
  rintro e w2 ⟨⟨y, hy, rfl⟩, hc2, hb2⟩
  have H2 := hide (And.intro hc2 (And.intro (H1.out.2.1.trans (hb2.below (Nat.le_refl _) H1.out.2.1.size)) (hb2.owns H1.out.2.2.1 (by simp; omega))))
  have HSM := hide H1.out.2.2.2
  clear hc2 hb2 H1 HT
  generalize x4 y = x at *
  go_wp2_with fail
  refine (cur_pick w.heap.size w.heap.size (0 + 50 + 1) 12 _ H2.out.1 (by omega) (by omega)).mono ?_
  rintro e w3 ⟨⟨r, hr, rfl⟩, hc3, hb3⟩
  have HZ := hide (show OwnD w3 w.heap.size (.slice aa la.length ca) la ∧ Below w.heap.size w w3 from ⟨OwnD.mono (B := (w.alloc (.cells #[.slice a n cap, .int .i64 0, .int .u64 0] 70)).heap.size + 1) (hb3.owns H2.out.2.2 (by simp; omega)) (by simp; omega), H2.out.2.1.trans (hb3.below (Nat.le_refl _) H2.out.2.1.size)⟩)
  clear hc3 hb3 H2
  go_wp2
  exact bodyPost_ret (v := .tuple #[.slice aa la.length ca, .string x, .int .i64 ((r : Int) - 1)]) (by simp [results, Try.results38, go_sem]) rfl ⟨⟨_, la, x, (r : Int) - 1, rfl, HZ.out.1, hl1, HSM.out⟩, HZ.out.2⟩
set_option maxRecDepth 20000 in
set_option maxHeartbeats 8000000 in
theorem law_fnDomains (v0 : Value) (n0 : Nat) (f0 : Nat → Nat) (v1 : Value) (n1 : Nat) (f1 : Nat → Nat) (w : World) (hv0 : OctetsOf w v0 n0 f0) (hz0 : n0 < 2 ^ 47) (hv1 : OctetsOf w v1 n1 f1) (hz1 : n1 < 2 ^ 47) :
    Calls Try.prog 12 #[v0, v1] w fun e w' => e = .returned (.bool true) ∧ Below w.heap.size w w' := by
  obtain ⟨a0, cap0, rfl⟩ := hv0.form
  obtain ⟨a1, cap1, rfl⟩ := hv1.form
  have HV0 := hide hv0
  have HV1 := hide hv1
  clear hv0 hv1
  by_cases hn : 1048576 < n0 + n1
  · have hn' : (1048576 : Int) < (n0 : Int) + (n1 : Int) := by omega
    go_enter Try.func12, Try.ntmps12
    go_wp2
    go_ret
    exact ⟨rfl, Below.refl _ _⟩
  have hn' : ¬ (1048576 : Int) < (n0 : Int) + (n1 : Int) := by omega
  go_enter Try.func12, Try.ntmps12
  go_wp2_with fail
  refine (draw_merge _ n0 f0 _ HV0.out (by omega)).mono ?_
  rintro e w1 ⟨⟨va, vb, la, lb, rfl, hA, hB, hla, hlb, hsa, hsb⟩, hw1⟩
  obtain ⟨aa, ca, rfl⟩ := hA.form
  obtain ⟨ab, cb, rfl⟩ := hB.form
  have Ha := hide hA
  have Hb := hide hB
  have HLa := hide (hsa.len (by omega))
  have HLb := hide (hsb.len (by omega))
  clear hA hB hsa hsb HV0
  have HLm := hide (mga_len la lb)
  have hbb : (mgb la lb != mgb la lb) = false := by simp
  have HSY := hide (mgb_sym la lb)
  have HMG := hide (fun h => merged (a := la) (b := lb) h)
  have HGB := hide (fun W (h : DomsOf W (.slice aa la.length ca) la) => impl_gdoms _ la W h (by omega) HLa.out)
  have HGS := hide (fun W (h : DomsOf W (.slice aa la.length ca) la) => spec_gdoms _ la W h (by omega) HLa.out)
  go_wp2_with fail
  refine (impl_merge _ _ la lb _ Ha.out Hb.out (by omega) (by omega) HLa.out HLb.out).mono ?_
  rintro e w2 ⟨⟨um, rfl, hO⟩, hb⟩
  have Han := hide (Ha.out.below hb)
  clear Ha
  have Ha := hide Han.out
  clear Han
  have Hbn := hide (Hb.out.below hb)
  clear Hb
  have Hb := hide Hbn.out
  clear Hbn
  have hw2 := hw1.trans (hb.mono hw1.size)
  clear hw1 hb
  obtain ⟨xm, ym, rfl⟩ := hO.form
  have Hm := hide hO.doms
  clear hO
  go_wp2_with fail
  refine (spec_merge _ _ la lb _ Ha.out Hb.out (by omega) (by omega) HLa.out HLb.out).mono ?_
  rintro e w3 ⟨⟨us, rfl, hO⟩, hb⟩
  have Han := hide (Ha.out.below hb)
  clear Ha
  have Ha := hide Han.out
  clear Han
  have Hbn := hide (Hb.out.below hb)
  clear Hb
  have Hb := hide Hbn.out
  clear Hbn
  have Hmn := hide (Hm.out.below hb)
  clear Hm
  have Hm := hide Hmn.out
  clear Hmn
  have hw3 := hw2.trans (hb.mono hw2.size)
  clear hw2 hb
  obtain ⟨xs, ys, rfl⟩ := hO.form
  have Hs := hide hO.doms
  clear hO
  go_wp2_with fail
  refine (impl_merge _ _ lb la _ Hb.out Ha.out (by omega) (by omega) HLb.out HLa.out).mono ?_
  rintro e w4 ⟨⟨un, rfl, hO⟩, hb⟩
  have Han := hide (Ha.out.below hb)
  clear Ha
  have Ha := hide Han.out
  clear Han
  have Hbn := hide (Hb.out.below hb)
  clear Hb
  have Hb := hide Hbn.out
  clear Hbn
  have Hmn := hide (Hm.out.below hb)
  clear Hm
  have Hm := hide Hmn.out
  clear Hmn
  have Hsn := hide (Hs.out.below hb)
  clear Hs
  have Hs := hide Hsn.out
  clear Hsn
  have hw4 := hw3.trans (hb.mono hw3.size)
  clear hw3 hb
  rw [HSY.out.1]
  rw [HSY.out.2] at hO
  obtain ⟨xn, yn, rfl⟩ := hO.form
  have Hn := hide hO.doms
  clear hO
  have HLM := hide (show LenD (mga la lb) from by
    cases hb : mgb la lb
    · rw [mga_no hb]; exact ⟨by simp, fun d hd => by simp at hd⟩
    · obtain ⟨-, -, hm⟩ := mgb_good hb
      rw [mga_yes hb]
      refine ⟨by have := hm.1; unfold maxLen; omega, fun d hd => ?_⟩
      have h1 := hm.good d hd
      have h2 := h1.nms
      have h3 := h1.2.2.2
      unfold maxLen
      exact ⟨by omega, by omega⟩)
  clear HSY
  generalize mgb la lb = ok at *
  generalize mga la lb = lm at *
  go_wp2_with fail
  refine (same_doms _ _ lm _ Hm.out Hs.out HLm.out).mono ?_
  rintro e w5 ⟨rfl, hb⟩
  have Han := hide (Ha.out.below hb)
  clear Ha
  have Ha := hide Han.out
  clear Han
  have Hbn := hide (Hb.out.below hb)
  clear Hb
  have Hb := hide Hbn.out
  clear Hbn
  have Hmn := hide (Hm.out.below hb)
  clear Hm
  have Hm := hide Hmn.out
  clear Hmn
  have Hsn := hide (Hs.out.below hb)
  clear Hs
  have Hs := hide Hsn.out
  clear Hsn
  have Hnn := hide (Hn.out.below hb)
  clear Hn
  have Hn := hide Hnn.out
  clear Hnn
  have hw5 := hw4.trans (hb.mono hw4.size)
  clear hw4 hb
  clear Hs
  go_wp2_with fail
  refine (same_doms _ _ lm _ Hn.out Hm.out HLm.out).mono ?_
  rintro e w6 ⟨rfl, hb⟩
  have Han := hide (Ha.out.below hb)
  clear Ha
  have Ha := hide Han.out
  clear Han
  have Hbn := hide (Hb.out.below hb)
  clear Hb
  have Hb := hide Hbn.out
  clear Hbn
  have Hmn := hide (Hm.out.below hb)
  clear Hm
  have Hm := hide Hmn.out
  clear Hmn
  have Hnn := hide (Hn.out.below hb)
  clear Hn
  have Hn := hide Hnn.out
  clear Hnn
  have hw6 := hw5.trans (hb.mono hw5.size)
  clear hw5 hb
  clear Hn
  have hgg : (gdB la != gdB la) = false := by simp
  go_wp2_with fail
  refine (HGB.out _ Ha.out).mono ?_
  rintro e w7 ⟨rfl, hb⟩
  have Han := hide (Ha.out.below hb)
  clear Ha
  have Ha := hide Han.out
  clear Han
  have Hbn := hide (Hb.out.below hb)
  clear Hb
  have Hb := hide Hbn.out
  clear Hbn
  have Hmn := hide (Hm.out.below hb)
  clear Hm
  have Hm := hide Hmn.out
  clear Hmn
  have hw7 := hw6.trans (hb.mono hw6.size)
  clear hw6 hb
  go_wp2_with fail
  refine (HGS.out _ Ha.out).mono ?_
  rintro e w8 ⟨rfl, hb⟩
  have Han := hide (Ha.out.below hb)
  clear Ha
  have Ha := hide Han.out
  clear Han
  have Hbn := hide (Hb.out.below hb)
  clear Hb
  have Hb := hide Hbn.out
  clear Hbn
  have Hmn := hide (Hm.out.below hb)
  clear Hm
  have Hm := hide Hmn.out
  clear Hmn
  have hw8 := hw7.trans (hb.mono hw7.size)
  clear hw7 hb
  clear HGB HGS
  generalize gdB la = ga at *
  cases ok
  · clear HMG
    clear Ha Hb Hm
    go_wp2_with fail
    refine (draw_fail _ n1 f1 _ (HV1.out.below hw8) (by omega)).mono ?_
    rintro e w9 ⟨⟨vl, l, x, r, rfl, hO, hll, hsl⟩, hb⟩
    have hw9 := hw8.trans (hb.mono hw8.size)
    clear hw8 hb
    obtain ⟨al, cl, rfl⟩ := hO.form
    have HO := hide hO
    have Hl := hide hO.doms
    have HLl := hide (hsl.len (by omega))
    clear hO hsl HV1
    have HLf := hide (foa_len l x r (by omega))
    have HFL := hide (fun h => failed (l := l) (x := x) (r := r) h)
    have HFN := hide (fun h => foa_no (l := l) (x := x) (r := r) h)
    have HLF := hide (show LenD (foa l x r) from by
      cases hb : fob l x r
      · rw [foa_no hb]; exact ⟨by simp, fun d hd => by simp at hd⟩
      · rw [foa_yes hb]
        have h0 := HLl.out
        unfold fob at hb
        rw [Bool.and_eq_true] at hb
        obtain ⟨-, hd, -⟩ := dvb_at hb.1
        have h1 := h0.2 _ (List.mem_of_getElem? hd)
        refine ⟨by rw [List.length_set]; exact h0.1, fun d hd => ?_⟩
        rcases List.mem_or_eq_of_mem_set hd with k | k
        · exact h0.2 d k
        · rw [k]; exact h1)
    have hff : (fob l x r != fob l x r) = false := by simp
    go_wp2_with fail
    refine (impl_fail _ l x r _ Hl.out (by omega) HLl.out).mono ?_
    rintro e w10 ⟨⟨uf, rfl, hO⟩, hb⟩
    have HBD := hide hb
    have Hln := hide (Hl.out.below hb)
    clear Hl
    have Hl := hide Hln.out
    clear Hln
    have hw10 := hw9.trans (hb.mono hw9.size)
    clear hw9 hb
    obtain ⟨xf, yf, rfl⟩ := hO.form
    have Hf := hide hO.doms
    clear hO
    have HOq := hide (show OwnD w10 w8.heap.size (.slice al l.length cl) l from HO.out.down HBD.out)
    go_wp2_with fail
    refine (spec_fail_own _ _ l x r _ HOq.out (by omega) HLl.out).mono ?_
    rintro e w11 ⟨⟨ug, rfl, hO⟩, hb⟩
    have Hln := hide (Hl.out.below hb)
    clear Hl
    have Hl := hide Hln.out
    clear Hln
    have Hfn := hide (Hf.out.below hb)
    clear Hf
    have Hf := hide Hfn.out
    clear Hfn
    have hw11 := hw10.trans (hb.mono hw10.size)
    clear hw10 hb
    obtain ⟨xg, yg, rfl⟩ := hO.form
    have Hg := hide hO.doms
    clear hO
    clear HO HOq HBD
    have hfl : ¬ (foa l x r).length < 0 := by omega
    go_wp2_with fail
    refine (same_doms _ _ (foa l x r) _ Hf.out Hg.out HLf.out).mono ?_
    rintro e w12 ⟨rfl, hb⟩
    have Hln := hide (Hl.out.below hb)
    clear Hl
    have Hl := hide Hln.out
    clear Hln
    have Hfn := hide (Hf.out.below hb)
    clear Hf
    have Hf := hide Hfn.out
    clear Hfn
    have Hgn := hide (Hg.out.below hb)
    clear Hg
    have Hg := hide Hgn.out
    clear Hgn
    have hw12 := hw11.trans (hb.mono hw11.size)
    clear hw11 hb
    clear Hg
    cases hfb : fob l x r
    · have HE := hide (HFN.out hfb)
      have hz : ((foa l x r).length : Int) = 0 := by rw [HE.out]; rfl
      have HZ := hide hz
      clear hz HE HFN HFL
      generalize foa l x r = lf at *
      rw [hfb] at hff
      go_wp2
      go_ret
      exact ⟨ret_bool (by first | (rw [HZ.out]; rfl) | (have := HZ.out; simp_all)), hw12⟩
    · have HE := hide (HFL.out hfb)
      clear HFN HFL
      obtain ⟨⟨e1, e2⟩, ⟨e3, e4⟩, e5, e6⟩ := HE.out
      have HLD := hide (fun W (h : DomsOf W (.slice xf (foa l x r).length yf) (foa l x r)) => impl_leader _ (foa l x r) x W h HLf.out HLF.out)
      rw [e1, e2] at HLD
      have HK1 := hide (fun W (h : DomsOf W (.slice xf (foa l x r).length yf) (foa l x r)) (h2 : DomsOf W (.slice al l.length cl) l) => impl_knows _ _ l (foa l x r) W h2 h (by omega) HLf.out HLl.out HLF.out)
      have HK2 := hide (fun W (h : DomsOf W (.slice xf (foa l x r).length yf) (foa l x r)) (h2 : DomsOf W (.slice al l.length cl) l) => impl_knows _ _ (foa l x r) l W h h2 HLf.out (by omega) HLF.out HLl.out)
      rw [e3, e4] at HK1
      rw [e5, e6] at HK2
      clear e1 e2 e3 e4 e5 e6 HE
      rw [hfb] at hff
      generalize foa l x r = lf at *
      go_wp2_with fail
      refine (HLD.out _ Hf.out).mono ?_
      rintro e w13 ⟨rfl, hb⟩
      have Hln := hide (Hl.out.below hb)
      clear Hl
      have Hl := hide Hln.out
      clear Hln
      have Hfn := hide (Hf.out.below hb)
      clear Hf
      have Hf := hide Hfn.out
      clear Hfn
      have hw13 := hw12.trans (hb.mono hw12.size)
      clear hw12 hb
      clear HLD
      go_wp2_with fail
      refine (HK1.out _ Hf.out Hl.out).mono ?_
      rintro e w14 ⟨rfl, hb⟩
      have Hln := hide (Hl.out.below hb)
      clear Hl
      have Hl := hide Hln.out
      clear Hln
      have Hfn := hide (Hf.out.below hb)
      clear Hf
      have Hf := hide Hfn.out
      clear Hfn
      have hw14 := hw13.trans (hb.mono hw13.size)
      clear hw13 hb
      clear HK1
      go_wp2_with fail
      refine (HK2.out _ Hf.out Hl.out).mono ?_
      rintro e w15 ⟨rfl, hb⟩
      have Hln := hide (Hl.out.below hb)
      clear Hl
      have Hl := hide Hln.out
      clear Hln
      have Hfn := hide (Hf.out.below hb)
      clear Hf
      have Hf := hide Hfn.out
      clear Hfn
      have hw15 := hw14.trans (hb.mono hw14.size)
      clear hw14 hb
      clear HK2
      go_wp2
      go_ret
      exact ⟨ret_bool (by simp), hw15⟩
  · obtain ⟨⟨e1, e2⟩, ⟨e3, e4⟩, ⟨e5, e6⟩, e7, e8⟩ := HMG.out rfl
    have HM1 := hide (fun W (h : DomsOf W (.slice xm lm.length ym) lm) => impl_merge _ _ lm lm W h h HLm.out HLm.out HLM.out HLM.out)
    have HM2 := hide (fun W (h : DomsOf W (.slice xm lm.length ym) lm) (h2 : DomsOf W (.slice aa la.length ca) la) => impl_knows _ _ la lm W h2 h (by omega) HLm.out HLa.out HLM.out)
    have HM3 := hide (fun W (h : DomsOf W (.slice xm lm.length ym) lm) (h2 : DomsOf W (.slice ab lb.length cb) lb) => impl_knows _ _ lb lm W h2 h (by omega) HLm.out HLb.out HLM.out)
    have HM4 := hide (fun W (h : DomsOf W (.slice xm lm.length ym) lm) (h2 : DomsOf W (.slice aa la.length ca) la) => impl_merge _ _ lm la W h h2 HLm.out (by omega) HLM.out HLa.out)
    rw [e1, e2] at HM1
    rw [e3, e4] at HM2
    rw [e5, e6] at HM3
    rw [e7, e8] at HM4
    clear e1 e2 e3 e4 e5 e6 e7 e8 HMG
    go_wp2_with fail
    refine (HM1.out _ Hm.out).mono ?_
    rintro e w9 ⟨⟨uq, rfl, hO⟩, hb⟩
    have Han := hide (Ha.out.below hb)
    clear Ha
    have Ha := hide Han.out
    clear Han
    have Hbn := hide (Hb.out.below hb)
    clear Hb
    have Hb := hide Hbn.out
    clear Hbn
    have Hmn := hide (Hm.out.below hb)
    clear Hm
    have Hm := hide Hmn.out
    clear Hmn
    have hw9 := hw8.trans (hb.mono hw8.size)
    clear hw8 hb
    clear HM1
    obtain ⟨xq, yq, rfl⟩ := hO.form
    have Hq := hide hO.doms
    clear hO
    go_wp2_with fail
    refine (HM2.out _ Hm.out Ha.out).mono ?_
    rintro e w10 ⟨rfl, hb⟩
    have Han := hide (Ha.out.below hb)
    clear Ha
    have Ha := hide Han.out
    clear Han
    have Hbn := hide (Hb.out.below hb)
    clear Hb
    have Hb := hide Hbn.out
    clear Hbn
    have Hmn := hide (Hm.out.below hb)
    clear Hm
    have Hm := hide Hmn.out
    clear Hmn
    have Hqn := hide (Hq.out.below hb)
    clear Hq
    have Hq := hide Hqn.out
    clear Hqn
    have hw10 := hw9.trans (hb.mono hw9.size)
    clear hw9 hb
    clear HM2
    go_wp2_with fail
    refine (HM3.out _ Hm.out Hb.out).mono ?_
    rintro e w11 ⟨rfl, hb⟩
    have Han := hide (Ha.out.below hb)
    clear Ha
    have Ha := hide Han.out
    clear Han
    have Hbn := hide (Hb.out.below hb)
    clear Hb
    have Hb := hide Hbn.out
    clear Hbn
    have Hmn := hide (Hm.out.below hb)
    clear Hm
    have Hm := hide Hmn.out
    clear Hmn
    have Hqn := hide (Hq.out.below hb)
    clear Hq
    have Hq := hide Hqn.out
    clear Hqn
    have hw11 := hw10.trans (hb.mono hw10.size)
    clear hw10 hb
    clear HM3
    go_wp2_with fail
    refine (HM4.out _ Hm.out Ha.out).mono ?_
    rintro e w12 ⟨⟨uz, rfl, hO⟩, hb⟩
    have Han := hide (Ha.out.below hb)
    clear Ha
    have Ha := hide Han.out
    clear Han
    have Hbn := hide (Hb.out.below hb)
    clear Hb
    have Hb := hide Hbn.out
    clear Hbn
    have Hmn := hide (Hm.out.below hb)
    clear Hm
    have Hm := hide Hmn.out
    clear Hmn
    have Hqn := hide (Hq.out.below hb)
    clear Hq
    have Hq := hide Hqn.out
    clear Hqn
    have hw12 := hw11.trans (hb.mono hw11.size)
    clear hw11 hb
    clear HM4
    obtain ⟨xz, yz, rfl⟩ := hO.form
    have Hz := hide hO.doms
    clear hO
    go_wp2_with fail
    refine (same_doms _ _ lm _ Hq.out Hm.out HLm.out).mono ?_
    rintro e w13 ⟨rfl, hb⟩
    have Han := hide (Ha.out.below hb)
    clear Ha
    have Ha := hide Han.out
    clear Han
    have Hbn := hide (Hb.out.below hb)
    clear Hb
    have Hb := hide Hbn.out
    clear Hbn
    have Hmn := hide (Hm.out.below hb)
    clear Hm
    have Hm := hide Hmn.out
    clear Hmn
    have Hqn := hide (Hq.out.below hb)
    clear Hq
    have Hq := hide Hqn.out
    clear Hqn
    have Hzn := hide (Hz.out.below hb)
    clear Hz
    have Hz := hide Hzn.out
    clear Hzn
    have hw13 := hw12.trans (hb.mono hw12.size)
    clear hw12 hb
    clear Hq
    go_wp2_with fail
    refine (same_doms _ _ lm _ Hz.out Hm.out HLm.out).mono ?_
    rintro e w14 ⟨rfl, hb⟩
    have Han := hide (Ha.out.below hb)
    clear Ha
    have Ha := hide Han.out
    clear Han
    have Hbn := hide (Hb.out.below hb)
    clear Hb
    have Hb := hide Hbn.out
    clear Hbn
    have Hmn := hide (Hm.out.below hb)
    clear Hm
    have Hm := hide Hmn.out
    clear Hmn
    have Hzn := hide (Hz.out.below hb)
    clear Hz
    have Hz := hide Hzn.out
    clear Hzn
    have hw14 := hw13.trans (hb.mono hw13.size)
    clear hw13 hb
    clear Hz
    clear Ha Hb Hm
    go_wp2_with fail
    refine (draw_fail _ n1 f1 _ (HV1.out.below hw14) (by omega)).mono ?_
    rintro e w15 ⟨⟨vl, l, x, r, rfl, hO, hll, hsl⟩, hb⟩
    have hw15 := hw14.trans (hb.mono hw14.size)
    clear hw14 hb
    obtain ⟨al, cl, rfl⟩ := hO.form
    have HO := hide hO
    have Hl := hide hO.doms
    have HLl := hide (hsl.len (by omega))
    clear hO hsl HV1
    have HLf := hide (foa_len l x r (by omega))
    have HFL := hide (fun h => failed (l := l) (x := x) (r := r) h)
    have HFN := hide (fun h => foa_no (l := l) (x := x) (r := r) h)
    have HLF := hide (show LenD (foa l x r) from by
      cases hb : fob l x r
      · rw [foa_no hb]; exact ⟨by simp, fun d hd => by simp at hd⟩
      · rw [foa_yes hb]
        have h0 := HLl.out
        unfold fob at hb
        rw [Bool.and_eq_true] at hb
        obtain ⟨-, hd, -⟩ := dvb_at hb.1
        have h1 := h0.2 _ (List.mem_of_getElem? hd)
        refine ⟨by rw [List.length_set]; exact h0.1, fun d hd => ?_⟩
        rcases List.mem_or_eq_of_mem_set hd with k | k
        · exact h0.2 d k
        · rw [k]; exact h1)
    have hff : (fob l x r != fob l x r) = false := by simp
    go_wp2_with fail
    refine (impl_fail _ l x r _ Hl.out (by omega) HLl.out).mono ?_
    rintro e w16 ⟨⟨uf, rfl, hO⟩, hb⟩
    have HBD := hide hb
    have Hln := hide (Hl.out.below hb)
    clear Hl
    have Hl := hide Hln.out
    clear Hln
    have hw16 := hw15.trans (hb.mono hw15.size)
    clear hw15 hb
    obtain ⟨xf, yf, rfl⟩ := hO.form
    have Hf := hide hO.doms
    clear hO
    have HOq := hide (show OwnD w16 w14.heap.size (.slice al l.length cl) l from HO.out.down HBD.out)
    go_wp2_with fail
    refine (spec_fail_own _ _ l x r _ HOq.out (by omega) HLl.out).mono ?_
    rintro e w17 ⟨⟨ug, rfl, hO⟩, hb⟩
    have Hln := hide (Hl.out.below hb)
    clear Hl
    have Hl := hide Hln.out
    clear Hln
    have Hfn := hide (Hf.out.below hb)
    clear Hf
    have Hf := hide Hfn.out
    clear Hfn
    have hw17 := hw16.trans (hb.mono hw16.size)
    clear hw16 hb
    obtain ⟨xg, yg, rfl⟩ := hO.form
    have Hg := hide hO.doms
    clear hO
    clear HO HOq HBD
    have hfl : ¬ (foa l x r).length < 0 := by omega
    go_wp2_with fail
    refine (same_doms _ _ (foa l x r) _ Hf.out Hg.out HLf.out).mono ?_
    rintro e w18 ⟨rfl, hb⟩
    have Hln := hide (Hl.out.below hb)
    clear Hl
    have Hl := hide Hln.out
    clear Hln
    have Hfn := hide (Hf.out.below hb)
    clear Hf
    have Hf := hide Hfn.out
    clear Hfn
    have Hgn := hide (Hg.out.below hb)
    clear Hg
    have Hg := hide Hgn.out
    clear Hgn
    have hw18 := hw17.trans (hb.mono hw17.size)
    clear hw17 hb
    clear Hg
    cases hfb : fob l x r
    · have HE := hide (HFN.out hfb)
      have hz : ((foa l x r).length : Int) = 0 := by rw [HE.out]; rfl
      have HZ := hide hz
      clear hz HE HFN HFL
      generalize foa l x r = lf at *
      rw [hfb] at hff
      go_wp2
      go_ret
      exact ⟨ret_bool (by first | (rw [HZ.out]; rfl) | (have := HZ.out; simp_all)), hw18⟩
    · have HE := hide (HFL.out hfb)
      clear HFN HFL
      obtain ⟨⟨e1, e2⟩, ⟨e3, e4⟩, e5, e6⟩ := HE.out
      have HLD := hide (fun W (h : DomsOf W (.slice xf (foa l x r).length yf) (foa l x r)) => impl_leader _ (foa l x r) x W h HLf.out HLF.out)
      rw [e1, e2] at HLD
      have HK1 := hide (fun W (h : DomsOf W (.slice xf (foa l x r).length yf) (foa l x r)) (h2 : DomsOf W (.slice al l.length cl) l) => impl_knows _ _ l (foa l x r) W h2 h (by omega) HLf.out HLl.out HLF.out)
      have HK2 := hide (fun W (h : DomsOf W (.slice xf (foa l x r).length yf) (foa l x r)) (h2 : DomsOf W (.slice al l.length cl) l) => impl_knows _ _ (foa l x r) l W h h2 HLf.out (by omega) HLF.out HLl.out)
      rw [e3, e4] at HK1
      rw [e5, e6] at HK2
      clear e1 e2 e3 e4 e5 e6 HE
      rw [hfb] at hff
      generalize foa l x r = lf at *
      go_wp2_with fail
      refine (HLD.out _ Hf.out).mono ?_
      rintro e w19 ⟨rfl, hb⟩
      have Hln := hide (Hl.out.below hb)
      clear Hl
      have Hl := hide Hln.out
      clear Hln
      have Hfn := hide (Hf.out.below hb)
      clear Hf
      have Hf := hide Hfn.out
      clear Hfn
      have hw19 := hw18.trans (hb.mono hw18.size)
      clear hw18 hb
      clear HLD
      go_wp2_with fail
      refine (HK1.out _ Hf.out Hl.out).mono ?_
      rintro e w20 ⟨rfl, hb⟩
      have Hln := hide (Hl.out.below hb)
      clear Hl
      have Hl := hide Hln.out
      clear Hln
      have Hfn := hide (Hf.out.below hb)
      clear Hf
      have Hf := hide Hfn.out
      clear Hfn
      have hw20 := hw19.trans (hb.mono hw19.size)
      clear hw19 hb
      clear HK1
      go_wp2_with fail
      refine (HK2.out _ Hf.out Hl.out).mono ?_
      rintro e w21 ⟨rfl, hb⟩
      have Hln := hide (Hl.out.below hb)
      clear Hl
      have Hl := hide Hln.out
      clear Hln
      have Hfn := hide (Hf.out.below hb)
      clear Hf
      have Hf := hide Hfn.out
      clear Hfn
      have hw21 := hw20.trans (hb.mono hw20.size)
      clear hw20 hb
      clear HK2
      go_wp2
      go_ret
      exact ⟨ret_bool (by simp), hw21⟩
end Go.Proofs.Ytgccoognklolbaa

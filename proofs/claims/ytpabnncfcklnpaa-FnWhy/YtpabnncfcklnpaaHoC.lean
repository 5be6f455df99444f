/-
  Closure, of both texts.
-/
import Derived.Test.YtpabnncfcklnpaaHoV
import Derived.Test.YtpabnncfcklnpaaHoN
namespace Go.Proofs.Ytpabnncfcklnpaa
open Go.RowKit M
open Clk (upd upd_same upd_other)
open Ho
namespace M
/-- The closure's round: the set, and the next one. -/
def CW (w : World) (g h : Nat) (k : Nat) (ts : Nat → Tk) (s : Nat → Bool) (t : Nat) (W : World) : Prop :=
  t ≤ (lst (itr (rls ts) k s t) 40).length ∧ w.heap.size ≤ g ∧ g < h ∧ Blk W g 40 (bv (itr (rls ts) k s t)) 63 ∧ Blk W h 40 (bv (itr (rls ts) k s (t + 1))) 63 ∧ Below w.heap.size w W
end M
set_option maxRecDepth 20000 in
set_option maxHeartbeats 2000000 in
theorem impl_close (v u : Value) (k n : Nat) (ts : Nat → Tk) (f : Nat → Int) (w : World) (hv : TasksOf w v k ts) (hs : Short k ts) (hu : IntsOf w u n f) (hn : n ≤ 1048576) (hO : Okay k n ts f) :
    Calls Try.prog 32 #[v, u] w fun e w' => (∃ r, e = .returned (.tuple #[r, .bool true]) ∧ w'.ownsRow w.heap.size 3 1 r (lst (cls k ts (sof f n)) 40).length ((lst (cls k ts (sof f n)) 40).map nv)) ∧ Below w.heap.size w w' := by
  have HV := hide hv
  obtain ⟨a, cap, rfl⟩ := hv.form
  have HU := hide hu
  obtain ⟨au, cu, rfl⟩ := hu.form
  have HSh := hide hs
  have HO := hide hO
  clear hv hu hs hO
  go_enter Try.func32, Try.ntmps32
  go_wp2_with fail
  refine (set_for _ _ k n ts f _ HV.out HSh.out HU.out hn HO.out).mono ?_
  rintro e w1 ⟨rfl, hb1⟩
  generalize hss : sof f n = s at *
  have HSS := hide hss
  clear hss
  go_wp2_with (first | refine wpList_store_row rfl 63 _ _ rfl w1.heap.size _ rfl rfl 63 _ (heap_alloc_new _ _) (by rw [cf_size]; exact info_fs) (by rw [cf_size]; rfl) (all_one _) ?_ | refine stop_at (some 17) rfl (fun W => Blk W w1.heap.size 40 (bv s) 63 ∧ Below w1.heap.size w1 W) ?hR ?_)
  case hR => exact hide (set_new w1 s _ rfl _ rfl)
  rintro w2 ⟨h2, hb⟩
  have hb2 := hb1.trans (hb.mono hb1.size)
  clear hb HU
  have hg1 := hb1.size
  generalize w1.heap.size = g at *
  go_wp2_with (first | refine wpList_load_row rfl 63 _ rfl g rfl 63 _ (0, 0) _ h2 Try.underlying63 rfl info_fs ?_ | fail)
  refine (set_step s _ k ts _ (HV.out.below hb2) HO.out.1).mono ?_
  rintro e w3 ⟨rfl, hb⟩
  have hb3 := hb2.trans (hb.mono hb2.size)
  have h3 := h2.down hb
  have hg3 := h3.lt
  clear hb h2 hb2
  go_wp2_with (refine wpList_store_row rfl 63 _ _ rfl w3.heap.size _ rfl rfl 63 _ (heap_alloc_new _ _) (by rw [cf_size]; exact info_fs) (by rw [cf_size]; rfl) (all_one _) ?_)
  generalize hW : (w3.alloc _).setRow _ _ = w4
  obtain ⟨h4, hb⟩ := set_new w3 (stp (rls ts) s k) _ rfl w4 hW.symm
  have HZ := hide (show CW w g w3.heap.size k ts s 0 w4 from ⟨Nat.zero_le _, hg1, hg3, h3.down hb, h4, hb3.trans (hb.mono hb3.size)⟩)
  clear hW h3 h4 hb hb3 hg3 hg1
  simp only [Act.put]
  go_loopw [8] (fun x wr => ∃ (t h : Nat), x = .pointer (some ⟨h, 0, none⟩) ∧ Hid (CW w g h k ts s t wr)) (fun _ W => 40 - wl W g)
  case atStart => exact ⟨0, _, rfl, HZ⟩
  case round =>
    rename World => wo
    obtain ⟨t, h, rfl, HP⟩ := hrel
    obtain ⟨ht, hgs, hgh, hA, hB, hbw⟩ := HP.out
    have hwl := wl_eq hA
    have HL := hide (itr_len HO.out.1 ht)
    have HF := hide (itr_feq HO.out.1 (s := s) (t := t))
    have heq := eq40 (itr (rls ts) k s (t + 1)) (itr (rls ts) k s t)
    have h40 := lst_len (itr (rls ts) k s (t + 1)) 40
    rcases hf : feq (itr (rls ts) k s (t + 1)) (itr (rls ts) k s t) with _ | _
    · have hne : itr (rls ts) k s (t + 1) ≠ itr (rls ts) k s t := fun e => by rw [HF.out.2 e] at hf; cases hf
      have HM := hide (HL.out.2 hne)
      rw [hf] at heq
      clear HL HF hne HZ HP hf
      go_wp2_with (first | refine wpList_load_row rfl 63 _ rfl h rfl 63 _ (0, 0) _ hB Try.underlying63 rfl info_fs ?_ | refine wpList_load_row rfl 63 _ rfl g rfl 63 _ (0, 0) _ hA Try.underlying63 rfl info_fs ?_ | refine wpList_store_row rfl 63 _ _ rfl g _ rfl rfl 63 _ hA (by rw [cf_size]; exact info_fs) (by rw [cf_size, cf_size]) (all_one _) ?_ | refine stop_at (some 27) rfl (fun W => Blk W g 40 (bv (itr (rls ts) k s (t + 1))) 63 ∧ Blk W h 40 (bv (itr (rls ts) k s (t + 1))) 63 ∧ Below w.heap.size w W) ?hR ?_)
      case hR => exact hide ⟨hA.setRow _ rfl, hB.setRow_other (by omega) _, below_setRow hbw hgs _⟩
      clear hA hB hbw
      rintro w5 ⟨hA, hB, hbw⟩
      have hgl := hA.lt
      go_wp2_with (first | refine wpList_load_row rfl 63 _ rfl h rfl 63 _ (0, 0) _ hB Try.underlying63 rfl info_fs ?_ | refine wpList_store_row rfl 63 _ _ rfl w5.heap.size _ rfl rfl 63 _ (heap_alloc_new _ _) (by rw [cf_size]; exact info_fs) (by rw [cf_size]; rfl) (all_one _) ?_ | refine stop_at (some 23) rfl (fun W => Blk W g 40 (bv (itr (rls ts) k s (t + 1))) 63 ∧ Blk W w5.heap.size 40 (bv (itr (rls ts) k s (t + 1))) 63 ∧ Below w.heap.size w W) ?hR ?_)
      case hR =>
        obtain ⟨h2, hb2⟩ := set_new w5 (itr (rls ts) k s (t + 1)) _ rfl _ rfl
        exact hide ⟨hA.down hb2, h2, hbw.trans (hb2.mono hbw.size)⟩
      have hg5 := hbw.size
      clear hA hB hbw
      generalize w5.heap.size = h' at *
      rintro w6 ⟨hA, hB, hbw⟩
      go_wp2_with (first | refine wpList_load_row rfl 63 _ rfl g rfl 63 _ (0, 0) _ hA Try.underlying63 rfl info_fs ?_ | fail)
      refine (set_step _ _ k ts _ (HV.out.below hbw) HO.out.1).mono ?_
      rintro e w7 ⟨rfl, hb⟩
      have hB7 := hB.down hb
      have HZ2 := hide (show CW w g h' k ts s (t + 1) (w7.setRow h' (cf 40 (bv (itr (rls ts) k s (t + 2))))) from ⟨HM.out.1, hgs, hgl, (hA.down hb).setRow_other (by omega) _, hB7.setRow _ rfl, below_setRow (hbw.trans (hb.mono hbw.size)) (by omega) _⟩)
      have HW2 := hide (show wl (w7.setRow h' (cf 40 (bv (itr (rls ts) k s (t + 2))))) g = (lst (itr (rls ts) k s (t + 1)) 40).length from wl_eq HZ2.out.2.2.2.1)
      clear hb hA hB hbw
      go_wp2_with (first | refine wpList_store_row rfl 63 _ _ rfl h' _ rfl rfl 63 _ hB7 (by rw [cf_size]; exact info_fs) (by rw [cf_size, cf_size]) (all_one _) ?_ | fail)
      simp only [Act.put]
      exact ⟨⟨_, _, _, _, _, _, _, _, _, ⟨t + 1, h', rfl, HZ2⟩, rfl⟩, by
        show 40 - wl (w7.setRow h' (cf 40 (bv (itr (rls ts) k s (t + 2))))) g < _
        rw [hwl, HW2.out]; have := HM.out.2; omega⟩
    · have HE := hide (HL.out.1 (HF.out.1 hf))
      rw [hf] at heq
      clear HL HF HZ HP hf hwl h40 ht hgh
      go_wp2_with (first | refine wpList_load_row rfl 63 _ rfl h rfl 63 _ (0, 0) _ hB Try.underlying63 rfl info_fs ?_ | refine wpList_load_row rfl 63 _ rfl g rfl 63 _ (0, 0) _ hA Try.underlying63 rfl info_fs ?_)
      refine (set_list _ _).mono ?_
      rintro e w5 ⟨⟨r, rfl, ho⟩, hb⟩
      have hb5 := hbw.trans (hb.mono hbw.size)
      have HR := hide (owns_mono ho hbw.size)
      clear hb ho hbw hA hB
      go_wp2
      go_ret2
      exact ⟨⟨_, rfl, by rw [HSS.out, HE.out]; exact HR.out⟩, hb5⟩
namespace M
def lenV : Value → Nat
  | .slice _ n _ => n
  | _ => 0
/-- The numbers at the head of a row that is read, as a list of a set. -/
def KW (k : Nat) (ts : Nat → Tk) (s : Nat → Bool) (t n : Nat) (v : Value) (W : World) : Prop :=
  t ≤ n ∧ n = (lst (itr (rls ts) k s t) 40).length ∧ IntsOf W v n (at' (lst (itr (rls ts) k s t) 40))
end M
set_option maxRecDepth 20000 in
set_option maxHeartbeats 2000000 in
theorem spec_close (v u : Value) (k n : Nat) (ts : Nat → Tk) (f : Nat → Int) (w : World) (hv : TasksOf w v k ts) (hs : Short k ts) (hu : IntsOf w u n f) (hn : n ≤ 1048576) (hO : Okay k n ts f) :
    Calls Try.prog 31 #[v, u] w fun e w' => (∃ r, e = .returned (.tuple #[r, .bool true]) ∧ IntsOf w' r (lst (cls k ts (sof f n)) 40).length (at' (lst (cls k ts (sof f n)) 40))) ∧ Below w.heap.size w w' := by
  have HV := hide hv
  obtain ⟨a, cap, rfl⟩ := hv.form
  have HU := hide hu
  obtain ⟨au, cu, rfl, hurow⟩ := hu
  have HUR := hide hurow
  have HSh := hide hs
  have HO := hide hO
  have hn40 := hO.2.len
  clear hv hs hO hurow
  go_enter Try.func31, Try.ntmps31
  go_wp2_with fail
  refine (spec_good _ k ts true _ HV.out HSh.out (decide_eq_true HO.out.1)).mono ?_
  rintro e w1 ⟨rfl, hb1⟩
  go_wp2_with fail
  refine (l8set_to _ n f true _ (HU.out.below hb1) hn (decide_eq_true HO.out.2)).mono ?_
  rintro e w2 ⟨rfl, rfl⟩
  obtain ⟨i0, hi, hz0, hz1, hz2⟩ := info_parts info_int
  have hbA := hb1.alloc hb1.size (.cells #[] 3)
  have hown : (w2.alloc (.cells #[] 3)).ownsRow w2.heap.size 3 1 (.slice (some ⟨w2.heap.size, 0, none⟩) 0 0) 0 [] :=
    ⟨rfl, .inr ⟨w2.heap.size, 0, #[], rfl, Nat.le_refl _, heap_alloc_new _ _, by omega, by unfold maxLen; omega, rfl, rfl⟩⟩
  have hLF : ∀ j u, ((List.range n).map (iv f))[j]? = some u → ∀ ad, au = some ad → (w2.alloc (.cells #[] 3)).cell? (ad.add j) = some u := fun j u hj ad had => by
    have hjn : j < n := by have := (List.getElem?_eq_some_iff.1 hj).1; simpa using this
    obtain ⟨b, off, hb, hlt, hrow⟩ := HUR.out (by omega)
    rw [hb] at had; cases had
    rw [List.getElem?_map, List.getElem?_range hjn] at hj
    simp only [Option.map_some, Option.some.injEq] at hj
    rw [Addr.add_lit, ← hj]
    exact (hbA.cell (p := ⟨b, off + j, none⟩) hlt).trans (hrow j hjn)
  have HLF := hide hLF
  clear hLF
  go_upto_region 3 with fail
  go_cut [6] from 19 (fun x wx => ∃ ar cr, x = .slice ar n cr ∧ Hid (IntsOf wx (.slice ar n cr) n f ∧ Below w.heap.size w wx))
  case first =>
    rcases au with _ | ad
    · have hn0 : n = 0 := by
        rcases Nat.eq_zero_or_pos n with h | h
        · exact h
        · obtain ⟨b, off, hb, _⟩ := HUR.out h; cases hb
      subst hn0
      clear HLF HUR HU hown
      go_wp2
      go_meet
      exact ⟨_, _, rfl, hide ⟨⟨_, _, rfl, fun h => absurd h (by omega)⟩, hbA⟩⟩
    · have hnews := fun j u hj => HLF.out j u hj ad rfl
      clear HLF HUR HU
      go_wp2_with (at_builtin; refine wpList_append_own _ rfl _ _ 29 rfl w2.heap.size 3 i0 _ 1 8 Try.underlying29 hi hz0 hz1 hz2 rfl (by decide) _ 0 [] rfl hown ad n cu ((List.range n).map (iv f)) rfl ?c0 ?c1 ?c2 ?c3 ?c4 ?c5 ?_)
      try (case c0 => simp)
      try (case c1 => exact hnews)
      case c2 => intro u hu; obtain ⟨j, _, rfl⟩ := List.mem_map.1 hu; rfl
      case c3 => unfold maxLen; omega
      case c4 => omega
      case c5 => simp
      intro v' w4 hown4 hgrow _
      have hbw4 : Below w.heap.size w w4 := hbA.grown hgrow (by have := hb1.size; simp; omega) (fun j hj => by have := (hown.lt j hj).1; have := hb1.size; omega)
      obtain ⟨a4, c4, rfl⟩ := own_form hown4
      have HI := hide (own_ints hown4)
      clear hown4 hgrow hown hnews
      go_wp2
      go_meet
      exact ⟨_, _, rfl, hide ⟨HI.out, hbw4⟩⟩
  case rest =>
    obtain ⟨ar, cr, rfl, HC⟩ := hcut
    have hr := HO.out.2
    have HZ := hide (show KW k ts (sof f n) 0 n (.slice ar n cr) wc ∧ Below w.heap.size w wc from ⟨⟨Nat.zero_le _, (lst_sof_len hr).symm, HC.out.1.ext fun i hi => by
      show f i = at' (lst (sof f n) 40) i
      unfold at'
      rw [lst_sof hr, hr.nf_eq hi, List.getD_eq_getElem?_getD, List.getElem?_map, List.getElem?_range hi]; rfl⟩, HC.out.2⟩)
    have HSup := hide (sup_sof hr)
    clear HC hr hown HLF HUR HU hbA hb1
    generalize hss : sof f n = s at *
    have HSS := hide hss
    clear hss
    go_wp2
    go_loopw [6] (fun x wr => ∃ (t m : Nat) (ax : Option Addr) (cx : Nat), x = .slice ax m cx ∧ m ≤ 40 ∧ Hid (KW k ts s t m (.slice ax m cx) wr ∧ Below w.heap.size w wr)) (fun x _ => 40 - lenV x)
    case atStart => exact ⟨0, n, ar, cr, rfl, hn40, HZ⟩
    case round =>
      rename World => wo
      obtain ⟨t, m, ax, cx, rfl, hm40, HP⟩ := hrel
      obtain ⟨⟨ht, hm, hI⟩, hbw⟩ := HP.out
      have HRi := hide (lst_ris (itr (rls ts) k s t))
      rw [← hm] at HRi
      have HSo := hide (show ofl (nf (at' (lst (itr (rls ts) k s t) 40))) m = itr (rls ts) k s t from by rw [hm]; exact sof_lst (sup_itr HO.out.1 HSup.out t))
      have HL := hide (itr_len HO.out.1 (hm ▸ ht))
      have HF := hide (itr_same HO.out.1 (s := s) (t := t))
      have HI := hide hI
      have HM := hide hm
      clear hI hm HP HZ
      go_wp2_with fail
      refine (spec_step _ _ k m ts _ _ (HV.out.below hbw) HO.out.1 HI.out HRi.out).mono ?_
      rintro e w3 ⟨⟨r, rfl, ho⟩, hb⟩
      have hb3 := hbw.trans (hb.mono hbw.size)
      have HI3 := hide (HI.out.below hb)
      rw [HSo.out, nv_range] at ho
      have HIr := hide (show IntsOf w3 r (lst (itr (rls ts) k s (t + 1)) 40).length (at' (lst (itr (rls ts) k s (t + 1)) 40)) from own_ints ho)
      obtain ⟨a3, c3, rfl⟩ := own_form ho
      have h40 : (lst (stp (rls ts) (itr (rls ts) k s t) k) 40).length ≤ 40 := lst_len _ 40
      have HQ := hide (show (lst (itr (rls ts) k s (t + 1)) 40).length = (lst (stp (rls ts) (itr (rls ts) k s t) k) 40).length from rfl)
      clear ho hb hbw HI HSo HRi HV
      generalize (lst (stp (rls ts) (itr (rls ts) k s t) k) 40).length = m' at *
      by_cases he : m' = m
      · have heI : ((m' : Int) == (m : Int)) = true := by simp [he]
        have HE := hide (HL.out.1 (HF.out.1 (by rw [HQ.out, he]; exact HM.out)))
        clear HL HF HIr HQ he
        go_wp2
        go_ret2
        exact ⟨⟨_, rfl, by rw [HSS.out, HE.out, ← HM.out]; exact HI3.out⟩, hb3⟩
      · have heI : ((m' : Int) == (m : Int)) = false := by simp; omega
        have hL := HL.out.2 (fun e => he (by rw [← HQ.out, HF.out.2 e]; exact HM.out.symm))
        rw [HQ.out, ← HM.out] at hL
        have HZ2 := hide (show KW k ts s (t + 1) m' (.slice a3 m' c3) w3 ∧ Below w.heap.size w w3 from ⟨⟨hL.1, HQ.out.symm, by have := HIr.out; rw [HQ.out] at this; exact this⟩, hb3⟩)
        have hL2 := hL.2
        clear HL HF HIr HQ hL HM HI3
        go_wp2
        exact ⟨⟨t + 1, m', a3, c3, rfl, h40, HZ2⟩, by simp [lenV]; omega⟩
set_option maxHeartbeats 1000000 in
theorem spec_close_no (v u : Value) (k n : Nat) (ts : Nat → Tk) (f : Nat → Int) (w : World) (hv : TasksOf w v k ts) (hs : Short k ts) (hu : IntsOf w u n f) (hn : n ≤ 1048576) (hO : ¬ Okay k n ts f) :
    Calls Try.prog 31 #[v, u] w fun e w' => e = .returned (.tuple #[.slice none 0 0, .bool false]) ∧ Below w.heap.size w w' := by
  have HV := hide hv
  obtain ⟨a, cap, rfl⟩ := hv.form
  have HU := hide hu
  obtain ⟨au, cu, rfl⟩ := hu.form
  have HSh := hide hs
  clear hv hu hs
  by_cases hg : GoodL k ts
  · have hr : ¬ Ris n f := fun h => hO ⟨hg, h⟩
    have HG := hide hg
    have HRi := hide hr
    clear hg hr hO
    go_enter Try.func31, Try.ntmps31
    go_wp2_with fail
    refine (spec_good _ k ts true _ HV.out HSh.out (decide_eq_true HG.out)).mono ?_
    rintro e w1 ⟨rfl, hb1⟩
    go_wp2_with fail
    refine (l8set_to _ n f false _ (HU.out.below hb1) hn (decide_eq_false HRi.out)).mono ?_
    rintro e w2 ⟨rfl, rfl⟩
    go_wp2
    go_ret2
    exact ⟨rfl, hb1⟩
  · have HG := hide hg
    clear hg hO
    go_enter Try.func31, Try.ntmps31
    go_wp2_with fail
    refine (spec_good _ k ts false _ HV.out HSh.out (decide_eq_false HG.out)).mono ?_
    rintro e w1 ⟨rfl, hb1⟩
    go_wp2
    go_ret2
    exact ⟨rfl, hb1⟩
end Go.Proofs.Ytpabnncfcklnpaa

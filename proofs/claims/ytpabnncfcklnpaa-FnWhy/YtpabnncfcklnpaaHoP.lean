/-
  The program's reckoning, walked.
-/
import Derived.Test.YtpabnncfcklnpaaHoZ
import Derived.Deep.Draws
namespace Go.Proofs.Ytpabnncfcklnpaa
open Go.RowKit M
open Clk (upd upd_same upd_other)
open Go.Sort (grow)
open Ho
namespace M
/-- A state of the program's reckoning in memory. -/
def IS (w : World) (gR k : Nat) (ts : Nat → Tk) (rv : Value) (s : Sta) (vc vf : Value) (gc : Nat → Nat) (wt : Nat → Value) (W : World) : Prop :=
  WInv s ∧ IM w gR k rv vc vf s.inn s.wk s.c (ns s.q) (fst s.q) gc wt (fun x => fv gc (wts (rls ts) k x)) W
theorem fst_snoc (q : List (Nat × Option Nat)) (x i : Nat) : fst (q ++ [(x, some i)]) = fst q ++ [i] := by simp [fst]
theorem fst_none (q : List (Nat × Option Nat)) (x : Nat) : fst (q ++ [(x, none)]) = fst q := by simp [fst]
theorem fst_len (q : List (Nat × Option Nat)) : (fst q).length ≤ q.length := List.length_filterMap_le _ _
theorem winv_lens {s : Sta} (h : WInv s) : (ns s.q).length ≤ 1000 ∧ (fst s.q).length ≤ 1000 := by
  have := h.len; have := fst_len s.q; rw [ns_len]; omega
theorem IS.down {w W W' : World} {gR k : Nat} {ts : Nat → Tk} {rv vc vf : Value} {s : Sta} {gc : Nat → Nat} {wt : Nat → Value} (h : IS w gR k ts rv s vc vf gc wt W) (hb : Below W.heap.size W W') : IS w gR k ts rv s vc vf gc wt W' := ⟨h.1, h.2.down hb⟩
/-- The first p that wait for x. -/
def tkp (l : Nat → Rl) (k : Nat) (s : Sta) (x p : Nat) : Sta := ((wts l k x).take p).foldl (hit l) s
theorem tkp_zero (l : Nat → Rl) (k : Nat) (s : Sta) (x : Nat) : tkp l k s x 0 = s := rfl
theorem tkp_all (l : Nat → Rl) (k : Nat) (s : Sta) (x : Nat) : tkp l k s x (wts l k x).length = tak l k s x := by unfold tkp tak; rw [List.take_length]
theorem tkp_succ {l : Nat → Rl} {k : Nat} {s : Sta} {x p i : Nat} (h : (wts l k x)[p]? = some i) : tkp l k s x (p + 1) = hit l (tkp l k s x p) i := by
  unfold tkp; rw [List.take_add_one, h, List.foldl_append]; rfl
theorem hits_c (l : Nat → Rl) : ∀ (L : List Nat) (s : Sta) (i : Nat), ¬ i ∈ L → (L.foldl (hit l) s).c i = s.c i
  | [], _, _, _ => rfl
  | a :: L, s, i, h => by
    simp only [List.mem_cons, not_or] at h
    show (L.foldl (hit l) (hit l s a)).c i = _
    rw [hits_c l L _ i h.2, (hit_c l s a).1, upd_other _ _ _ _ h.1]
theorem tkp_c {l : Nat → Rl} {k : Nat} {s : Sta} {x p i : Nat} (h : (wts l k x)[p]? = some i) : (tkp l k s x p).c i = s.c i := by
  refine hits_c l _ s i fun hm => ?_
  obtain ⟨hp, e⟩ := List.getElem?_eq_some_iff.1 h
  obtain ⟨q, hq, e'⟩ := List.getElem_of_mem hm
  rw [List.getElem_take] at e'
  have hq' : q < p := by have := hq; rw [List.length_take] at this; omega
  have := (List.pairwise_iff_getElem.1 (wts_nd l k x)) q p (by omega) hp hq'
  exact this (by rw [e', e])
theorem hits_w {l : Nat → Rl} {k : Nat} (hg : GR k l) : ∀ (L : List Nat) (s : Sta), (∀ i, i ∈ L → i < k) → WInv s → WInv (L.foldl (hit l) s)
  | [], _, _, h => h
  | a :: L, s, hL, h => hits_w hg L _ (fun i hi => hL i (by simp [hi])) (h.hit (hg a (hL a (by simp))).1)
theorem hits_wk (l : Nat → Rl) : ∀ (L : List Nat) (s : Sta), (L.foldl (hit l) s).wk = s.wk + L.length
  | [], _ => rfl
  | a :: L, s => by
    show (L.foldl (hit l) (hit l s a)).wk = s.wk + (L.length + 1)
    rw [hits_wk l L, (hit_c l s a).2]; omega
theorem hits_ext (l : Nat → Rl) : ∀ (L : List Nat) (s : Sta), Ext s (L.foldl (hit l) s)
  | [], s => Ext.refl s
  | a :: L, s => (ext_hit l s a).trans (hits_ext l L _)
theorem wts_len (l : Nat → Rl) (k x : Nat) : (wts l k x).length ≤ k := by
  unfold wts
  have := List.length_filter_le (fun i => inb (l i) x) (List.range k)
  rwa [List.length_range] at this
end M
theorem zero71 : Try.zeroCells71 = cf 84 (rk (.slice none 0 0) (.slice none 0 0) (.slice none 0 0) (fun _ => false) (fun _ => .slice none 0 0) ((0 : Nat) : Int)) := by kernel_rfl
theorem made71 (v : Value) : Try.zeroCells71.setIfInBounds 0 v = cf 84 (rk v (.slice none 0 0) (.slice none 0 0) (fun _ => false) (fun _ => .slice none 0 0) ((0 : Nat) : Int)) := by
  rw [zero71, cf_set]
  refine cf_ext fun i _ => ?_
  by_cases e : i = 0
  · subst e; rw [upd_same]; rfl
  · rw [upd_other _ _ _ _ e]; unfold rk; rw [if_neg e, if_neg e]
namespace M
theorem IS.come_none {w W : World} {gR k : Nat} {ts : Nat → Tk} {rv vc' vf : Value} {s : Sta} {gc : Nat → Nat} {wt : Nat → Value} {x : Nat} (hw : WInv s) (hx : x < 40) (hin : s.inn x = false)
    (h : IM w gR k rv vc' vf (upd s.inn x true) s.wk s.c (ns s.q ++ [x]) (fst s.q) gc wt (fun x => fv gc (wts (rls ts) k x)) W) : IS w gR k ts rv (come s x none) vc' vf gc wt W := by
  refine ⟨hw.come _ hx, ?_⟩
  rw [come_no hin]
  show IM w gR k rv vc' vf (upd s.inn x true) s.wk s.c (ns (s.q ++ [(x, none)])) (fst (s.q ++ [(x, none)])) gc wt _ W
  rw [ns_snoc, fst_none]; exact h
theorem IS.come_some {w W : World} {gR k : Nat} {ts : Nat → Tk} {rv vc' vf' : Value} {s : Sta} {gc : Nat → Nat} {wt : Nat → Value} {x i : Nat} (hw : WInv s) (hx : x < 40) (hin : s.inn x = false)
    (h : IM w gR k rv vc' vf' (upd s.inn x true) s.wk s.c (ns s.q ++ [x]) (fst s.q ++ [i]) gc wt (fun x => fv gc (wts (rls ts) k x)) W) : IS w gR k ts rv (come s x (some i)) vc' vf' gc wt W := by
  refine ⟨hw.come _ hx, ?_⟩
  rw [come_no hin]
  show IM w gR k rv vc' vf' (upd s.inn x true) s.wk s.c (ns (s.q ++ [(x, some i)])) (fst (s.q ++ [(x, some i)])) gc wt _ W
  rw [ns_snoc, fst_snoc]; exact h
/-- The facts' own row, that nothing turns. -/
def FR (gR n : Nat) (f : Nat → Nat) (ar : Option Addr) (vc : Value) (W : World) : Prop :=
  0 < n → ∃ b, ar = some ⟨b, 0, none⟩ ∧ b < W.heap.size ∧ b ≠ gR ∧ vc.ownBlock ≠ some b ∧ ∀ i, i < n → W.cell? ⟨b, i, none⟩ = some (.int .i64 (f i : Int))
theorem FR.kept {gR n : Nat} {f : Nat → Nat} {ar : Option Addr} {vc vc' : Value} {W W' : World} (h : FR gR n f ar vc W) (hk : Kp W W' gR vc vc') : FR gR n f ar vc' W' := fun hn => by
  obtain ⟨b, ha, hb, hbr, hbo, hc⟩ := h hn
  refine ⟨b, ha, Nat.lt_of_lt_of_le hb hk.2.2, hbr, fun e => ?_, fun i hi => ?_⟩
  · rcases hk.2.1 b e with h1 | h1
    · exact hbo h1
    · omega
  · rw [← hc i hi]
    unfold World.cell?
    rw [show W'.heap[(⟨b, i, none⟩ : Addr).block]? = W.heap[(⟨b, i, none⟩ : Addr).block]? from hk.1 b hb hbr hbo]
end M
set_option maxRecDepth 40000 in
set_option maxHeartbeats 8000000 in
theorem impl_reckon (v : Value) (k n : Nat) (ts : Nat → Tk) (f : Nat → Int) (w : World) (hv : TasksOf w v k ts) (hO : Okay k n ts f) :
    Calls Try.prog 47 #[v, fs (sof f n)] w fun e w' => (∃ w1 gR vc vf gc wt, e = .returned (.pointer (some ⟨gR, 0, none⟩)) ∧ w.heap.size ≤ w1.heap.size ∧ IS w1 gR k ts v (fin (rls ts) k (nf f) n) vc vf gc wt w') ∧ Below w.heap.size w w' := by
  have hbA := (Below.refl w.heap.size w).alloc (Nat.le_refl _) (.cells (cf 40 (bv (sof f n))) 63)
  have HV := hide (hv.below hbA)
  have hBx := Blk.new w 40 (bv (sof f n)) 63
  obtain ⟨a, cap, rfl, hrw⟩ := hv.below hbA
  have HR := hide hrw
  have HG := hide hO.1
  have HGR := hide hO.1.gr
  have HRi := hide hO.2
  have hk := hO.1.1
  have hn := hO.2.len
  clear hrw hO hv
  go_enter Try.func47, Try.ntmps47
  generalize hss : sof f n = g at *
  have HSS := hide hss
  clear hss
  go_wp2_with fail
  generalize hw1 : w.alloc (.cells (cf 40 (bv g)) 63) = w1 at *
  have hw1s : w1.heap.size = w.heap.size + 1 := by rw [← hw1, World.size_alloc]
  have hR0 : Blk (w1.alloc (.cells (Try.zeroCells71.setIfInBounds 0 (.slice a k cap)) 71)) (w.heap.size + 1) 84 (rk (.slice a k cap) (.slice none 0 0) (.slice none 0 0) (fun _ => false) (fun _ => .slice none 0 0) ((0 : Nat) : Int)) 71 := by
    rw [← hw1s, made71]; exact Blk.new w1 84 _ _
  have hI0 : IM w1 (w.heap.size + 1) 0 (.slice a k cap) (.slice none 0 0) (.slice none 0 0) (fun _ => false) 0 (fun i => ((ts i).nn : Int)) [] [] (fun _ => 0) (fun _ => .slice none 0 0) (fun _ => []) (w1.alloc (.cells (Try.zeroCells71.setIfInBounds 0 (.slice a k cap)) 71)) :=
    ⟨hR0, by omega, World.ownsRow_nil _ _ _ _, World.ownsRow_nil _ _ _ _, fun g h => (by cases h), fun i hi => absurd hi (by omega), fun i i' hi => absurd hi (by omega), fun x _ => World.ownsRow_nil _ _ _ _, fun x y _ _ _ g h => (by cases h), (Below.refl _ _).alloc (Nat.le_refl _) _⟩
  refine (set_counts HV.out HG.out hI0).mono ?_
  rintro e W1 ⟨rfl, gc, wt, h1⟩
  have HZ := hide (show IS w1 (w.heap.size + 1) k ts (.slice a k cap) (ph0 (rls ts) 0) (.slice none 0 0) (.slice none 0 0) gc wt W1 from ⟨winv_ini _, h1⟩)
  have HBx := hide hBx
  have HW1 := hide (And.intro hw1s hbA)
  have hgl : w.heap.size < w1.heap.size := by omega
  clear h1 hI0 hR0 hBx hbA hw1s hw1
  generalize hgR : w.heap.size + 1 = gR at *
  clear hgR
  go_wp2
  go_loopw [21] (fun i wr => ∃ j : Nat, j ≤ k ∧ i = .int .i64 j ∧ Hid (∃ vc vf, IS w1 gR k ts (.slice a k cap) (ph0 (rls ts) j) vc vf gc wt wr)) (fun i _ => k - (intOf i).toNat)
  case atStart => exact ⟨0, Nat.zero_le _, rfl, hide ⟨_, _, HZ.out⟩⟩
  case round =>
    rename World => wo
    clear HZ
    obtain ⟨j, hj, rfl, HP⟩ := hrel
    by_cases hlt : j < k
    · obtain ⟨bb, off, rfl, hbb, hrow⟩ := HR.out (by omega)
      obtain ⟨y, q1, q2, i1⟩ := hrow j hlt
      obtain ⟨ay, cy, rfl⟩ := i1.form
      obtain ⟨vc, vf, hw, h1⟩ := HP.out
      have c0 := (h1.bel.cell (p := ⟨bb, off + j * 2, none⟩) hbb).trans q1
      have c1 := (h1.bel.cell (p := ⟨bb, off + j * 2 + 1, none⟩) hbb).trans q2
      have hgj := HG.out.2 j hlt
      rw [hgj.hd.1] at c0
      have hh := hgj.hd.2
      have hnb := hgj.2.len
      have hji : (j : Int) < (k : Int) := by omega
      have HC0 := hide c0
      have HH := hide (And.intro hw h1)
      have HN0 := hide (show ((ts j).nn ≠ 0 → ph0 (rls ts) (j + 1) = ph0 (rls ts) j) ∧ ((ts j).nn = 0 → ph0 (rls ts) (j + 1) = come (ph0 (rls ts) j) (rl (ts j)).hd (some j)) from ⟨fun h => by simp [ph0, rl, h], fun h => by simp [ph0, rl, h, fireS]⟩)
      generalize hs0 : ph0 (rls ts) j = s at *
      generalize (ts j).nn = nn at *
      clear hs0 hrow q1 q2 i1 HP hgj hw h1 c0 HV
      by_cases hn0 : nn = 0
      · have hnI : ((nn : Int) == 0) = true := by simp [hn0]
        have HSt := hide (HN0.out.2 hn0)
        clear HN0 hn0
        rcases hin : s.inn (rl (ts j)).hd with _ | _
        · go_wp2_with fail
          refine (fire_new HH.out.2 hlt hh hin (winv_lens HH.out.1).1 (winv_lens HH.out.1).2 HC0.out).mono ?_
          rintro e W2 ⟨rfl, vc', vf', h2⟩
          have HE := hide (show ∃ vc vf, IS w1 gR k ts (.slice (some ⟨bb, off, none⟩) k cap) (ph0 (rls ts) (j + 1)) vc vf gc wt W2 from ⟨_, _, by rw [HSt.out]; exact IS.come_some HH.out.1 hh hin h2⟩)
          clear h2 HH HSt HC0 hin c1
          go_wp2
          exact ⟨⟨j + 1, by omega, by go_num, HE⟩, by simp [intOf]; omega⟩
        · go_wp2_with fail
          refine (fire_old HH.out.2 hlt hh hin HC0.out).mono ?_
          rintro e W2 ⟨rfl, rfl⟩
          have HE := hide (show ∃ vc vf, IS w1 gR k ts (.slice (some ⟨bb, off, none⟩) k cap) (ph0 (rls ts) (j + 1)) vc vf gc wt W2 from ⟨_, _, by rw [HSt.out, come_yes hin]; exact HH.out⟩)
          clear HH HSt HC0 hin c1
          go_wp2
          exact ⟨⟨j + 1, by omega, by go_num, HE⟩, by simp [intOf]; omega⟩
      · have hnI : ((nn : Int) == 0) = false := by simp; omega
        have HE := hide (show ∃ vc vf, IS w1 gR k ts (.slice (some ⟨bb, off, none⟩) k cap) (ph0 (rls ts) (j + 1)) vc vf gc wt wo from ⟨_, _, by rw [HN0.out.1 hn0]; exact HH.out⟩)
        clear HN0 hn0 HH HC0
        go_wp2
        exact ⟨⟨j + 1, by omega, by go_num, HE⟩, by simp [intOf]; omega⟩
    · obtain rfl : j = k := by omega
      obtain ⟨vc, vf, hw, h1⟩ := HP.out
      have hbx := HBx.out.below h1.bel hgl
      have H1 := hide (And.intro hw h1)
      clear HP hw h1
      go_wp2_with (first | refine wpList_load_row rfl 63 _ rfl w.heap.size rfl 63 _ (0, 0) _ hbx Try.underlying63 rfl info_fs ?_ | fail)
      refine (set_list g _).mono ?_
      rintro e W2 ⟨⟨r, rfl, ho⟩, hb2⟩
      have hlen : (lst g 40).length = n := by rw [← HSS.out]; exact lst_sof_len HRi.out
      have hcont : (lst g 40).map nv = ((List.range n).map fun i => nv (nf f i)) := by rw [← HSS.out, lst_sof HRi.out, List.map_map]; rfl
      rw [hlen, hcont] at ho
      obtain ⟨ar, cr, rfl, hrc⟩ := own_cells ho (by simp)
      have HFR := hide (show ∃ vc vf, IS w1 gR j ts (.slice a j cap) (ph1 (ph0 (rls ts) j) (nf f) 0) vc vf gc wt W2 ∧ FR gR n (nf f) ar vc W2 from ⟨vc, vf, ⟨H1.out.1, H1.out.2.down hb2⟩, fun hp => by
        obtain ⟨b, hb, hB, hbl, hcell⟩ := hrc hp
        refine ⟨b, hb, hbl, ?_, fun e => ?_, fun i hi => hcell i _ (by rw [List.getElem?_map, List.getElem?_range hi]; rfl)⟩
        · have := H1.out.2.hr.lt; omega
        · have := own_lt H1.out.2.cm e; omega⟩)
      clear ho hrc hb2 hbx hlen hcont H1
      go_wp2
      go_loopw [38] (fun i wr => ∃ t : Nat, t ≤ n ∧ i = .int .i64 t ∧ Hid (∃ vc vf, IS w1 gR j ts (.slice a j cap) (ph1 (ph0 (rls ts) j) (nf f) t) vc vf gc wt wr ∧ FR gR n (nf f) ar vc wr)) (fun i _ => n - (intOf i).toNat)
      case atStart => exact ⟨0, Nat.zero_le _, rfl, HFR⟩
      case round =>
        rename World => wp
        clear HFR
        obtain ⟨t, ht, rfl, HP⟩ := hrel
        by_cases hlt2 : t < n
        · obtain ⟨vc, vf, ⟨hw, h1⟩, hF⟩ := HP.out
          obtain ⟨b, rfl, hbl, hbr, hbo, hcell⟩ := hF (by omega)
          have c0 := hcell t hlt2
          have hh := HRi.out.nf_lt hlt2
          have HSt := hide (show ph1 (ph0 (rls ts) j) (nf f) (t + 1) = come (ph1 (ph0 (rls ts) j) (nf f) t) (nf f t) none from rfl)
          have HH := hide (And.intro hw h1)
          have HF := hide hF
          generalize hs1 : ph1 (ph0 (rls ts) j) (nf f) t = s at *
          clear hs1 hcell hw h1 hF HP HV hbo hbr hbl
          have hti : (t : Int) < (n : Int) := by omega
          rcases hin : s.inn (nf f t) with _ | _
          · go_wp2_with fail
            refine (come_new HH.out.2 hh hin (winv_lens HH.out.1).1).mono ?_
            rintro e W3 ⟨rfl, vc', h3, hK⟩
            have HE := hide (show ∃ vc vf, IS w1 gR j ts (.slice a j cap) (ph1 (ph0 (rls ts) j) (nf f) (t + 1)) vc vf gc wt W3 ∧ FR gR n (nf f) (some ⟨b, 0, none⟩) vc W3 from ⟨vc', vf, by rw [HSt.out]; exact IS.come_none HH.out.1 hh hin h3, HF.out.kept hK⟩)
            clear h3 hK HH HSt HF hin c0
            go_wp2
            exact ⟨⟨t + 1, by omega, by go_num, HE⟩, by simp [intOf]; omega⟩
          · go_wp2_with fail
            refine (come_old HH.out.2 hh hin).mono ?_
            rintro e W3 ⟨rfl, rfl⟩
            have HE := hide (show ∃ vc vf, IS w1 gR j ts (.slice a j cap) (ph1 (ph0 (rls ts) j) (nf f) (t + 1)) vc vf gc wt W3 ∧ FR gR n (nf f) (some ⟨b, 0, none⟩) vc W3 from ⟨vc, vf, by rw [HSt.out, come_yes hin]; exact HH.out, HF.out⟩)
            clear HH HSt HF hin c0
            go_wp2
            exact ⟨⟨t + 1, by omega, by go_num, HE⟩, by simp [intOf]; omega⟩
        · obtain rfl : t = n := by omega
          obtain ⟨hbI, hbC, hbW, hbc⟩ := bgn_inv HGR.out (f := nf f) (n := t) (fun i hi => HRi.out.nf_lt hi)
          have HBI := hide (And.intro hbI (And.intro hbC hbW))
          have HZ2 := hide (show ∃ vc vf, IS w1 gR j ts (.slice a j cap) (mn (rls ts) j (bgn (rls ts) j (nf f) t) 0) vc vf gc wt wp ∧ 0 ≤ (mn (rls ts) j (bgn (rls ts) j (nf f) t) 0).q.length from by
            obtain ⟨vc, vf, h1, _⟩ := HP.out
            exact ⟨vc, vf, h1, Nat.zero_le _⟩)
          clear HP hbI hbC hbW hbc HV HBx
          go_wp2
          go_loopw [9] (fun i wr => ∃ r : Nat, r ≤ 40 ∧ i = .int .i64 r ∧ Hid (∃ vc vf, IS w1 gR j ts (.slice a j cap) (mn (rls ts) j (bgn (rls ts) j (nf f) t) r) vc vf gc wt wr ∧ r ≤ (mn (rls ts) j (bgn (rls ts) j (nf f) t) r).q.length)) (fun i _ => 41 - (intOf i).toNat)
          case atStart => exact ⟨0, Nat.zero_le _, rfl, HZ2⟩
          case round =>
            rename World => wq
            clear HZ2
            obtain ⟨r, hr40, rfl, HP⟩ := hrel
            obtain ⟨vc, vf, ⟨hw, h1⟩, hrl⟩ := HP.out
            obtain ⟨-, cc, -, -⟩ := rk_cells h1.hr
            have hlq := hw.len
            obtain ⟨av, cv, rfl, hvr⟩ := own_cells h1.cm (by simp)
            have hnl := ns_len (mn (rls ts) j (bgn (rls ts) j (nf f) t) r).q
            rw [hnl] at cc hvr
            obtain ⟨m, hm⟩ : ∃ m, (mn (rls ts) j (bgn (rls ts) j (nf f) t) r).q.length = m := ⟨_, rfl⟩
            rw [hm] at cc hvr hlq hrl
            have HM := hide hm
            by_cases hlt3 : r < m
            · obtain ⟨e, he⟩ : ∃ e, (mn (rls ts) j (bgn (rls ts) j (nf f) t) r).q[r]? = some e := ⟨_, List.getElem?_eq_getElem (by omega)⟩
              obtain ⟨mI, mC, mE⟩ := mn_inv HGR.out HBI.out.1 HBI.out.2.1 r
              have mW := mn_wk (rls ts) j (bgn (rls ts) j (nf f) t) r
              have HWk := hide (show (mn (rls ts) j (bgn (rls ts) j (nf f) t) r).wk ≤ 2400 from by
                have h1 : (bgn (rls ts) j (nf f) t).wk = 0 := HBI.out.2.2
                have h2 : r * j ≤ 40 * 60 := Nat.mul_le_mul (by omega) hk
                omega)
              have HNx := hide (show mn (rls ts) j (bgn (rls ts) j (nf f) t) (r + 1) = tkp (rls ts) j (mn (rls ts) j (bgn (rls ts) j (nf f) t) r) e.1 (wts (rls ts) j e.1).length from by
                rw [tkp_all]; simp only [mn]; rw [he])
              have HCn := hide (show ∀ i, i < j → 0 ≤ (mn (rls ts) j (bgn (rls ts) j (nf f) t) r).c i ∧ (mn (rls ts) j (bgn (rls ts) j (nf f) t) r).c i ≤ 40 from fun i hi => by
                rw [mC i hi]
                have h1 := unt_le (tkn (mn (rls ts) j (bgn (rls ts) j (nf f) t) r).q r) (rls ts i).bd (rls ts i).nb
                have h2 := (HGR.out i hi).2.len
                unfold unt; omega)
              obtain ⟨gq, rfl, _, _, hqc⟩ := hvr (by omega)
              have cq := hqc r (.int .i64 (e.1 : Int)) (by simp only [ns, List.map_map, List.getElem?_map, he]; rfl)
              have hx : e.1 < 40 := hw.lt e.1 (List.mem_map_of_mem (List.mem_of_getElem? he))
              have cw := rk_cell_wt h1.hr hx
              obtain ⟨aw, cwp, hwx⟩ := own_form (h1.wr e.1 hx)
              have hfl : (fv gc (wts (rls ts) j e.1)).length = (wts (rls ts) j e.1).length := by unfold fv; rw [List.length_map]
              have hwx' : wt e.1 = .slice aw (wts (rls ts) j e.1).length cwp := by rw [hwx]; exact congrArg (fun z => Value.slice aw z cwp) hfl
              rw [hwx'] at cw
              have hwl := wts_len (rls ts) j e.1
              have HWX := hide hwx'
              have HH := hide (And.intro hw h1)
              have HL := hide (show ∀ p i, (wts (rls ts) j e.1)[p]? = some i → i < j from fun p i h => (wts_mem.1 (List.mem_of_getElem? h)).1)
              have hrd : decide ((r : Int) < (m : Int)) = true := by simp; omega
              generalize hsm : mn (rls ts) j (bgn (rls ts) j (nf f) t) r = s at *
              generalize hnw : (wts (rls ts) j e.1).length = nw at *
              have HNW := hide hnw
              have hri : (r : Int) < (m : Int) := by omega
              have hx0 : (0 : Int) ≤ (e.1 : Int) := by omega
              have hx1 : (e.1 : Int) < 40 := by omega
              clear hsm mI mC mE mW he hqc hwx hwx' hw h1 hvr HP hfl hnw HBI hnl hm
              go_upto_region 17 with fail
              go_big_quiet (fail)
              have HZ3 := hide (show ∃ vc vf, IS w1 gR j ts (.slice a j cap) (tkp (rls ts) j s e.1 0) vc vf gc wt (wq.drewN nq) from ⟨_, _, HH.out.1, HH.out.2.down (below_drewN (Below.refl _ _) nq)⟩)
              have HSW := hide HH.out.1
              clear HH cc cq cw
              go_wp2
              go_loopw [68] (fun i wr => ∃ p : Nat, p ≤ nw ∧ i = .int .i64 p ∧ Hid (∃ vc vf, IS w1 gR j ts (.slice a j cap) (tkp (rls ts) j s e.1 p) vc vf gc wt wr)) (fun i _ => nw - (intOf i).toNat)
              case atStart => exact ⟨0, Nat.zero_le _, rfl, HZ3⟩
              case round =>
                rename World => wx
                clear HZ3 hrd
                obtain ⟨p, hp, rfl, HP⟩ := hrel
                by_cases hlt4 : p < nw
                · obtain ⟨vc, vf, hw, h1⟩ := HP.out
                  obtain ⟨i, hi⟩ : ∃ i, (wts (rls ts) j e.1)[p]? = some i := ⟨_, List.getElem?_eq_getElem (by have := HNW.out; omega)⟩
                  have hij := HL.out p i hi
                  obtain ⟨aw2, cw2, hv2, hrc⟩ := own_cells (h1.wr e.1 hx) (by simp)
                  have hnf : (fv gc (wts (rls ts) j e.1)).length = nw := by unfold fv; rw [List.length_map]; exact HNW.out
                  rw [HWX.out, hnf] at hv2
                  cases hv2
                  obtain ⟨gw, rfl, _, _, hcell⟩ := hrc (by rw [hnf]; omega)
                  have cf0 := hcell p (mf (gc i)) (by unfold fv; rw [List.getElem?_map, hi]; rfl)
                  unfold mf at cf0
                  obtain ⟨-, -, -, cwk⟩ := rk_cells h1.hr
                  have twk := h1.hr.thaw 83
                  have HC := hide (show (tkp (rls ts) j s e.1 p).c i = s.c i from tkp_c hi)
                  have HCb := hide (HCn.out i hij)
                  have HSt := hide (tkp_succ (l := rls ts) (s := s) hi)
                  have hwkb : (tkp (rls ts) j s e.1 p).wk ≤ 2500 := by
                    unfold tkp; rw [hits_wk, List.length_take]; have := HWk.out; omega
                  obtain ⟨bb, off, rfl, hbb, hrow⟩ := HR.out (by omega)
                  obtain ⟨y, q1, q2, i1⟩ := hrow i hij
                  have c0 := (h1.bel.cell (p := ⟨bb, off + i * 2, none⟩) hbb).trans q1
                  have hgj := HG.out.2 i hij
                  rw [hgj.hd.1] at c0
                  have hh := hgj.hd.2
                  have HQ := hide (And.intro q1 hgj.hd.1)
                  generalize hs1 : tkp (rls ts) j s e.1 p = s1 at *
                  have HH := hide (And.intro hw h1)
                  have HI := hide (h1.cell (vc' := vc) (vf' := vf) (inn' := s1.inn) (wk' := s1.wk + 1) 83 (.int .i64 ((s1.wk : Int) + 1)) (fun q hq => rk_wk _ _ _ _ _ _ _ hq) rfl rfl)
                  generalize hs2 : tkp (rls ts) j s e.1 (p + 1) = s2 at *
                  have HS2 := hide hs2
                  have hpw : (p : Int) < (nw : Int) := by omega
                  clear hs1 hs2 hcell hrc hnf hrow q1 q2 i1 hgj hw h1 HP hi c0
                  have HHit := hide (show (s1.c i - 1 = 0 → s2 = come (les s1 i) (rl (ts i)).hd (some i)) ∧ (s1.c i - 1 ≠ 0 → s2 = les s1 i) from by
                    rw [HSt.out]
                    refine ⟨fun h => ?_, fun h => ?_⟩
                    · unfold hit; rw [if_pos h]; rfl
                    · unfold hit; rw [if_neg h])
                  have hcb : 0 ≤ s1.c i ∧ s1.c i ≤ 40 := by rw [HC.out]; exact HCb.out
                  have HCc := hide hcb
                  clear hcb
                  by_cases hz0' : s1.c i - 1 = 0
                  · have HS3 := hide (HHit.out.1 hz0')
                    have HB := hide (show (s1.c i - 1 == 0) = true by simp [hz0'])
                    clear HHit hz0'
                    go_wp2_with fail
                    refine (less_is HI.out hij HCc.out.1 HCc.out.2 true HB.out).mono ?_
                    rintro e' W3 ⟨rfl, h3⟩
                    have c0 := (h3.bel.cell (p := ⟨bb, off + i * 2, none⟩) hbb).trans HQ.out.1
                    rw [HQ.out.2] at c0
                    have HC0 := hide c0
                    have H3 := hide h3
                    clear h3 c0 HI cf0 cwk twk
                    rcases hin : s1.inn (rl (ts i)).hd with _ | _
                    · go_wp2_with fail
                      refine (fire_new H3.out hij hh hin (winv_lens HH.out.1).1 (winv_lens HH.out.1).2 HC0.out).mono ?_
                      rintro e'' W4 ⟨rfl, vc', vf', h4⟩
                      have HE := hide (show ∃ vc vf, IS w1 gR j ts (.slice (some ⟨bb, off, none⟩) j cap) s2 vc vf gc wt W4 from ⟨_, _, by rw [HS3.out]; exact IS.come_some (s := les s1 i) (HH.out.1.les i) hh hin h4⟩)
                      clear h4 H3 HC0 hin HH HS3
                      go_wp2
                      exact ⟨⟨p + 1, by omega, by go_num, by rw [HS2.out]; exact HE⟩, by simp [intOf]; omega⟩
                    · go_wp2_with fail
                      refine (fire_old H3.out hij hh hin HC0.out).mono ?_
                      rintro e'' W4 ⟨rfl, rfl⟩
                      have HE := hide (show ∃ vc vf, IS w1 gR j ts (.slice (some ⟨bb, off, none⟩) j cap) s2 vc vf gc wt W4 from ⟨_, _, by rw [HS3.out, come_yes (s := les s1 i) hin]; exact ⟨HH.out.1.les i, H3.out⟩⟩)
                      clear H3 HC0 hin HH HS3
                      go_wp2
                      exact ⟨⟨p + 1, by omega, by go_num, by rw [HS2.out]; exact HE⟩, by simp [intOf]; omega⟩
                  · have HS3 := hide (HHit.out.2 hz0')
                    have HB := hide (show (s1.c i - 1 == 0) = false by simp [hz0'])
                    clear HHit hz0'
                    go_wp2_with fail
                    refine (less_is HI.out hij HCc.out.1 HCc.out.2 false HB.out).mono ?_
                    rintro e' W3 ⟨rfl, h3⟩
                    have HE := hide (show ∃ vc vf, IS w1 gR j ts (.slice (some ⟨bb, off, none⟩) j cap) s2 vc vf gc wt W3 from ⟨_, _, by rw [HS3.out]; exact ⟨HH.out.1.les i, h3⟩⟩)
                    clear h3 HI cf0 cwk twk HH HS3
                    go_wp2
                    exact ⟨⟨p + 1, by omega, by go_num, by rw [HS2.out]; exact HE⟩, by simp [intOf]; omega⟩
                · obtain rfl : p = nw := by omega
                  have HE := hide (show ∃ vc vf, IS w1 gR j ts (.slice a j cap) (mn (rls ts) j (bgn (rls ts) j (nf f) t) (r + 1)) vc vf gc wt wx ∧ r + 1 ≤ (mn (rls ts) j (bgn (rls ts) j (nf f) t) (r + 1)).q.length from by
                    obtain ⟨vc, vf, h1⟩ := HP.out
                    have e2 : mn (rls ts) j (bgn (rls ts) j (nf f) t) (r + 1) = tkp (rls ts) j s e.1 p := by rw [HNx.out]
                    refine ⟨vc, vf, by rw [e2]; exact h1, ?_⟩
                    rw [e2]
                    obtain ⟨d, hd⟩ := hits_ext (rls ts) ((wts (rls ts) j e.1).take p) s
                    show r + 1 ≤ (((wts (rls ts) j e.1).take p).foldl (hit (rls ts)) s).q.length
                    rw [hd, List.length_append]
                    have := HM.out; omega)
                  have hr1 : r + 1 ≤ 40 := by omega
                  clear HP HNx HCn HSW HL HWX HNW HM HWk HR HG HGR HRi
                  go_wp2
                  exact ⟨⟨r + 1, hr1, by go_num, HE⟩, by simp [intOf]; omega⟩
            · have HF := hide (show fin (rls ts) j (nf f) t = mn (rls ts) j (bgn (rls ts) j (nf f) t) r from fin_of (by omega) (by omega))
              have HH := hide (And.intro hw h1)
              have hbl := HW1.out.2.trans (h1.bel.mono HW1.out.2.size)
              clear HBI HGR HG HR HRi hvr hw h1 HP hnl hm
              go_wp2
              go_ret
              exact ⟨⟨w1, gR, _, _, gc, wt, rfl, by omega, by rw [HF.out]; exact HH.out⟩, hbl⟩
end Go.Proofs.Ytpabnncfcklnpaa

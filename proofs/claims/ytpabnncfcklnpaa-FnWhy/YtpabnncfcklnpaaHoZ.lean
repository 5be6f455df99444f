/-
  Each rule's count waits for all in its body: setCounts, walked.
-/
import Derived.Test.YtpabnncfcklnpaaHoI
import Derived.Deep.RegionLaw
namespace Go.Proofs.Ytpabnncfcklnpaa
open Go.RowKit M
open Clk (upd upd_same upd_other)
open Go.Sort (grow)
open Ho
namespace M
theorem owns_same {w wx : World} {B e s n : Nat} {v : Value} {xs : List Value} (h : w.ownsRow B e s v n xs) (hh : wx.heap = w.heap) : wx.ownsRow B e s v n xs := by
  refine ⟨h.1, ?_⟩
  rcases h.2 with h0 | ⟨g, cap, cur, hv, hB, hg, r⟩
  · exact .inl h0
  · exact .inr ⟨g, cap, cur, hv, hB, by rw [hh]; exact hg, r⟩
theorem Blk.same {w wx : World} {g n : Nat} {f : Nat → Value} {t : TypeId} (h : Blk w g n f t) (hh : wx.heap = w.heap) : Blk wx g n f t := by unfold Blk; rw [hh]; exact h
theorem IM.same {w W W' : World} {gR j wk : Nat} {rv vc vf : Value} {inn : Nat → Bool} {c : Nat → Int} {L F : List Nat} {gc : Nat → Nat} {wt : Nat → Value} {wl : Nat → List Value} (h : IM w gR j rv vc vf inn wk c L F gc wt wl W) (hh : W'.heap = W.heap) (hb : Below w.heap.size w W') : IM w gR j rv vc vf inn wk c L F gc wt wl W' :=
  ⟨h.hr.same hh, h.hg, owns_same h.cm hh, owns_same h.fr hh, h.ap, fun i hi => ⟨(h.ct i hi).1, (h.ct i hi).2.same hh⟩, h.inj, fun x hx => owns_same (h.wr x hx) hh, h.wa, hb⟩
/-- A row of those that wait has grown, and is laid down. -/
theorem IM.waits {w W W' : World} {gR j wk : Nat} {rv vc vf : Value} {inn : Nat → Bool} {c : Nat → Int} {L F : List Nat} {gc : Nat → Nat} {wt : Nat → Value} {wl : Nat → List Value} (h : IM w gR j rv vc vf inn wk c L F gc wt wl W) {x g' cap n : Nat} {u : Value} (hx : x < 40) (hn : (wl x).length = n)
    (hown : W'.ownsRow w.heap.size 83 1 (.slice (some ⟨g', 0, none⟩) (n + 1) cap) (n + 1) (wl x ++ [u])) (hg : W.grownBy W' (wt x).ownBlock) (hat : (wt x).ownBlock = some g' ∨ g' = W.heap.size) :
    IM w gR j rv vc vf inn wk c L F gc (upd wt x (.slice (some ⟨g', 0, none⟩) (n + 1) cap)) (upd wl x (wl x ++ [u])) (W'.setCell ⟨gR, 43 + x, none⟩ (.slice (some ⟨g', 0, none⟩) (n + 1) cap)) := by
  have hr := h.hr.grown (h.wr x hx) (by decide) hg
  have key : ∀ y, y < 40 → y ≠ x → (wt y).ownBlock ≠ some g' := fun y hy hyx e => by
    rcases hat with h1 | h1
    · exact h.wa x y hx hy (fun e' => hyx e'.symm) _ h1 e
    · have := own_lt (h.wr y hy) e; omega
  refine ⟨(hr.set _ _).ext fun q _ => by rw [rk_wt _ _ _ _ _ _ _ hx], h.hg, own_keep (owns_other h.cm hg (owns_apart h.cm (h.wr x hx) (by decide))) hr (by decide) _ _, own_keep (owns_other h.fr hg (owns_apart h.fr (h.wr x hx) (by decide))) hr (by decide) _ _, h.ap, fun q hq => ⟨(h.ct q hq).1, ((h.ct q hq).2.grown (h.wr x hx) (by decide) hg).keep hr (by decide) _ _⟩, h.inj, fun y hy => ?_, fun y z hy hz hyz g e e' => ?_, (h.bel.grown hg h.bel.size (fun q hq => ((h.wr x hx).lt q hq).1)).setCell h.hg _⟩
  · by_cases e : y = x
    · subst e; rw [upd_same, upd_same, List.length_append, hn]; exact own_keep hown hr (by decide) _ _
    · rw [upd_other _ _ _ _ e, upd_other _ _ _ _ e]
      exact own_keep (owns_other (h.wr y hy) hg fun g e1 e2 => h.wa y x hy hx e g e1 e2.symm) hr (by decide) _ _
  · by_cases e1 : y = x
    · subst e1
      rw [upd_same] at e
      rw [upd_other _ _ _ _ (fun e2 => hyz e2.symm)] at e'
      simp only [Value.ownBlock, Option.some.injEq] at e
      subst e
      exact key z hz (fun e2 => hyz e2.symm) e'
    · rw [upd_other _ _ _ _ e1] at e
      by_cases e2 : z = x
      · subst e2
        rw [upd_same] at e'
        simp only [Value.ownBlock, Option.some.injEq] at e'
        subst e'
        exact key y hy e1 e
      · rw [upd_other _ _ _ _ e2] at e'
        exact h.wa y z hy hz hyz g e e'
/-- One count more. -/
theorem IM.count {w W W' : World} {gR j wk g2 : Nat} {rv vc vf : Value} {inn : Nat → Bool} {c : Nat → Int} {L F : List Nat} {gc : Nat → Nat} {wt : Nat → Value} {wl : Nat → List Value} (h : IM w gR j rv vc vf inn wk c L F gc wt wl W) (hb : Below W.heap.size W W') (hg : W.heap.size ≤ g2) (hc : Blk W' g2 2 (p2 (.int .i64 (j : Int)) (.int .i64 (c j))) 95) :
    IM w gR (j + 1) rv vc vf inn wk c L F (upd gc j g2) wt wl W' := by
  have h' := h.down hb
  refine ⟨h'.hr, h'.hg, h'.cm, h'.fr, h'.ap, fun i hi => ?_, fun i i' hi hi' e => ?_, h'.wr, h'.wa, h'.bel⟩
  · by_cases e : i = j
    · subst e; rw [upd_same]; exact ⟨Nat.le_trans h.bel.size hg, hc⟩
    · rw [upd_other _ _ _ _ e]; exact h'.ct i (by omega)
  · by_cases e1 : i = j
    · by_cases e2 : i' = j
      · omega
      · rw [e1, upd_same, upd_other _ _ _ _ e2] at e
        have := (h.ct i' (by omega)).2.lt; omega
    · by_cases e2 : i' = j
      · rw [e2, upd_same, upd_other _ _ _ _ e1] at e
        have := (h.ct i (by omega)).2.lt; omega
      · rw [upd_other _ _ _ _ e1, upd_other _ _ _ _ e2] at e
        exact h.inj i i' (by omega) (by omega) e
/-- Those that wait for x, of the first j rules and of p of the next one's body. -/
def wlp (l : Nat → Rl) (j p x : Nat) : List Nat := wts l j x ++ if (List.range p).any (fun q => (l j).bd q == x) then [j] else []
theorem wlp_zero (l : Nat → Rl) (j x : Nat) : wlp l j 0 x = wts l j x := by simp [wlp]
theorem wlp_all (l : Nat → Rl) (j x : Nat) : wlp l j (l j).nb x = wts l (j + 1) x := by
  unfold wlp wts
  rw [List.range_succ, List.filter_append]
  congr 1
  show (if inb (l j) x = true then [j] else []) = _
  cases h : inb (l j) x <;> simp [h]
theorem wlp_succ {l : Nat → Rl} {j p : Nat} (hu : Up (l j).nb (l j).bd) (hp : p < (l j).nb) (x : Nat) : wlp l j (p + 1) x = if x = (l j).bd p then wlp l j p x ++ [j] else wlp l j p x := by
  unfold wlp
  rw [List.range_succ, List.any_append]
  by_cases e : x = (l j).bd p
  · rw [if_pos e]
    have h0 : (List.range p).any (fun q => (l j).bd q == x) = false := by
      rw [← Bool.not_eq_true]
      intro h
      simp only [List.any_eq_true, List.mem_range, beq_iff_eq] at h
      obtain ⟨q, hq, e'⟩ := h
      have := hu.2 q p hq hp; omega
    rw [h0]
    simp [e]
  · rw [if_neg e]
    have : ((l j).bd p == x) = false := by simp; exact fun e' => e e'.symm
    simp [this]
theorem wlp_lt {l : Nat → Rl} {j p x i : Nat} (h : i ∈ wlp l j p x) : i < j + 1 := by
  unfold wlp at h
  rw [List.mem_append] at h
  rcases h with h | h
  · have := (wts_mem.1 h).1; omega
  · split at h
    · simp at h; omega
    · simp at h
theorem wlp_len {l : Nat → Rl} {j p x : Nat} : (wlp l j p x).length ≤ j + 1 := by
  unfold wlp wts
  have := List.length_filter_le (fun i => inb (l i) x) (List.range j)
  rw [List.length_range] at this
  rw [List.length_append]
  split <;> simp <;> omega
def fv (gc : Nat → Nat) (L : List Nat) : List Value := L.map fun i => mf (gc i)
theorem fv_upd {gc : Nat → Nat} {j g : Nat} {L : List Nat} (h : ∀ i, i ∈ L → i < j) : fv (upd gc j g) L = fv gc L := by
  unfold fv
  exact List.map_congr_left fun i hi => by rw [upd_other _ _ _ _ (by have := h i hi; omega)]
end M
theorem info_fn : (Try.prog.info? 83).map (fun i => (i.zero, i.size, i.bytes)) = some (some .nilFunc, 1, 8) := by kernel_rfl
set_option maxRecDepth 20000 in
set_option maxHeartbeats 4000000 in
theorem set_counts {w W : World} {gR k : Nat} {ts : Nat → Tk} {v : Value} {gc : Nat → Nat} (hv : TasksOf w v k ts) (hG : GoodL k ts)
    (h : IM w gR 0 v (.slice none 0 0) (.slice none 0 0) (fun _ => false) 0 (fun i => ((ts i).nn : Int)) [] [] gc (fun _ => .slice none 0 0) (fun _ => []) W) :
    Calls Try.prog 60 #[.pointer (some ⟨gR, 0, none⟩)] W fun e w' => e = .returned (.tuple #[]) ∧ ∃ gc wt, IM w gR k v (.slice none 0 0) (.slice none 0 0) (fun _ => false) 0 (fun i => ((ts i).nn : Int)) [] [] gc wt (fun x => fv gc (wts (rls ts) k x)) w' := by
  obtain ⟨a, cap, rfl, hrw⟩ := hv
  have HR := hide hrw
  have HG := hide hG
  have hk := hG.1
  obtain ⟨c0, -, -, -⟩ := rk_cells h.hr
  have HZ := hide (show IM w gR 0 (.slice a k cap) (.slice none 0 0) (.slice none 0 0) (fun _ => false) 0 (fun i => ((ts i).nn : Int)) [] [] gc (fun _ => .slice none 0 0) (fun x => fv gc (wts (rls ts) 0 x)) W from h)
  obtain ⟨i0, hi, hz0, hz1, hz2⟩ := info_parts info_fn
  clear h hrw hG
  go_enter Try.func60, Try.ntmps60
  go_wp2
  go_loopw [12] (fun i wr => ∃ j : Nat, j ≤ k ∧ i = .int .i64 j ∧ Hid (∃ gc wt, IM w gR j (.slice a k cap) (.slice none 0 0) (.slice none 0 0) (fun _ => false) 0 (fun i => ((ts i).nn : Int)) [] [] gc wt (fun x => fv gc (wts (rls ts) j x)) wr)) (fun i _ => k - (intOf i).toNat)
  case atStart => exact ⟨0, Nat.zero_le _, rfl, hide ⟨_, _, HZ.out⟩⟩
  case round =>
    rename World => wo
    obtain ⟨j, hj, rfl, HP⟩ := hrel
    clear HZ c0
    by_cases hlt : j < k
    · obtain ⟨bb, off, rfl, hbb, hrow⟩ := HR.out (by omega)
      obtain ⟨y, q1, q2, i1⟩ := hrow j hlt
      obtain ⟨ay, cy, rfl, hyr⟩ := i1
      obtain ⟨gc', wt', h1⟩ := HP.out
      have hbw := h1.bel
      have c0 := (hbw.cell (p := ⟨bb, off + j * 2, none⟩) hbb).trans q1
      have c1 := (hbw.cell (p := ⟨bb, off + j * 2 + 1, none⟩) hbb).trans q2
      have hgj := HG.out.2 j hlt
      have HRj := hide hgj.2
      have hnb := hgj.2.len
      have HY := hide hyr
      have H1 := hide h1
      have hb2 := (((Below.refl wo.heap.size wo).alloc (Nat.le_refl _) (.cells #[.int .i64 (ts j).long, .slice ay (ts j).nn cy] 48)).alloc (by simp) (.cells #[.int .i64 (j : Int), .int .i64 ((ts j).nn : Int)] 95))
      have hcn : Blk ((wo.alloc (.cells #[.int .i64 (ts j).long, .slice ay (ts j).nn cy] 48)).alloc (.cells #[.int .i64 (j : Int), .int .i64 ((ts j).nn : Int)] 95)) (wo.heap.size + 1) 2 (p2 (.int .i64 (j : Int)) (.int .i64 ((ts j).nn : Int))) 95 := by
        have := Blk.fresh (wo.alloc (.cells #[.int .i64 (ts j).long, .slice ay (ts j).nn cy] 48)) #[.int .i64 (j : Int), .int .i64 ((ts j).nn : Int)] 2 (p2 (.int .i64 (j : Int)) (.int .i64 ((ts j).nn : Int))) 95 rfl
        rw [World.size_alloc] at this; exact this
      have HI := hide (show IM w gR (j + 1) (.slice (some ⟨bb, off, none⟩) k cap) (.slice none 0 0) (.slice none 0 0) (fun _ => false) 0 (fun i => ((ts i).nn : Int)) [] [] (upd gc' j (wo.heap.size + 1)) wt' (fun x => fv (upd gc' j (wo.heap.size + 1)) (wlp (rls ts) j 0 x)) ((wo.alloc (.cells #[.int .i64 (ts j).long, .slice ay (ts j).nn cy] 48)).alloc (.cells #[.int .i64 (j : Int), .int .i64 ((ts j).nn : Int)] 95)) from by
        have h2 := H1.out.count hb2 (by omega) hcn
        have : (fun x => fv (upd gc' j (wo.heap.size + 1)) (wlp (rls ts) j 0 x)) = fun x => fv gc' (wts (rls ts) j x) := by
          funext x; rw [wlp_zero]; exact fv_upd fun i hi => (wts_mem.1 hi).1
        rw [this]; exact h2)
      have HTk := hide ((Blk.fresh wo #[.int .i64 (ts j).long, .slice ay (ts j).nn cy] 2 (p2 (.int .i64 (ts j).long) (.slice ay (ts j).nn cy)) 48 rfl).alloc (.cells #[.int .i64 (j : Int), .int .i64 ((ts j).nn : Int)] 95))
      clear hrow q1 q2 h1 H1 hbw hgj hyr hcn hb2 HP HR
      go_wp2_with (refine stop_at (some 23) rfl (fun W => IM w gR (j + 1) (.slice (some ⟨bb, off, none⟩) k cap) (.slice none 0 0) (.slice none 0 0) (fun _ => false) 0 (fun i => ((ts i).nn : Int)) [] [] (upd gc' j (wo.heap.size + 1)) wt' (fun x => fv (upd gc' j (wo.heap.size + 1)) (wlp (rls ts) j 0 x)) W ∧ Blk W wo.heap.size 2 (p2 (.int .i64 (ts j).long) (.slice ay (ts j).nn cy)) 48) ?hR ?_)
      case hR => exact hide ⟨HI.out, HTk.out⟩
      clear HI HTk c0 c1
      rintro W1 ⟨h1, b1⟩
      generalize hg2 : upd gc' j (wo.heap.size + 1) = gc2 at *
      have hgcj : wo.heap.size + 1 = gc2 j := by rw [← hg2, upd_same]
      rw [hgcj]
      obtain ⟨-, d1, -, -⟩ := b1.pair
      have HZ := hide h1
      clear hg2 hgcj h1 b1
      generalize wo.heap.size = gt at *
      go_wp2
      go_loopw [26] (fun i wr => ∃ p : Nat, p ≤ (ts j).nn ∧ i = .int .i64 p ∧ Hid (∃ wt, IM w gR (j + 1) (.slice (some ⟨bb, off, none⟩) k cap) (.slice none 0 0) (.slice none 0 0) (fun _ => false) 0 (fun i => ((ts i).nn : Int)) [] [] gc2 wt (fun x => fv gc2 (wlp (rls ts) j p x)) wr)) (fun i _ => (ts j).nn - (intOf i).toNat)
      case atStart => exact ⟨0, Nat.zero_le _, rfl, hide ⟨_, HZ.out⟩⟩
      case round =>
        rename World => wx
        obtain ⟨p, hp, rfl, HP⟩ := hrel
        clear HZ d1
        by_cases hlt2 : p < (ts j).nn
        · obtain ⟨by', oy, rfl, hby, hyrow⟩ := HY.out (by omega)
          obtain ⟨wt2, h2⟩ := HP.out
          have c0 := (h2.bel.cell (p := ⟨by', oy + p, none⟩) hby).trans (hyrow p hlt2)
          rw [HRj.out.nf_eq hlt2] at c0
          have hx := HRj.out.nf_lt hlt2
          have HStep := hide (show (fun x => fv gc2 (wlp (rls ts) j (p + 1) x)) = upd (fun x => fv gc2 (wlp (rls ts) j p x)) (nf (ts j).fn p) (fv gc2 (wlp (rls ts) j p (nf (ts j).fn p)) ++ [mf (gc2 j)]) from by
            funext x
            have hs := wlp_succ (l := rls ts) (j := j) (HG.out.gr j hlt).2 (show p < (rls ts j).nb from hlt2) x
            by_cases e : x = nf (ts j).fn p
            · rw [hs, if_pos (show x = (rls ts j).bd p from e), e, upd_same]; unfold fv; rw [List.map_append]; rfl
            · rw [hs, if_neg (show ¬ x = (rls ts j).bd p from e), upd_other _ _ _ _ e])
          have hlen : (fv gc2 (wlp (rls ts) j p (nf (ts j).fn p))).length ≤ 61 := by
            unfold fv; rw [List.length_map]; have := wlp_len (l := rls ts) (j := j) (p := p) (x := nf (ts j).fn p); omega
          generalize nf (ts j).fn p = x at *
          have c2 := rk_cell_wt h2.hr hx
          have hro := h2.wr x hx
          have hsz := h2.bel.size
          generalize hfv : fv gc2 (wlp (rls ts) j p x) = xs at *
          obtain ⟨aw, cw, hwx⟩ := own_form hro
          generalize hnn : xs.length = nx at *
          rw [hwx] at c2 hro
          have H3 := hide (h2.alloc (.cells #[mf (gc2 j)] 83))
          have HO3 := hide (hro.alloc (.cells #[mf (gc2 j)] 83))
          have HWx := hide hwx
          have HN := hide hnn
          have HFv := hide hfv
          have hx0 : (0 : Int) ≤ (x : Int) := by omega
          have hx1 : (x : Int) < 40 := by omega
          have c3 := rk_cell_wt (h2.alloc (.cells #[mf (gc2 j)] 83)).hr hx
          rw [hwx] at c3
          have HG2 := hide (show ∀ W w7 : World, W.grownBy w7 (Value.slice aw nx cw).ownBlock → W.heap = (wx.alloc (.cells #[mf (gc2 j)] 83)).heap → w7.cell? ⟨gR, 43 + x, none⟩ = some (.slice aw nx cw) ∧ w7.frozen? ⟨gR, 43 + x, none⟩ = false from fun W w7 hg hh => by
            have hb := (H3.out.hr.same hh).grown (owns_same HO3.out hh) (by decide) hg
            exact ⟨by rw [← HWx.out]; exact rk_cell_wt hb hx, hb.thaw _⟩)
          have HF := hide (show ∀ (W w7 : World) (g7 cap7 : Nat), W.grownBy w7 (Value.slice aw nx cw).ownBlock → W.heap = (wx.alloc (.cells #[mf (gc2 j)] 83)).heap → Below w.heap.size w W → w7.ownsRow w.heap.size 83 1 (.slice (some ⟨g7, 0, none⟩) (nx + 1) cap7) (nx + 1) (xs ++ [mf (gc2 j)]) → ((Value.slice aw nx cw).ownBlock = some g7 ∨ g7 = W.heap.size) →
              ∃ wt, IM w gR (j + 1) (.slice (some ⟨bb, off, none⟩) k cap) (.slice none 0 0) (.slice none 0 0) (fun _ => false) 0 (fun i => ((ts i).nn : Int)) [] [] gc2 wt (fun x => fv gc2 (wlp (rls ts) j (p + 1) x)) (w7.setCell ⟨gR, 43 + x, none⟩ (.slice (some ⟨g7, 0, none⟩) (nx + 1) cap7)) from fun W w7 g7 cap7 hg hh hbW ho hat => by
            have hW := H3.out.same hh hbW
            have := hW.waits (x := x) (g' := g7) (cap := cap7) (n := nx) (u := mf (gc2 j)) hx (by show (fv gc2 (wlp (rls ts) j p x)).length = nx; rw [HFv.out]; exact HN.out) (by show w7.ownsRow w.heap.size 83 1 _ _ (fv gc2 (wlp (rls ts) j p x) ++ _); rw [HFv.out]; exact ho) (by rw [HWx.out]; exact hg) (by rw [HWx.out]; exact hat)
            refine ⟨upd wt2 x (.slice (some ⟨g7, 0, none⟩) (nx + 1) cap7), ?_⟩
            rw [HStep.out, ← HFv.out]; exact this)
          have HbA := hide (h2.bel.alloc hsz (.cells #[mf (gc2 j)] 83))
          clear hro h2 hwx hnn hfv hyrow hby HStep HRj HY HP HG HFv HN
          go_upto_region 7 with fail
          unfold mf at *
          go_region_law (refine step_append_lies _ rfl (.tmp 37) (.tmp 40) 68 rfl w.heap.size 83 i0 _ 1 8 Try.underlying68 hi hz0 hz1 hz2 rfl (by decide) (.slice aw nx cw) nx xs (by simp [Act.eval]) (owns_same HO3.out rfl) ⟨wx.heap.size, 0, none⟩ 1 1 [.func (.func 68) #[.pointer (some ⟨gc2 j, 0, none⟩)] #[]] (by simp [Act.eval]) rfl (news1 wx _ _) (by intro u hu; simp at hu; subst hu; rfl) (by omega) (by unfold maxLen; omega) (by omega) (by simp; omega) _ rfl ?_; intro g7 cap7 w7 hown7 hgrow7 hat hlt7; obtain ⟨z0, z1⟩ := HG2.out _ w7 hgrow7 rfl)
          all_goals
            have HE := hide (HF.out _ w7 g7 cap7 hgrow7 rfl HbA.out.drew hown7 hat)
            clear HF HG2 hgrow7 hown7 hat z0 z1 HO3 HWx H3
            go_wp2
            exact ⟨⟨p + 1, by omega, by go_num, HE⟩, by simp [intOf]; omega⟩
        · obtain rfl : p = (ts j).nn := by omega
          obtain ⟨wt2, h2⟩ := HP.out
          have HE := hide (show ∃ gc wt, IM w gR (j + 1) (.slice (some ⟨bb, off, none⟩) k cap) (.slice none 0 0) (.slice none 0 0) (fun _ => false) 0 (fun i => ((ts i).nn : Int)) [] [] gc wt (fun x => fv gc (wts (rls ts) (j + 1) x)) wx from ⟨gc2, wt2, by
            have : (fun x => fv gc2 (wts (rls ts) (j + 1) x)) = fun x => fv gc2 (wlp (rls ts) j (rls ts j).nb x) := by funext x; rw [wlp_all]
            rw [this]; exact h2⟩)
          clear h2 HP HY HRj HG
          go_wp2
          exact ⟨⟨j + 1, by omega, by go_num, HE⟩, by simp [intOf]; omega⟩
    · obtain rfl : j = k := by omega
      clear HR HG
      go_wp2
      go_end0
      exact ⟨rfl, HP.out⟩
end Go.Proofs.Ytpabnncfcklnpaa

/-
  AddBranch and MergeTellings of the specification.
-/
import Derived.Test.YtcbkeabfnldmhaaGreatDoorJoin35
namespace Go.Proofs.YtcbkeabfnldmhaaGreatDoor
open Go.RowKit M
open Go.Sort (grow)
namespace M
theorem ast_go {h b : Evs} {s : Brs × Bool} (hc : com b h = b.length) : ast h s b = s := by unfold ast; rw [if_pos hc]
theorem ast_in {h b : Evs} {s : Brs} (hc : com b h ≠ b.length) (hp : 0 < cL b h) : ast h (s, false) b = (s ++ [h] ++ [b], true) := by unfold ast; rw [if_neg hc, if_pos ⟨hp, rfl⟩]
theorem ast_on {h b : Evs} {s : Brs × Bool} (hc : com b h ≠ b.length) (hp : ¬ (0 < cL b h ∧ s.2 = false)) : ast h s b = (s.1 ++ [b], s.2) := by unfold ast; rw [if_neg hc, if_neg hp]
/-- One more behind a row of the call's own. -/
theorem OwnP.snoc {w w' : World} {B : Nat} {v u : Value} {ps : Prs} {es : Evs} {a' : Option Addr} {n c' : Nat} (h : OwnP w B v ps) (hu : OwnE w B u es) (hap : ∀ p ∈ ps, Apt p.1 u) (hn : ps.length = n) (hr : w'.ownsRow B 55 1 (.slice a' (n + 1) c') (n + 1) (vsP ps ++ [u])) (hg : w.grownBy w' v.ownBlock) : OwnP w' B (.slice a' (n + 1) c') (ps ++ [(u, es)]) := by
  refine ⟨?_, fun p hp => ?_, ?_⟩
  · have e1 : (ps ++ [(u, es)]).length = n + 1 := by rw [List.length_append, hn]; rfl
    rw [e1, show vsP (ps ++ [(u, es)]) = vsP ps ++ [u] by simp [vsP]]; exact hr
  · rw [List.mem_append, List.mem_singleton] at hp
    rcases hp with hp | hp
    · exact (h.evs p hp).other hg (fun q hq e => h.far hp q e.symm hq)
    · subst hp
      exact hu.other hg (fun q hq e => by have := owns_apart h.row hu (by decide) q e.symm; exact this hq.symm)
  · rw [List.pairwise_append]
    refine ⟨h.ap, List.pairwise_singleton _ _, fun p hp q hq => ?_⟩
    rw [List.mem_singleton] at hq
    subst hq; exact hap p hp
theorem OwnP.far_new {w W : World} {B N : Nat} {v u : Value} {ps : Prs} {es : Evs} (h : OwnP w B v ps) (hN : w.heap.size ≤ N) (hu : OwnE W N u es) : ∀ p ∈ ps, Apt p.1 u := fun p hp q h1 h3 => by
  have h4 := ((h.evs p hp).lt h1).2
  have h5 := (hu.lt h3).1
  omega
/-- Under way: out and whether it is put. -/
structure AdK (w wr : World) (a' : Option Addr) (c' : Nat) (qs : Prs) (pt : Bool) (bs : Brs) (h : Evs) (k : Nat) : Prop where
  own : OwnP wr w.heap.size (.slice a' qs.length c') qs
  st : (bs.take k).foldl (ast h) ([], false) = (bsP qs, pt)
  low : Below w.heap.size w wr
end M
set_option maxRecDepth 20000 in
set_option maxHeartbeats 8000000 in
theorem spec_put (v u : Value) (bs : Brs) (h : Evs) (w : World) (hv : BrsOf w v bs) (hu : SliceOf w u h) (hn : bs.length ≤ 1000) (hg : GdU bs) (hh : Tl h) (hco : CapOk v) :
    Calls Tryz.prog 47 #[v, u] w fun e w' => (∃ r, e = .returned r ∧ BrsOf w' r (add bs h) ∧ CapOk r) ∧ Below w.heap.size w w' := by
  have HV := hide hv
  have HU := hide hu
  have HG := hide hg
  have HH := hide hh
  have HCO := hide hco
  have hsh := hh.short
  have hne := hh.1
  have HF := hide (hg.fine (by omega))
  obtain ⟨a1, c1, rfl⟩ := hv.form
  obtain ⟨a2, c2, rfl⟩ := hu.form
  have HNE := hide hne
  clear hv hu hg hh hco hne
  go_enter Tryz.func47, Tryz.ntmps47
  go_wp2
  go_loopw [15] (fun y wr => ∃ k : Nat, k ≤ bs.length ∧ y = .int .i64 (k : Int) ∧ Hid (∀ i b, i < k → bs[i]? = some b → com h b ≠ h.length) ∧ Below w.heap.size w wr) (fun y _ => bs.length - (intOf y).toNat)
  case atStart => exact ⟨0, Nat.zero_le _, rfl, hide (fun i b h => absurd h (Nat.not_lt_zero _)), Below.refl _ _⟩
  case round =>
    rename World => wo
    obtain ⟨k, hk, rfl, HP, hbw⟩ := hrel
    by_cases hlt : k < bs.length
    · obtain ⟨es, he⟩ : ∃ e, bs[k]? = some e := ⟨bs[k], List.getElem?_eq_getElem hlt⟩
      obtain ⟨b2, off, rfl, hlg, a5, c5, hcc, hs⟩ := (HV.out.below hbw).at he
      have hax := (Below.refl wo.heap.size wo).alloc (Nat.le_refl _) (.cells #[.slice a5 es.length c5] 55)
      have hbx := hbw.trans (hax.mono hbw.size)
      have HS := hide (hs.below hax)
      have hle := (HF.out.at he).1
      have HE := hide he
      clear hs he hax
      by_cases hz : com h es = h.length
      · have hzb : (com h es == h.length) = true := by simp [hz]
        have HT := hide (add_yes (told_iff.2 ⟨es, List.mem_of_getElem? HE.out, hz⟩))
        clear hz HP HF
        go_wp2_with fail
        refine (spec_beg _ _ es h _ HS.out (HU.out.below hbx) hle (by omega)).mono ?_
        rw [hzb]
        rintro e w4 ⟨rfl, hb4⟩
        have hbz := hbx.trans (hb4.mono hbx.size)
        have HRES := hide (show BrsOf w4 (.slice (some ⟨b2, off, none⟩) bs.length c1) (add bs h) by rw [HT.out]; exact HV.out.below hbz)
        clear hb4 hzb hcc
        go_wp2
        go_ret
        exact ⟨⟨_, rfl, HRES.out, HCO.out⟩, hbz⟩
      · have hzb : (com h es == h.length) = false := by simp [hz]
        have HP2 := hide (show ∀ i b, i < k + 1 → bs[i]? = some b → com h b ≠ h.length from fun i b hi hb => by
          by_cases c : i = k
          · subst c; rw [HE.out] at hb; simp only [Option.some.injEq] at hb; subst hb; exact hz
          · exact HP.out i b (by omega) hb)
        clear hz HP
        go_wp2_with fail
        refine (spec_beg _ _ es h _ HS.out (HU.out.below hbx) hle (by omega)).mono ?_
        rw [hzb]
        rintro e w4 ⟨rfl, hb4⟩
        have hb5 := hbx.trans (hb4.mono hbx.size)
        clear hb4 hzb hcc
        go_wp2
        exact ⟨⟨k + 1, by omega, by go_num, HP2, hb5⟩, by simp [intOf]; omega⟩
    · obtain rfl : k = bs.length := by omega
      have HNT := hide (show told bs h = false by
        cases ht : told bs h with
        | false => rfl
        | true =>
          obtain ⟨b, hb, hc⟩ := told_iff.1 ht
          obtain ⟨i, hi, rfl⟩ := List.mem_iff_getElem.1 hb
          exact absurd hc (HP.out i _ hi (List.getElem?_eq_getElem hi)))
      clear HP
      have HW0 := hide hbw
      go_wp2
      go_loopw [5, 6, 27] (fun x y i wr => ∃ (k : Nat) (qs : Prs) (a' : Option Addr) (c' : Nat) (pt : Bool), k ≤ bs.length ∧ i = .int .i64 (k : Int) ∧ x = .slice a' qs.length c' ∧ y = .bool pt ∧ Hid (AdK w wr a' c' qs pt bs h k)) (fun _ _ i _ => bs.length - (intOf i).toNat)
      case atStart => exact ⟨0, [], none, 0, false, Nat.zero_le _, rfl, rfl, rfl, hide ⟨OwnP.nil _ _, rfl, HW0.out⟩⟩
      case round =>
        obtain ⟨k, qs, a', c', pt, hk, rfl, rfl, rfl, HA⟩ := hrel
        clear hbw HW0
        have hlow := HA.out.low
        have hql : qs.length ≤ 1001 := by
          have h1 := congrArg (fun s => s.1.length) HA.out.st
          have h2 := (ast_len h k bs hk).1
          simp only [bsP_len] at h1
          omega
        by_cases hlt : k < bs.length
        · obtain ⟨es, he⟩ : ∃ e, bs[k]? = some e := ⟨bs[k], List.getElem?_eq_getElem hlt⟩
          obtain ⟨b2, off, rfl, hlg, a5, c5, hcc0, hs⟩ := HV.out.at he
          have hcc := (hlow.cell (p := ⟨b2, off + k, none⟩) hlg).trans hcc0
          have HSS := hide hs
          have hax := (Below.refl wr.heap.size wr).alloc (Nat.le_refl _) (.cells #[.slice a5 es.length c5] 55)
          have hbx := hlow.trans (hax.mono hlow.size)
          have HS := hide (hs.below hbx)
          have HO := hide (HA.out.own.down hax)
          have HBX := hide (show M.One (wr.alloc (.cells #[.slice a5 es.length c5] 55)) wr.heap.size (.slice a5 es.length c5) 55 from heap_alloc_new _ _)
          have htl := HG.out.1 es (List.mem_of_getElem? he)
          have hes := htl.short
          have hene := htl.1
          have HENE := hide hene
          have HF1 := hide (fold_snoc (ast h) ([], false) he)
          have hgs := hlow.size
          clear hs he hax htl hene hcc0
          by_cases hc : com es h = es.length
          · have hcb : (com es h == es.length) = true := by simp [hc]
            have HST := hide (show (bs.take (k + 1)).foldl (ast h) ([], false) = (bsP qs, pt) by rw [HF1.out, HA.out.st, ast_go hc])
            go_wp2_with fail
            refine (spec_beg _ _ h es _ (HU.out.below hbx) HS.out (by omega) (by omega)).mono ?_
            rw [hcb]
            rintro e w4 ⟨rfl, hb4⟩
            have HA2 := hide (show AdK w w4 a' c' qs pt bs h (k + 1) from ⟨HO.out.down hb4, HST.out, hbx.trans (hb4.mono hbx.size)⟩)
            clear hb4 hcb hcc hc
            go_wp2
            exact ⟨⟨k + 1, qs, a', c', pt, by omega, by go_num, rfl, rfl, HA2⟩, by simp [intOf]; omega⟩
          · have hcb : (com es h == es.length) = false := by simp [hc]
            go_wp2_with fail
            refine (spec_beg _ _ h es _ (HU.out.below hbx) HS.out (by omega) (by omega)).mono ?_
            rw [hcb]
            rintro e w4 ⟨rfl, hb4⟩
            have hb5 := hbx.trans (hb4.mono hbx.size)
            have d5 := (HBX.out.down hb4).cell
            have HS4 := hide (HS.out.below hb4)
            have HO4 := hide (HO.out.down hb4)
            have HB4 := hide (HBX.out.down hb4)
            clear hb4 hcb hcc hbx HS HO HBX
            go_wp2_with fail
            refine (spec_cmp _ _ es h _ HS4.out (HU.out.below hb5) (by omega) (by omega)).mono ?_
            rintro e w5 ⟨rfl, hb⟩
            have hb6 := hb5.trans (hb.mono hb5.size)
            clear d5
            have d5 := (HB4.out.down hb).cell
            have HS5 := hide (HS4.out.below hb)
            have HO5 := hide (HO4.out.down hb)
            have HB5 := hide (HB4.out.down hb)
            clear hb hb5 HS4 HO4 HB4
            by_cases hp : 0 < cL es h ∧ pt = false
            · obtain ⟨hp1, rfl⟩ := hp
              have hg1 : cL es h > 0 := hp1
              have HST := hide (show (bs.take (k + 1)).foldl (ast h) ([], false) = (bsP qs ++ [h] ++ [es], true) by rw [HF1.out, HA.out.st, ast_in hc hp1])
              have HRB := hide (show ∀ g, (Value.slice a' qs.length c').ownBlock = some g → g < wr.heap.size from fun g hg => (HA.out.own.rowBlock hg).2)
              clear hp1 hc HA HF1
              go_wp2_with fail
              refine (own_evs _ h _ (HU.out.below hb6) (by omega) HNE.out).mono ?_
              rintro e wx7 ⟨⟨ax7, nx7, cx7, rfl, hOx7⟩, hbx7⟩
              have hal := (Below.refl wx7.heap.size wx7).alloc (Nat.le_refl _) (.cells #[.slice ax7 nx7 cx7] 55)
              have h78 := hbx7.trans (hal.mono hbx7.size)
              have hbz7 := hb6.trans (h78.mono hb6.size)
              have HOz7 := hide (HO5.out.down h78)
              have HEz7 := hide ((hOx7.mono hb6.size).down hal)
              have HAP7 := hide (HO5.out.far_new (Nat.le_refl _) hOx7)
              have HCz7 := hide (one_new wx7 (.slice ax7 nx7 cx7) 55)
              have HSz7 := hide (HS5.out.below h78)
              have HBz7 := hide (HB5.out.down h78)
              have hg7 := hbz7.size
              clear hOx7 hbx7 hal h78
              go_wp2_with (at_builtin; refine wpList_put1 _ rfl _ _ 28 55 _ 24 Tryz.underlying28 info_br rfl (by decide) rfl w.heap.size qs.length (vsP qs) _ _ rfl HOz7.out.row _ _ _ rfl HCz7.out rfl (by omega) hg7 ?_)
              intro a7 c7 w7 hO7 hgb7 _
              have hb7 : Below w.heap.size w w7 := hbz7.grown hgb7 hg7 (fun j hj => (own_lt HOz7.out.row hj).1)
              have hbe : M.One w7 wr.heap.size (.slice a5 es.length c5) 55 := by
                unfold M.One
                rw [hgb7.block wr.heap.size HBz7.out.lt (fun e => absurd (HRB.out _ e.symm) (Nat.lt_irrefl _))]
                exact HBz7.out
              have HO7 := hide (HOz7.out.snoc HEz7.out HAP7.out rfl hO7 hgb7)
              have HQL := hide (show (qs ++ [(Value.slice ax7 nx7 cx7, h)]).length = qs.length + 1 by simp)
              have HS7 := hide (show SliceOf w7 (.slice a5 es.length c5) es from HSS.out.below hb7)
              clear d5 hO7 hgb7 hbz7 HOz7 HEz7 HAP7 HCz7 hg7 HS5 HB5 HO5 hb6 HSz7 HBz7
              have d7 := hbe.cell
              go_wp2_with fail
              refine (own_evs _ es _ (HS7.out.below (Below.refl _ _)) (by omega) HENE.out).mono ?_
              rintro e wx9 ⟨⟨ax9, nx9, cx9, rfl, hOx9⟩, hbx9⟩
              have hal := (Below.refl wx9.heap.size wx9).alloc (Nat.le_refl _) (.cells #[.slice ax9 nx9 cx9] 55)
              have h78 := hbx9.trans (hal.mono hbx9.size)
              have hbz9 := hb7.trans (h78.mono hb7.size)
              have HOz9 := hide (HO7.out.down h78)
              have HEz9 := hide ((hOx9.mono hb7.size).down hal)
              have HAP9 := hide (HO7.out.far_new (Nat.le_refl _) hOx9)
              have HCz9 := hide (one_new wx9 (.slice ax9 nx9 cx9) 55)
              have hg9 := hbz9.size
              clear hOx9 hbx9 hal h78
              go_wp2_with (at_builtin; refine wpList_put1 _ rfl _ _ 28 55 _ 24 Tryz.underlying28 info_br rfl (by decide) rfl w.heap.size (qs.length + 1) (vsP (qs ++ [(Value.slice ax7 nx7 cx7, h)])) _ _ rfl (by have := HOz9.out.row; rw [HQL.out] at this; exact this) _ _ _ rfl HCz9.out rfl (by omega) hg9 ?_)
              intro a9 c9 w9 hO9 hgb9 _
              have hb9 : Below w.heap.size w w9 := hbz9.grown hgb9 hg9 (fun j hj => (own_lt HOz9.out.row hj).1)
              have HO9 := hide (HOz9.out.snoc HEz9.out HAP9.out HQL.out hO9 hgb9)
              have HA2 := hide (show AdK w w9 a9 c9 (qs ++ [(Value.slice ax7 nx7 cx7, h)] ++ [(Value.slice ax9 nx9 cx9, es)]) true bs h (k + 1) from ⟨by
                  rw [show (qs ++ [(Value.slice ax7 nx7 cx7, h)] ++ [(Value.slice ax9 nx9 cx9, es)]).length = qs.length + 1 + 1 by simp]
                  exact HO9.out, by rw [HST.out, bsP_snoc, bsP_snoc], hb9⟩)
              clear hO9 hgb9 hbz9 HOz9 HEz9 HAP9 HCz9 hg9 HO9 HO7 HS7 d7 hbe
              go_wp2
              exact ⟨⟨k + 1, _, a9, c9, true, by omega, by go_num, by simp, rfl, HA2⟩, by simp [intOf]; omega⟩
            · have hon := ast_on (s := (bsP qs, pt)) hc hp
              have HST := hide (show (bs.take (k + 1)).foldl (ast h) ([], false) = (bsP qs ++ [es], pt) by rw [HF1.out, HA.out.st, hon])
              have hgd : (decide (cL es h > 0) && !pt) = false := by
                cases pt
                · have : ¬ 0 < cL es h := fun h1 => hp ⟨h1, rfl⟩
                  simp; omega
                · simp
              rcases (show (¬ cL es h > 0) ∨ (cL es h > 0 ∧ pt = true) by
                by_cases h1 : cL es h > 0
                · cases pt
                  · exact absurd ⟨h1, rfl⟩ hp
                  · exact .inr ⟨h1, rfl⟩
                · exact .inl h1) with hcase | ⟨hcase, rfl⟩
              all_goals
                clear hp hc HA HF1 hon hgd
                go_wp2_with fail
                refine (own_evs _ es _ (HS5.out) (by omega) HENE.out).mono ?_
                rintro e wx7 ⟨⟨ax7, nx7, cx7, rfl, hOx7⟩, hbx7⟩
                have hal := (Below.refl wx7.heap.size wx7).alloc (Nat.le_refl _) (.cells #[.slice ax7 nx7 cx7] 55)
                have h78 := hbx7.trans (hal.mono hbx7.size)
                have hbz7 := hb6.trans (h78.mono hb6.size)
                have HOz7 := hide (HO5.out.down h78)
                have HEz7 := hide ((hOx7.mono hb6.size).down hal)
                have HAP7 := hide (HO5.out.far_new (Nat.le_refl _) hOx7)
                have HCz7 := hide (one_new wx7 (.slice ax7 nx7 cx7) 55)
                have hg7 := hbz7.size
                clear hOx7 hbx7 hal h78
                go_wp2_with (at_builtin; refine wpList_put1 _ rfl _ _ 28 55 _ 24 Tryz.underlying28 info_br rfl (by decide) rfl w.heap.size qs.length (vsP qs) _ _ rfl HOz7.out.row _ _ _ rfl HCz7.out rfl (by omega) hg7 ?_)
                intro a7 c7 w7 hO7 hgb7 _
                have hb7 : Below w.heap.size w w7 := hbz7.grown hgb7 hg7 (fun j hj => (own_lt HOz7.out.row hj).1)
                have HO7 := hide (HOz7.out.snoc HEz7.out HAP7.out rfl hO7 hgb7)
                have HA2 := hide (show AdK w w7 a7 c7 (qs ++ [(Value.slice ax7 nx7 cx7, es)]) _ bs h (k + 1) from ⟨by
                  rw [show (qs ++ [(Value.slice ax7 nx7 cx7, es)]).length = qs.length + 1 by simp]
                  exact HO7.out, by rw [HST.out, bsP_snoc], hb7⟩)
                clear hO7 hgb7 hbz7 HOz7 HEz7 HAP7 HCz7 hg7 HO7 HS5 HB5 HO5 hb6 d5
                go_wp2
                exact ⟨⟨k + 1, _, a7, c7, _, by omega, by go_num, by simp, rfl, HA2⟩, by simp [intOf]; omega⟩
        · obtain rfl : k = bs.length := by omega
          have hst := HA.out.st
          rw [List.take_length] at hst
          have hadd := add_fold HNT.out
          rw [hst] at hadd
          have hb5 := hlow
          cases pt
          · have HRES := hide (show add bs h = bsP qs ++ [h] by rw [hadd]; rfl)
            have HO5 := hide HA.out.own
            clear hst hadd HA
            go_wp2_with fail
            refine (own_evs _ h _ (HU.out.below hb5) (by omega) HNE.out).mono ?_
            rintro e wx7 ⟨⟨ax7, nx7, cx7, rfl, hOx7⟩, hbx7⟩
            have hal := (Below.refl wx7.heap.size wx7).alloc (Nat.le_refl _) (.cells #[.slice ax7 nx7 cx7] 55)
            have h78 := hbx7.trans (hal.mono hbx7.size)
            have hbz7 := hb5.trans (h78.mono hb5.size)
            have HOz7 := hide (HO5.out.down h78)
            have HEz7 := hide ((hOx7.mono hb5.size).down hal)
            have HAP7 := hide (HO5.out.far_new (Nat.le_refl _) hOx7)
            have HCz7 := hide (one_new wx7 (.slice ax7 nx7 cx7) 55)
            have hg7 := hbz7.size
            clear hOx7 hbx7 hal h78
            go_wp2_with (at_builtin; refine wpList_put1 _ rfl _ _ 28 55 _ 24 Tryz.underlying28 info_br rfl (by decide) rfl w.heap.size qs.length (vsP qs) _ _ rfl HOz7.out.row _ _ _ rfl HCz7.out rfl (by omega) hg7 ?_)
            intro a7 c7 w7 hO7 hgb7 _
            have hb7 : Below w.heap.size w w7 := hbz7.grown hgb7 hg7 (fun j hj => (own_lt HOz7.out.row hj).1)
            have HO7 := hide (HOz7.out.snoc HEz7.out HAP7.out rfl hO7 hgb7)
            have HBR := hide (show BrsOf w7 (.slice a7 (qs.length + 1) c7) (add bs h) by
              have := HO7.out.brs
              rw [bsP_snoc] at this
              rw [HRES.out]; exact this)
            have HCP := hide HO7.out.capOk
            clear hO7 hgb7 hbz7 HOz7 HEz7 HAP7 HCz7 hg7 HO7 HO5 hlow
            go_wp2
            go_ret
            exact ⟨⟨_, rfl, HBR.out, HCP.out⟩, hb7⟩
          · have HRES := hide (show add bs h = bsP qs by rw [hadd]; rfl)
            have HBR := hide (show BrsOf wr (.slice a' qs.length c') (add bs h) by rw [HRES.out]; exact HA.out.own.brs)
            have HCP := hide HA.out.own.capOk
            clear hst hadd HA hlow
            go_wp2
            go_ret
            exact ⟨⟨_, rfl, HBR.out, HCP.out⟩, hb5⟩
end Go.Proofs.YtcbkeabfnldmhaaGreatDoor

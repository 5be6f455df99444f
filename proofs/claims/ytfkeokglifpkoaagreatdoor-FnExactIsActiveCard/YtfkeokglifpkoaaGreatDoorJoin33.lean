/-
  Texts that follow one another, joined: BrZ, BrZb.
-/
import Derived.Test.YtfkeokglifpkoaaGreatDoorJoin32
/-
  AddBranch and MergeTellings of the specification.
-/
namespace Go.Proofs.YtfkeokglifpkoaaGreatDoor
open Go.RowKit M
open Go.Sort (grow)
namespace M
theorem ast_go {h b : Evs} {s : Brs × Bool} (hc : com b h = b.length) : ast h s b = s := by unfold ast; rw [if_pos hc]
theorem ast_in {h b : Evs} {s : Brs} (hc : com b h ≠ b.length) (hp : 0 < cL b h) : ast h (s, false) b = (s ++ [h] ++ [b], true) := by unfold ast; rw [if_neg hc, if_pos ⟨hp, rfl⟩]
theorem ast_on {h b : Evs} {s : Brs × Bool} (hc : com b h ≠ b.length) (hp : ¬ (0 < cL b h ∧ s.2 = false)) : ast h s b = (s.1 ++ [b], s.2) := by unfold ast; rw [if_neg hc, if_neg hp]
/-- One more behind a row of the call's own. -/
theorem OwnP.snoc {w w' : World} {B : Nat} {v u : Value} {ps : Prs} {es : Evs} {a' : Option Addr} {n c' : Nat} (h : OwnP w B v ps) (hu : OwnE w B u es) (hap : ∀ p ∈ ps, Apt p.1 u) (hn : ps.length = n) (hr : w'.ownsRow B 81 1 (.slice a' (n + 1) c') (n + 1) (vsP ps ++ [u])) (hg : w.grownBy w' v.ownBlock) : OwnP w' B (.slice a' (n + 1) c') (ps ++ [(u, es)]) := by
  refine ⟨?_, fun p hp => ?_, ?_⟩
  · have e1 : (ps ++ [(u, es)]).length = n + 1 := by rw [List.length_append, hn]; rfl
    rw [e1, show vsP (ps ++ [(u, es)]) = vsP ps ++ [u] by simp [vsP]]; exact hr
  · rw [List.mem_append, List.mem_singleton] at hp
    rcases hp with hp | hp
    · exact (h.evs p hp).other hg (fun q hq e => h.far hp q e.symm hq)
    · subst hp
      exact hu.other hg (fun q hq e => by have := owns_apart h.row hu (by decide) q e.symm; exact this hq.symm)
  · rw [List.pairwise_append]
    refine ⟨h.ap, List.pairwise_singleton _ _, fun p hp q hq => ?_⟩
    rw [List.mem_singleton] at hq
    subst hq; exact hap p hp
theorem OwnP.far_new {w W : World} {B N : Nat} {v u : Value} {ps : Prs} {es : Evs} (h : OwnP w B v ps) (hN : w.heap.size ≤ N) (hu : OwnE W N u es) : ∀ p ∈ ps, Apt p.1 u := fun p hp q h1 h3 => by
  have h4 := ((h.evs p hp).lt h1).2
  have h5 := (hu.lt h3).1
  omega
/-- Under way: out and whether it is put. -/
structure AdK (w wr : World) (a' : Option Addr) (c' : Nat) (qs : Prs) (pt : Bool) (bs : Brs) (h : Evs) (k : Nat) : Prop where
  own : OwnP wr w.heap.size (.slice a' qs.length c') qs
  st : (bs.take k).foldl (ast h) ([], false) = (bsP qs, pt)
  low : Below w.heap.size w wr
end M
set_option maxRecDepth 20000 in
set_option maxHeartbeats 8000000 in
theorem spec_put (v u : Value) (bs : Brs) (h : Evs) (w : World) (hv : BrsOf w v bs) (hu : SliceOf w u h) (hn : bs.length ≤ 1000) (hg : GdU bs) (hh : Tl h) (hco : CapOk v) :
    Calls Tryz.prog 102 #[v, u] w fun e w' => (∃ r, e = .returned r ∧ BrsOf w' r (add bs h) ∧ CapOk r) ∧ Below w.heap.size w w' := by
  have HV := hide hv
  have HU := hide hu
  have HG := hide hg
  have HH := hide hh
  have HCO := hide hco
  have hsh := hh.short
  have hne := hh.1
  have HF := hide (hg.fine (by omega))
  obtain ⟨a1, c1, rfl⟩ := hv.form
  obtain ⟨a2, c2, rfl⟩ := hu.form
  have HNE := hide hne
  clear hv hu hg hh hco hne
  go_enter Tryz.func102, Tryz.ntmps102
  go_wp2
  go_loopw [15] (fun y wr => ∃ k : Nat, k ≤ bs.length ∧ y = .int .i64 (k : Int) ∧ Hid (∀ i b, i < k → bs[i]? = some b → com h b ≠ h.length) ∧ Below w.heap.size w wr) (fun y _ => bs.length - (intOf y).toNat)
  case atStart => exact ⟨0, Nat.zero_le _, rfl, hide (fun i b h => absurd h (Nat.not_lt_zero _)), Below.refl _ _⟩
  case round =>
    rename World => wo
    obtain ⟨k, hk, rfl, HP, hbw⟩ := hrel
    by_cases hlt : k < bs.length
    · obtain ⟨es, he⟩ : ∃ e, bs[k]? = some e := ⟨bs[k], List.getElem?_eq_getElem hlt⟩
      obtain ⟨b2, off, rfl, hlg, a5, c5, hcc, hs⟩ := (HV.out.below hbw).at he
      have hax := (Below.refl wo.heap.size wo).alloc (Nat.le_refl _) (.cells #[.slice a5 es.length c5] 81)
      have hbx := hbw.trans (hax.mono hbw.size)
      have HS := hide (hs.below hax)
      have hle := (HF.out.at he).1
      have HE := hide he
      clear hs he hax
      by_cases hz : com h es = h.length
      · have hzb : (com h es == h.length) = true := by simp [hz]
        have HT := hide (add_yes (told_iff.2 ⟨es, List.mem_of_getElem? HE.out, hz⟩))
        clear hz HP HF
        go_wp2_with fail
        refine (spec_beg _ _ es h _ HS.out (HU.out.below hbx) hle (by omega)).mono ?_
        rw [hzb]
        rintro e w4 ⟨rfl, hb4⟩
        have hbz := hbx.trans (hb4.mono hbx.size)
        have HRES := hide (show BrsOf w4 (.slice (some ⟨b2, off, none⟩) bs.length c1) (add bs h) by rw [HT.out]; exact HV.out.below hbz)
        clear hb4 hzb hcc
        go_wp2
        go_ret
        exact ⟨⟨_, rfl, HRES.out, HCO.out⟩, hbz⟩
      · have hzb : (com h es == h.length) = false := by simp [hz]
        have HP2 := hide (show ∀ i b, i < k + 1 → bs[i]? = some b → com h b ≠ h.length from fun i b hi hb => by
          by_cases c : i = k
          · subst c; rw [HE.out] at hb; simp only [Option.some.injEq] at hb; subst hb; exact hz
          · exact HP.out i b (by omega) hb)
        clear hz HP
        go_wp2_with fail
        refine (spec_beg _ _ es h _ HS.out (HU.out.below hbx) hle (by omega)).mono ?_
        rw [hzb]
        rintro e w4 ⟨rfl, hb4⟩
        have hb5 := hbx.trans (hb4.mono hbx.size)
        clear hb4 hzb hcc
        go_wp2
        exact ⟨⟨k + 1, by omega, by go_num, HP2, hb5⟩, by simp [intOf]; omega⟩
    · obtain rfl : k = bs.length := by omega
      have HNT := hide (show told bs h = false by
        cases ht : told bs h with
        | false => rfl
        | true =>
          obtain ⟨b, hb, hc⟩ := told_iff.1 ht
          obtain ⟨i, hi, rfl⟩ := List.mem_iff_getElem.1 hb
          exact absurd hc (HP.out i _ hi (List.getElem?_eq_getElem hi)))
      clear HP
      have HW0 := hide hbw
      go_wp2
      go_loopw [5, 6, 27] (fun x y i wr => ∃ (k : Nat) (qs : Prs) (a' : Option Addr) (c' : Nat) (pt : Bool), k ≤ bs.length ∧ i = .int .i64 (k : Int) ∧ x = .slice a' qs.length c' ∧ y = .bool pt ∧ Hid (AdK w wr a' c' qs pt bs h k)) (fun _ _ i _ => bs.length - (intOf i).toNat)
      case atStart => exact ⟨0, [], none, 0, false, Nat.zero_le _, rfl, rfl, rfl, hide ⟨OwnP.nil _ _, rfl, HW0.out⟩⟩
      case round =>
        obtain ⟨k, qs, a', c', pt, hk, rfl, rfl, rfl, HA⟩ := hrel
        clear hbw HW0
        have hlow := HA.out.low
        have hql : qs.length ≤ 1001 := by
          have h1 := congrArg (fun s => s.1.length) HA.out.st
          have h2 := (ast_len h k bs hk).1
          simp only [bsP_len] at h1
          omega
        by_cases hlt : k < bs.length
        · obtain ⟨es, he⟩ : ∃ e, bs[k]? = some e := ⟨bs[k], List.getElem?_eq_getElem hlt⟩
          obtain ⟨b2, off, rfl, hlg, a5, c5, hcc0, hs⟩ := HV.out.at he
          have hcc := (hlow.cell (p := ⟨b2, off + k, none⟩) hlg).trans hcc0
          have HSS := hide hs
          have hax := (Below.refl wr.heap.size wr).alloc (Nat.le_refl _) (.cells #[.slice a5 es.length c5] 81)
          have hbx := hlow.trans (hax.mono hlow.size)
          have HS := hide (hs.below hbx)
          have HO := hide (HA.out.own.down hax)
          have HBX := hide (show M.One (wr.alloc (.cells #[.slice a5 es.length c5] 81)) wr.heap.size (.slice a5 es.length c5) 81 from heap_alloc_new _ _)
          have htl := HG.out.1 es (List.mem_of_getElem? he)
          have hes := htl.short
          have hene := htl.1
          have HENE := hide hene
          have HF1 := hide (fold_snoc (ast h) ([], false) he)
          have hgs := hlow.size
          clear hs he hax htl hene hcc0
          by_cases hc : com es h = es.length
          · have hcb : (com es h == es.length) = true := by simp [hc]
            have HST := hide (show (bs.take (k + 1)).foldl (ast h) ([], false) = (bsP qs, pt) by rw [HF1.out, HA.out.st, ast_go hc])
            go_wp2_with fail
            refine (spec_beg _ _ h es _ (HU.out.below hbx) HS.out (by omega) (by omega)).mono ?_
            rw [hcb]
            rintro e w4 ⟨rfl, hb4⟩
            have HA2 := hide (show AdK w w4 a' c' qs pt bs h (k + 1) from ⟨HO.out.down hb4, HST.out, hbx.trans (hb4.mono hbx.size)⟩)
            clear hb4 hcb hcc hc
            go_wp2
            exact ⟨⟨k + 1, qs, a', c', pt, by omega, by go_num, rfl, rfl, HA2⟩, by simp [intOf]; omega⟩
          · have hcb : (com es h == es.length) = false := by simp [hc]
            go_wp2_with fail
            refine (spec_beg _ _ h es _ (HU.out.below hbx) HS.out (by omega) (by omega)).mono ?_
            rw [hcb]
            rintro e w4 ⟨rfl, hb4⟩
            have hb5 := hbx.trans (hb4.mono hbx.size)
            have d5 := (HBX.out.down hb4).cell
            have HS4 := hide (HS.out.below hb4)
            have HO4 := hide (HO.out.down hb4)
            have HB4 := hide (HBX.out.down hb4)
            clear hb4 hcb hcc hbx HS HO HBX
            go_wp2_with fail
            refine (spec_cmp _ _ es h _ HS4.out (HU.out.below hb5) (by omega) (by omega)).mono ?_
            rintro e w5 ⟨rfl, hb⟩
            have hb6 := hb5.trans (hb.mono hb5.size)
            clear d5
            have d5 := (HB4.out.down hb).cell
            have HS5 := hide (HS4.out.below hb)
            have HO5 := hide (HO4.out.down hb)
            have HB5 := hide (HB4.out.down hb)
            clear hb hb5 HS4 HO4 HB4
            by_cases hp : 0 < cL es h ∧ pt = false
            · obtain ⟨hp1, rfl⟩ := hp
              have hg1 : cL es h > 0 := hp1
              have HST := hide (show (bs.take (k + 1)).foldl (ast h) ([], false) = (bsP qs ++ [h] ++ [es], true) by rw [HF1.out, HA.out.st, ast_in hc hp1])
              have HRB := hide (show ∀ g, (Value.slice a' qs.length c').ownBlock = some g → g < wr.heap.size from fun g hg => (HA.out.own.rowBlock hg).2)
              clear hp1 hc HA HF1
              go_wp2_with fail
              refine (own_evs _ h _ (HU.out.below hb6) (by omega) HNE.out).mono ?_
              rintro e wx7 ⟨⟨ax7, nx7, cx7, rfl, hOx7⟩, hbx7⟩
              have hal := (Below.refl wx7.heap.size wx7).alloc (Nat.le_refl _) (.cells #[.slice ax7 nx7 cx7] 81)
              have h78 := hbx7.trans (hal.mono hbx7.size)
              have hbz7 := hb6.trans (h78.mono hb6.size)
              have HOz7 := hide (HO5.out.down h78)
              have HEz7 := hide ((hOx7.mono hb6.size).down hal)
              have HAP7 := hide (HO5.out.far_new (Nat.le_refl _) hOx7)
              have HCz7 := hide (one_new wx7 (.slice ax7 nx7 cx7) 81)
              have HSz7 := hide (HS5.out.below h78)
              have HBz7 := hide (HB5.out.down h78)
              have hg7 := hbz7.size
              clear hOx7 hbx7 hal h78
              go_wp2_with (at_builtin; refine wpList_put1 _ rfl _ _ 30 81 _ 24 Tryz.underlying30 info_br rfl (by decide) rfl w.heap.size qs.length (vsP qs) _ _ rfl HOz7.out.row _ _ _ rfl HCz7.out rfl (by omega) hg7 ?_)
              intro a7 c7 w7 hO7 hgb7 _
              have hb7 : Below w.heap.size w w7 := hbz7.grown hgb7 hg7 (fun j hj => (own_lt HOz7.out.row hj).1)
              have hbe : M.One w7 wr.heap.size (.slice a5 es.length c5) 81 := by
                unfold M.One
                rw [hgb7.block wr.heap.size HBz7.out.lt (fun e => absurd (HRB.out _ e.symm) (Nat.lt_irrefl _))]
                exact HBz7.out
              have HO7 := hide (HOz7.out.snoc HEz7.out HAP7.out rfl hO7 hgb7)
              have HQL := hide (show (qs ++ [(Value.slice ax7 nx7 cx7, h)]).length = qs.length + 1 by simp)
              have HS7 := hide (show SliceOf w7 (.slice a5 es.length c5) es from HSS.out.below hb7)
              clear d5 hO7 hgb7 hbz7 HOz7 HEz7 HAP7 HCz7 hg7 HS5 HB5 HO5 hb6 HSz7 HBz7
              have d7 := hbe.cell
              go_wp2_with fail
              refine (own_evs _ es _ (HS7.out.below (Below.refl _ _)) (by omega) HENE.out).mono ?_
              rintro e wx9 ⟨⟨ax9, nx9, cx9, rfl, hOx9⟩, hbx9⟩
              have hal := (Below.refl wx9.heap.size wx9).alloc (Nat.le_refl _) (.cells #[.slice ax9 nx9 cx9] 81)
              have h78 := hbx9.trans (hal.mono hbx9.size)
              have hbz9 := hb7.trans (h78.mono hb7.size)
              have HOz9 := hide (HO7.out.down h78)
              have HEz9 := hide ((hOx9.mono hb7.size).down hal)
              have HAP9 := hide (HO7.out.far_new (Nat.le_refl _) hOx9)
              have HCz9 := hide (one_new wx9 (.slice ax9 nx9 cx9) 81)
              have hg9 := hbz9.size
              clear hOx9 hbx9 hal h78
              go_wp2_with (at_builtin; refine wpList_put1 _ rfl _ _ 30 81 _ 24 Tryz.underlying30 info_br rfl (by decide) rfl w.heap.size (qs.length + 1) (vsP (qs ++ [(Value.slice ax7 nx7 cx7, h)])) _ _ rfl (by have := HOz9.out.row; rw [HQL.out] at this; exact this) _ _ _ rfl HCz9.out rfl (by omega) hg9 ?_)
              intro a9 c9 w9 hO9 hgb9 _
              have hb9 : Below w.heap.size w w9 := hbz9.grown hgb9 hg9 (fun j hj => (own_lt HOz9.out.row hj).1)
              have HO9 := hide (HOz9.out.snoc HEz9.out HAP9.out HQL.out hO9 hgb9)
              have HA2 := hide (show AdK w w9 a9 c9 (qs ++ [(Value.slice ax7 nx7 cx7, h)] ++ [(Value.slice ax9 nx9 cx9, es)]) true bs h (k + 1) from ⟨by
                  rw [show (qs ++ [(Value.slice ax7 nx7 cx7, h)] ++ [(Value.slice ax9 nx9 cx9, es)]).length = qs.length + 1 + 1 by simp]
                  exact HO9.out, by rw [HST.out, bsP_snoc, bsP_snoc], hb9⟩)
              clear hO9 hgb9 hbz9 HOz9 HEz9 HAP9 HCz9 hg9 HO9 HO7 HS7 d7 hbe
              go_wp2
              exact ⟨⟨k + 1, _, a9, c9, true, by omega, by go_num, by simp, rfl, HA2⟩, by simp [intOf]; omega⟩
            · have hon := ast_on (s := (bsP qs, pt)) hc hp
              have HST := hide (show (bs.take (k + 1)).foldl (ast h) ([], false) = (bsP qs ++ [es], pt) by rw [HF1.out, HA.out.st, hon])
              have hgd : (decide (cL es h > 0) && !pt) = false := by
                cases pt
                · have : ¬ 0 < cL es h := fun h1 => hp ⟨h1, rfl⟩
                  simp; omega
                · simp
              rcases (show (¬ cL es h > 0) ∨ (cL es h > 0 ∧ pt = true) by
                by_cases h1 : cL es h > 0
                · cases pt
                  · exact absurd ⟨h1, rfl⟩ hp
                  · exact .inr ⟨h1, rfl⟩
                · exact .inl h1) with hcase | ⟨hcase, rfl⟩
              all_goals
                clear hp hc HA HF1 hon hgd
                go_wp2_with fail
                refine (own_evs _ es _ (HS5.out) (by omega) HENE.out).mono ?_
                rintro e wx7 ⟨⟨ax7, nx7, cx7, rfl, hOx7⟩, hbx7⟩
                have hal := (Below.refl wx7.heap.size wx7).alloc (Nat.le_refl _) (.cells #[.slice ax7 nx7 cx7] 81)
                have h78 := hbx7.trans (hal.mono hbx7.size)
                have hbz7 := hb6.trans (h78.mono hb6.size)
                have HOz7 := hide (HO5.out.down h78)
                have HEz7 := hide ((hOx7.mono hb6.size).down hal)
                have HAP7 := hide (HO5.out.far_new (Nat.le_refl _) hOx7)
                have HCz7 := hide (one_new wx7 (.slice ax7 nx7 cx7) 81)
                have hg7 := hbz7.size
                clear hOx7 hbx7 hal h78
                go_wp2_with (at_builtin; refine wpList_put1 _ rfl _ _ 30 81 _ 24 Tryz.underlying30 info_br rfl (by decide) rfl w.heap.size qs.length (vsP qs) _ _ rfl HOz7.out.row _ _ _ rfl HCz7.out rfl (by omega) hg7 ?_)
                intro a7 c7 w7 hO7 hgb7 _
                have hb7 : Below w.heap.size w w7 := hbz7.grown hgb7 hg7 (fun j hj => (own_lt HOz7.out.row hj).1)
                have HO7 := hide (HOz7.out.snoc HEz7.out HAP7.out rfl hO7 hgb7)
                have HA2 := hide (show AdK w w7 a7 c7 (qs ++ [(Value.slice ax7 nx7 cx7, es)]) _ bs h (k + 1) from ⟨by
                  rw [show (qs ++ [(Value.slice ax7 nx7 cx7, es)]).length = qs.length + 1 by simp]
                  exact HO7.out, by rw [HST.out, bsP_snoc], hb7⟩)
                clear hO7 hgb7 hbz7 HOz7 HEz7 HAP7 HCz7 hg7 HO7 HS5 HB5 HO5 hb6 d5
                go_wp2
                exact ⟨⟨k + 1, _, a7, c7, _, by omega, by go_num, by simp, rfl, HA2⟩, by simp [intOf]; omega⟩
        · obtain rfl : k = bs.length := by omega
          have hst := HA.out.st
          rw [List.take_length] at hst
          have hadd := add_fold HNT.out
          rw [hst] at hadd
          have hb5 := hlow
          cases pt
          · have HRES := hide (show add bs h = bsP qs ++ [h] by rw [hadd]; rfl)
            have HO5 := hide HA.out.own
            clear hst hadd HA
            go_wp2_with fail
            refine (own_evs _ h _ (HU.out.below hb5) (by omega) HNE.out).mono ?_
            rintro e wx7 ⟨⟨ax7, nx7, cx7, rfl, hOx7⟩, hbx7⟩
            have hal := (Below.refl wx7.heap.size wx7).alloc (Nat.le_refl _) (.cells #[.slice ax7 nx7 cx7] 81)
            have h78 := hbx7.trans (hal.mono hbx7.size)
            have hbz7 := hb5.trans (h78.mono hb5.size)
            have HOz7 := hide (HO5.out.down h78)
            have HEz7 := hide ((hOx7.mono hb5.size).down hal)
            have HAP7 := hide (HO5.out.far_new (Nat.le_refl _) hOx7)
            have HCz7 := hide (one_new wx7 (.slice ax7 nx7 cx7) 81)
            have hg7 := hbz7.size
            clear hOx7 hbx7 hal h78
            go_wp2_with (at_builtin; refine wpList_put1 _ rfl _ _ 30 81 _ 24 Tryz.underlying30 info_br rfl (by decide) rfl w.heap.size qs.length (vsP qs) _ _ rfl HOz7.out.row _ _ _ rfl HCz7.out rfl (by omega) hg7 ?_)
            intro a7 c7 w7 hO7 hgb7 _
            have hb7 : Below w.heap.size w w7 := hbz7.grown hgb7 hg7 (fun j hj => (own_lt HOz7.out.row hj).1)
            have HO7 := hide (HOz7.out.snoc HEz7.out HAP7.out rfl hO7 hgb7)
            have HBR := hide (show BrsOf w7 (.slice a7 (qs.length + 1) c7) (add bs h) by
              have := HO7.out.brs
              rw [bsP_snoc] at this
              rw [HRES.out]; exact this)
            have HCP := hide HO7.out.capOk
            clear hO7 hgb7 hbz7 HOz7 HEz7 HAP7 HCz7 hg7 HO7 HO5 hlow
            go_wp2
            go_ret
            exact ⟨⟨_, rfl, HBR.out, HCP.out⟩, hb7⟩
          · have HRES := hide (show add bs h = bsP qs by rw [hadd]; rfl)
            have HBR := hide (show BrsOf wr (.slice a' qs.length c') (add bs h) by rw [HRES.out]; exact HA.out.own.brs)
            have HCP := hide HA.out.own.capOk
            clear hst hadd HA hlow
            go_wp2
            go_ret
            exact ⟨⟨_, rfl, HBR.out, HCP.out⟩, hb5⟩
end Go.Proofs.YtfkeokglifpkoaaGreatDoor

/-
  AddBranch and MergeTellings of the specification: the copy, the merge, and whether what comes of it is good.
-/
namespace Go.Proofs.YtfkeokglifpkoaaGreatDoor
open Go.RowKit M
open Go.Sort (grow)
set_option maxRecDepth 20000 in
set_option maxHeartbeats 4000000 in
theorem spec_own (v : Value) (bs : Brs) (w : World) (hv : BrsOf w v bs) (hn : bs.length ≤ 1001) (hg : GdU bs) :
    Calls Tryz.prog 65 #[.agg #[v]] w fun e w' => (∃ r ps, e = .returned (.agg #[r]) ∧ OwnP w' w.heap.size r ps ∧ bsP ps = bs) ∧ Below w.heap.size w w' := by
  obtain ⟨a1, c1, rfl⟩ := hv.form
  obtain ⟨W, hW⟩ : ∃ W, (w.alloc (.cells #[.slice a1 bs.length c1] 32)).alloc (.cells #[.slice none 0 0] 32) = W := ⟨_, rfl⟩
  obtain ⟨m0, m1, hal, hsz⟩ := two1 w _ _ _ _ W hW.symm
  have HV := hide (hv.below hal)
  have HG := hide hg
  have HAL := hide hal
  have HM1 := hide m1
  have HW := hide hW
  have HSZ := hide hsz
  have d0 : ((w.alloc (.cells #[.slice a1 bs.length c1] 32)).alloc (.cells #[.slice none 0 0] 32)).cell? ⟨w.heap.size, 0, none⟩ = some (.slice a1 bs.length c1) := by rw [hW]; exact m0.cell
  clear hv hg hW hal m0 m1 hsz
  go_enter Tryz.func65, Tryz.ntmps65
  go_wp2
  rw [HW.out]
  clear HW d0
  go_loopw [3, 9] (fun x i wr => ∃ (k : Nat) (ps : Prs) (a' : Option Addr) (c' : Nat), k ≤ bs.length ∧ i = .int .i64 k ∧ x = .slice a' k c' ∧ Hid (OwnP wr W.heap.size (.slice a' k c') ps) ∧ Hid (bsP ps = bs.take k) ∧ Hid (Below W.heap.size W wr)) (fun _ i _ => bs.length - (intOf i).toNat)
  case atStart => exact ⟨0, [], none, 0, Nat.zero_le _, rfl, rfl, hide (OwnP.nil _ _), hide rfl, hide (Below.refl _ _)⟩
  case round =>
    obtain ⟨k, ps, a', c', hk, rfl, rfl, HO, HB, HWr⟩ := hrel
    have hbw := HWr.out
    by_cases hlt : k < bs.length
    · obtain ⟨es, he⟩ : ∃ e, bs[k]? = some e := ⟨bs[k], List.getElem?_eq_getElem hlt⟩
      obtain ⟨b, off, rfl, hlb, a2, c2, hc, hs⟩ := HV.out.at he
      have hcw := (hbw.cell (p := ⟨b, off + k, none⟩) hlb).trans hc
      have hal := (Below.refl wr.heap.size wr).alloc (Nat.le_refl _) (.cells #[.slice a2 es.length c2] 81)
      have hbq := hbw.trans (hal.mono hbw.size)
      have HOQ := hide (HO.out.down hal)
      have HSQ := hide (hs.below hbq)
      have htl := HG.out.1 es (List.mem_of_getElem? he)
      have hsh := htl.short
      have HTL := hide htl.1
      have HE := hide he
      have hpl : ps.length = k := by
        have := congrArg List.length HB.out
        rw [bsP_len, List.length_take] at this; omega
      have HPL := hide hpl
      have hgs := hbq.size
      clear hs he hal hc HO htl hpl HWr hbw
      go_wp2_with fail
      refine (own_evs _ es _ HSQ.out (by omega) HTL.out).mono ?_
      rintro e w2 ⟨⟨a3, n3, c3, rfl, hO⟩, hb2⟩
      have hal2 := (Below.refl w2.heap.size w2).alloc (Nat.le_refl _) (.cells #[.slice a3 n3 c3] 81)
      have h23 := hb2.trans (hal2.mono hb2.size)
      have hb3 := hbq.trans (h23.mono hbq.size)
      have HP3 := hide (HOQ.out.down h23)
      have HE3 := hide ((hO.mono hgs).down hal2)
      have HAP := hide (HOQ.out.far_new (Nat.le_refl _) hO)
      have HC := hide (one_new w2 (.slice a3 n3 c3) 81)
      have hgs3 := hb3.size
      clear hO hal2 hb2 h23 hbq
      go_wp2_with (at_builtin; refine wpList_put1 _ rfl _ _ 30 81 _ 24 Tryz.underlying30 info_br rfl (by decide) rfl W.heap.size k (vsP ps) _ _ rfl (by have := HP3.out.row; rw [HPL.out] at this; exact this) _ _ _ rfl HC.out rfl (by omega) hgs3 ?_)
      intro a5 c5 w5 hO5 hg5 _
      have hb5 : Below W.heap.size W w5 := hb3.grown hg5 hgs3 (fun j hj => (own_lt HP3.out.row hj).1)
      have HP5 := hide (HP3.out.snoc HE3.out HAP.out HPL.out hO5 hg5)
      have HB5 := hide (show bsP (ps ++ [(Value.slice a3 n3 c3, es)]) = bs.take (k + 1) by rw [bsP_snoc, HB.out, take_snocB HE.out])
      have HW5 := hide hb5
      clear hO5 hg5 HP3 HE3 HAP HC hb3 hgs3 hb5
      go_wp2
      exact ⟨⟨k + 1, _, a5, c5, by omega, by go_num, by go_num, HP5, HB5, HW5⟩, by simp [intOf]; omega⟩
    · obtain rfl : k = bs.length := by omega
      have HB2 := hide (show bsP ps = bs by rw [HB.out, List.take_length])
      have r1 := (HM1.out.down hbw).cell
      have r2 := (HM1.out.down hbw).thaw
      have hbz := HAL.out.trans (hbw.mono HAL.out.size)
      have HSZ2 := HSZ.out
      clear HV HB HWr
      go_wp2
      refine bodyPost_ret (v := .agg #[.slice a' bs.length c']) (by simp [results, Tryz.results65, go_sem, r1]) rfl ⟨⟨_, ps, rfl, (HO.out.set_low (by omega) _).mono (by omega), HB2.out⟩, hbz.setCell (by simp) _⟩
set_option maxRecDepth 20000 in
set_option maxHeartbeats 4000000 in
theorem spec_merge (v u : Value) (ls bs : Brs) (w : World) (hv : BrsOf w v ls) (hu : BrsOf w u bs) (hco : CapOk v) (hg : GdT ls) (ht : GdT bs) :
    Calls Tryz.prog 113 #[.agg #[v], .agg #[u]] w fun e w' => (∃ r ps, e = .returned (.agg #[r]) ∧ OwnP w' w.heap.size r ps ∧ bsP ps = mge ls bs) ∧ Below w.heap.size w w' := by
  have HCO := hide hco
  obtain ⟨a1, c1, rfl⟩ := hv.form
  obtain ⟨a2, c2, rfl⟩ := hu.form
  obtain ⟨W, hW⟩ : ∃ W, ((w.alloc (.cells #[.slice a1 ls.length c1] 32)).alloc (.cells #[.slice a2 bs.length c2] 32)).alloc (.cells #[.slice none 0 0] 32) = W := ⟨_, rfl⟩
  obtain ⟨m0, m1, m2, hal, hsz⟩ := three1 w _ _ _ _ _ _ W hW.symm
  have HV := hide (hv.below hal)
  have HU := hide (hu.below hal)
  have HG := hide hg
  have HT := hide ht
  have h12 := ht.1
  have h13 := hg.1
  have HAL := hide hal
  have HM2 := hide m2
  have HW := hide hW
  have HSZ := hide hsz
  have d0 : (((w.alloc (.cells #[.slice a1 ls.length c1] 32)).alloc (.cells #[.slice a2 bs.length c2] 32)).alloc (.cells #[.slice none 0 0] 32)).cell? ⟨w.heap.size, 0, none⟩ = some (.slice a1 ls.length c1) := by rw [hW]; exact m0.cell
  have d1 : (((w.alloc (.cells #[.slice a1 ls.length c1] 32)).alloc (.cells #[.slice a2 bs.length c2] 32)).alloc (.cells #[.slice none 0 0] 32)).cell? ⟨w.heap.size + 1, 0, none⟩ = some (.slice a2 bs.length c2) := by rw [hW]; exact m1.cell
  clear hv hu hg ht hco hW hal m0 m1 m2 hsz
  go_enter Tryz.func113, Tryz.ntmps113
  go_wp2
  rw [HW.out]
  clear HW d0 d1
  go_loopw [5, 13] (fun x i wr => ∃ (k n : Nat) (aa : Option Addr) (ca : Nat), k ≤ bs.length ∧ i = .int .i64 k ∧ x = .slice aa n ca ∧ Hid (BrsOf wr (.slice aa n ca) (mge ls (bs.take k))) ∧ Hid (CapOk (.slice aa n ca)) ∧ Hid (Below W.heap.size W wr)) (fun _ i _ => bs.length - (intOf i).toNat)
  case atStart => exact ⟨0, _, _, _, Nat.zero_le _, rfl, rfl, HV, HCO, hide (Below.refl _ _)⟩
  case round =>
    obtain ⟨k, n, aa, ca, hk, rfl, rfl, HX, HC, HWr⟩ := hrel
    by_cases hlt : k < bs.length
    · obtain ⟨es, he⟩ : ∃ e, bs[k]? = some e := ⟨bs[k], List.getElem?_eq_getElem hlt⟩
      obtain ⟨g, off, rfl, hlg, a3, c3, hc, hs⟩ := HU.out.at he
      have hcw := (HWr.out.cell (p := ⟨g, off + k, none⟩) hlg).trans hc
      have hax := (Below.refl wr.heap.size wr).alloc (Nat.le_refl _) (.cells #[.slice a3 es.length c3] 81)
      have hWx := HWr.out.trans (hax.mono HWr.out.size)
      have hGU := mge_good HG.out.2 (b := bs.take k) (fun x hx => HT.out.2.1 x (List.mem_of_mem_take hx))
      have hml := mge_len (a := ls) (b := bs) k hk
      have HPB := hide (spec_put _ (.slice a3 es.length c3) (mge ls (bs.take k)) es _ (HX.out.below hax) (hs.below hWx) (by omega) hGU (HT.out.2.1 es (List.mem_of_getElem? he)) HC.out)
      have HE := hide he
      have HWX := hide hWx
      clear hc hs he hax hWx hGU HX HWr
      go_wp2_with fail
      refine HPB.out.mono ?_
      rintro e w6 ⟨⟨r6, rfl, hr6, hc6⟩, hb6⟩
      rw [← mge_snoc HE.out] at hr6
      have HX6 := hide hr6
      have HC6 := hide hc6
      have HW6 := hide (HWX.out.trans (hb6.mono HWX.out.size))
      obtain ⟨a6, c6, rfl⟩ := hr6.form
      clear hr6 hc6 hb6 HPB HWX
      go_wp2
      exact ⟨⟨k + 1, _, a6, c6, by omega, by go_num, rfl, HX6, HC6, HW6⟩, by simp [intOf]; omega⟩
    · obtain rfl : k = bs.length := by omega
      have hx := HX.out
      rw [List.take_length] at hx
      have HX2 := hide hx
      have hml := mge_len (a := ls) (b := bs) bs.length (Nat.le_refl _)
      rw [List.take_length] at hml
      have hGU := mge_good HG.out.2 (b := bs) HT.out.2.1
      have HGU := hide hGU
      clear hx hGU HX
      go_wp2_with fail
      refine (spec_own _ (mge ls bs) _ HX2.out (by omega) HGU.out).mono ?_
      rintro e w5 ⟨⟨r5, ps5, rfl, hO5, hps5⟩, hb5⟩
      have hW5 := HWr.out.trans (hb5.mono HWr.out.size)
      have r1 := (HM2.out.down hW5).cell
      have r2 := (HM2.out.down hW5).thaw
      have hbw := HAL.out.trans (hW5.mono HAL.out.size)
      have HSZ2 := HSZ.out
      have HO5 := hide (hO5.mono HWr.out.size)
      have HPS := hide hps5
      obtain ⟨a5, c5, rfl⟩ := hO5.form
      clear hO5 hps5 hb5 hW5 HX2 HC HV HU
      go_wp2
      exact bodyPost_ret (v := .agg #[.slice a5 ps5.length c5]) (by simp [results, Tryz.results113, go_sem, r1]) rfl ⟨⟨_, ps5, rfl, (HO5.out.set_low (by omega) _).mono (by omega), HPS.out⟩, hbw.setCell (by simp; omega) _⟩
set_option maxRecDepth 20000 in
set_option maxHeartbeats 4000000 in
theorem spec_mge (v u : Value) (ls bs : Brs) (ok : Bool) (l : Brs) (w : World) (hv : BrsOf w v ls) (hu : BrsOf w u bs) (hf : FineS ls) (hf2 : FineS bs) (hco : CapOk v) (hco2 : CapOk u) (hb : BP ok (GdT ls ∧ GdT bs ∧ (mge ls bs).length ≤ 12)) (hl : (ok = true → l = mge ls bs) ∧ (ok = false → l = [])) :
    Calls Tryz.prog 66 #[.agg #[v], .agg #[u]] w fun e w' => TlA w' w.heap.size e ok l ∧ Below w.heap.size w w' := by
  have HCO := hide hco
  have HCO2 := hide hco2
  obtain ⟨a1, c1, rfl⟩ := hv.form
  obtain ⟨a2, c2, rfl⟩ := hu.form
  obtain ⟨W, hW⟩ : ∃ W, ((w.alloc (.cells #[.slice a1 ls.length c1] 32)).alloc (.cells #[.slice a2 bs.length c2] 32)).alloc (.cells #[.slice none 0 0] 32) = W := ⟨_, rfl⟩
  obtain ⟨m0, m1, m2, hal, hsz⟩ := three1 w _ _ _ _ _ _ W hW.symm
  have HV := hide (hv.below hal)
  have HU := hide (hu.below hal)
  have HF := hide hf
  have HF2 := hide hf2
  have HB := hide hb
  have HL := hide hl
  have HAL := hide hal
  have HM0 := hide m0
  have HM1 := hide m1
  have HM2 := hide m2
  have HW := hide hW
  have HSZ := hide hsz
  have d0 : (((w.alloc (.cells #[.slice a1 ls.length c1] 32)).alloc (.cells #[.slice a2 bs.length c2] 32)).alloc (.cells #[.slice none 0 0] 32)).cell? ⟨w.heap.size, 0, none⟩ = some (.slice a1 ls.length c1) := by rw [hW]; exact m0.cell
  obtain ⟨gb, hgb⟩ := bp_ex (GdT ls)
  have HGB := hide hgb
  obtain ⟨tb, htb⟩ := bp_ex (GdT bs)
  have HTB := hide htb
  clear hv hu hf hf2 hco hco2 hb hl hgb htb hW hal m0 m1 m2 hsz
  cases gb
  · have HN := hide (show ok = false from HB.out.no (fun h => by have := HGB.out.yes h.1; cases this))
    have HN2 := hide (HL.out.2 HN.out)
    go_enter Tryz.func66, Tryz.ntmps66
    go_wp2_with fail
    rw [HW.out]
    refine (spec_gt _ ls false _ HV.out HF.out HCO.out HGB.out).mono ?_
    rintro e w2 ⟨rfl, hb2⟩
    have r1 := (HM2.out.down hb2).cell
    have r2 := (HM2.out.down hb2).thaw
    have hbw := HAL.out.trans (hb2.mono HAL.out.size)
    clear hb2 d0
    go_wp2
    exact bodyPost_ret (v := .tuple #[.agg #[.slice none 0 0], .bool false]) (by simp [results, Tryz.results66, go_sem, r1]) rfl ⟨⟨_, [], by rw [HN.out], OwnP.nil _ _, HN2.out.symm⟩, hbw.setCell (by simp; omega) _⟩
  · have HG := hide (HGB.out.1 rfl)
    cases tb
    · have HN := hide (show ok = false from HB.out.no (fun h => by have := HTB.out.yes h.2.1; cases this))
      have HN2 := hide (HL.out.2 HN.out)
      go_enter Tryz.func66, Tryz.ntmps66
      go_wp2_with fail
      rw [HW.out]
      refine (spec_gt _ ls true _ HV.out HF.out HCO.out HGB.out).mono ?_
      rintro e w2 ⟨rfl, hb2⟩
      clear d0
      have d1 := (HM1.out.down hb2).cell
      go_wp2_with fail
      refine (spec_gt _ bs false _ (HU.out.below hb2) HF2.out HCO2.out HTB.out).mono ?_
      rintro e w3 ⟨rfl, hb3⟩
      have hba := hb2.trans (hb3.mono hb2.size)
      have r1 := (HM2.out.down hba).cell
      have r2 := (HM2.out.down hba).thaw
      have hbw := HAL.out.trans (hba.mono HAL.out.size)
      clear hb2 hb3 hba d1
      go_wp2
      exact bodyPost_ret (v := .tuple #[.agg #[.slice none 0 0], .bool false]) (by simp [results, Tryz.results66, go_sem, r1]) rfl ⟨⟨_, [], by rw [HN.out], OwnP.nil _ _, HN2.out.symm⟩, hbw.setCell (by simp; omega) _⟩
    · have HT := hide (HTB.out.1 rfl)
      have h12 := HT.out.1
      have h13 := HG.out.1
      have hml := mge_len (a := ls) (b := bs) bs.length (Nat.le_refl _)
      rw [List.take_length] at hml
      have HGA := hide (mge_good HG.out.2 (b := bs) HT.out.2.1)
      have HBO := hide (show BP ok (GdT (mge ls bs)) from ⟨fun hk => ⟨(HB.out.1 hk).2.2, HGA.out⟩, fun hk => HB.out.2 ⟨HG.out, HT.out, hk.1⟩⟩)
      go_enter Tryz.func66, Tryz.ntmps66
      go_wp2_with fail
      rw [HW.out]
      refine (spec_gt _ ls true _ HV.out HF.out HCO.out HGB.out).mono ?_
      rintro e w2 ⟨rfl, hb2⟩
      clear d0
      have d1 := (HM1.out.down hb2).cell
      go_wp2_with fail
      refine (spec_gt _ bs true _ (HU.out.below hb2) HF2.out HCO2.out HTB.out).mono ?_
      rintro e w3 ⟨rfl, hb3⟩
      have hba := hb2.trans (hb3.mono hb2.size)
      clear hb2 hb3 d1
      have d0 := (HM0.out.down hba).cell
      have d1 := (HM1.out.down hba).cell
      go_wp2_with fail
      refine (spec_merge _ _ ls bs _ (HV.out.below hba) (HU.out.below hba) HCO.out HG.out HT.out).mono ?_
      rintro e w5 ⟨⟨r5, ps5, rfl, hO5, hps5⟩, hb5⟩
      have hdn : ∀ o, Below w5.heap.size w5 (w5.alloc o) := fun o => (Below.refl _ _).alloc (Nat.le_refl _) o
      obtain ⟨a5, c5, rfl⟩ := hO5.form
      obtain ⟨w6, hw6⟩ : ∃ w6, w5.alloc (.cells #[.slice a5 ps5.length c5] 32) = w6 := ⟨_, rfl⟩
      have h6 : M.One w6 w5.heap.size (.slice a5 ps5.length c5) 32 := by rw [← hw6]; exact heap_alloc_new _ _
      have h56 : Below w5.heap.size w5 w6 := by rw [← hw6]; exact hdn _
      have hW6 := hba.trans ((hb5.trans (h56.mono hb5.size)).mono hba.size)
      have HO6 := hide ((hO5.mono hba.size).down h56)
      have HPS := hide hps5
      have HB6 := hide h6
      have hx6 : BrsOf w6 (.slice a5 ps5.length c5) (mge ls bs) := by have := HO6.out.brs; rwa [hps5] at this
      have HX6 := hide hx6
      have d6 := h6.cell
      rw [← hw6] at d6
      have HW6 := hide hw6
      have HCP := hide HO6.out.capOk
      have HFA := hide (HGA.out.fine (by omega))
      clear hO5 hps5 h6 h56 hx6 hw6 hdn hb5 hba d0 d1
      go_wp2_with fail
      rw [HW6.out]
      refine (spec_gt _ (mge ls bs) ok _ HX6.out HFA.out HCP.out HBO.out).mono ?_
      rintro e w7 ⟨rfl, hb7⟩
      have hW7 := hW6.trans (hb7.mono hW6.size)
      have r1 := (HM2.out.down hW7).cell
      have r2 := (HM2.out.down hW7).thaw
      have d7 := (HB6.out.down hb7).cell
      have hbw := HAL.out.trans (hW7.mono HAL.out.size)
      have HSZ2 := HSZ.out
      have HO7 := hide (HO6.out.down hb7)
      clear d6 hb7 HX6 HB6 hW6 HO6 HW6
      cases ok
      · have HN2 := hide (HL.out.2 rfl)
        go_wp2
        exact bodyPost_ret (v := .tuple #[.agg #[.slice none 0 0], .bool false]) (by simp [results, Tryz.results66, go_sem, r1]) rfl ⟨⟨_, [], rfl, OwnP.nil _ _, HN2.out.symm⟩, hbw.setCell (by simp; omega) _⟩
      · have HN2 := hide (HL.out.1 rfl)
        go_wp2
        exact bodyPost_ret (v := .tuple #[.agg #[.slice a5 ps5.length c5], .bool true]) (by simp [results, Tryz.results66, go_sem, r1]) rfl ⟨⟨_, ps5, rfl, (HO7.out.set_low (by omega) _).mono (by omega), by rw [HPS.out, HN2.out]⟩, hbw.setCell (by simp; omega) _⟩
end Go.Proofs.YtfkeokglifpkoaaGreatDoor

/-
  The specification's TimersIn: each timer is put into the list in its place.
-/
import Derived.Test.YtcodllammndciaaWhUN
import Derived.Test.YtcodllammndciaaWhGS
import Derived.BigQuiet
import Derived.Deep.CutRange
namespace Go.Proofs.Ytcodllammndciaa
open Go.RowKit M
open Clk (upd upd_same upd_other)
open Go.Sort (grow)
namespace M
theorem news2' (w : World) (c0 c1 : Value) (t : TypeId) : ∀ (j : Nat) u, [c0, c1][j]? = some u → (w.alloc (.cells #[c0, c1] t)).cell? ((⟨w.heap.size, 0, none⟩ : Addr).add j) = some u := by
  intro j u hj
  match j, hj with
  | 0, hj => simp at hj; subst hj; simp [Addr.add]
  | 1, hj => simp at hj; subst hj; simp [Addr.add]
end M
set_option maxRecDepth 20000 in
set_option maxHeartbeats 8000000 in
theorem spec_timers (now : Int) (v : Value) (k : Nat) (rs : Nat → Rw) (w : World) (hv : RowsOf w v k rs) (hs : Small k rs) :
    Calls Try.prog 32 #[.agg #[.int .i64 now, v]] w fun e w' => ((GoodW now k rs ∧ ∃ r, e = .returned (.tuple #[r, .bool true]) ∧ w'.ownsRow w.heap.size 40 2 r (srtT (prs rs 24)).length (pvi (flat (srtT (prs rs 24))))) ∨ (¬ GoodW now k rs ∧ e = .returned (.tuple #[.slice none 0 0, .bool false]))) ∧ Below w.heap.size w w' := by
  obtain ⟨i0, hi0, hz0, hz1, hz2⟩ := info_parts info_timer
  have HV := hide hv
  have HS := hide hs
  obtain ⟨a, cap0, rfl, hr⟩ := hv
  have HR := hide hr
  clear hs hr
  obtain ⟨bg, hbg⟩ : ∃ b, decide (GoodW now k rs) = b := ⟨_, rfl⟩
  have HBg := hide hbg
  have hB0 := (Below.refl w.heap.size w).alloc (Nat.le_refl _) (.cells #[.int .i64 now, .slice a k cap0] 24)
  have HK0 := hide (Blk.fresh w #[.int .i64 now, .slice a k cap0] 2 (p2 (.int .i64 now) (.slice a k cap0)) 24 rfl)
  go_enter Try.func32, Try.ntmps32
  go_wp2_with fail
  refine (spec_good now _ k rs bg _ (HV.out.below hB0) HS.out HBg.out).mono ?_
  rintro e w1 ⟨rfl, hb⟩
  have hB1 := hB0.trans (hb.mono (by simp))
  have HK1 := hide (HK0.out.down hb)
  clear hb hB0 HK0
  cases bg with
  | false =>
    have HNo := hide (show ¬ GoodW now k rs from of_decide_eq_false hbg)
    clear HV HS HBg hbg HK1
    go_wp2
    exact bodyPost_ret (v := .tuple #[.slice none 0 0, .bool false]) (by simp [results, Try.results32, go_sem]) rfl ⟨.inr ⟨HNo.out, rfl⟩, hB1⟩
  | true =>
    have hG := of_decide_eq_true hbg
    obtain rfl : k = 24 := hG.2.1
    have HG := hide hG
    have ht := hG.2.2.2
    have HT60 := hide (show ∀ i, i ≤ 24 → tot rs i ≤ 60 from fun i hi => Nat.le_trans (tot_mono rs 24 hi) ht)
    clear hbg HBg hG ht HV
    obtain ⟨d0, d1, -, -⟩ := HK1.out.pair
    go_wp2_with fail
    clear d0 d1
    go_loopw [4, 17] (fun x y wr => ∃ i : Nat, i ≤ 24 ∧ y = .int .i64 (i : Int) ∧ Hid (TS w wr x (prs rs i))) (fun _ y _ => 24 - (intOf y).toNat)
    case atStart => exact ⟨0, by omega, rfl, hide ⟨by rw [srtT_len]; have e : srtT [] = [] := List.length_eq_zero_iff.1 (srtT_len []); show World.ownsRow _ _ _ _ _ 0 (pvi (flat (srtT []))); rw [e]; exact World.ownsRow_nil _ _ _ _, hB1⟩⟩
    case round =>
      rename World => wo
      obtain ⟨i, hi, rfl, HI⟩ := hrel
      obtain ⟨ax, cx, rfl⟩ := own_form HI.out.1
      by_cases hlt : i < 24
      · obtain ⟨bb, off, rfl, hbb, hrow⟩ := HR.out (by omega)
        obtain ⟨y, q1, q2⟩ := hrow i hlt
        have c0 := (HI.out.2.cell (p := ⟨bb, off + i, none⟩) hbb).trans q1
        obtain ⟨a1, c1, rfl, hr1⟩ := q2
        have HR1 := hide hr1
        have hni := HS.out.short.2 i hlt
        have hi0' : (0 : Int) ≤ (i : Int) := by omega
        have hi1 : (i : Int) < 24 := by omega
        obtain ⟨n, hn⟩ : ∃ n, (rs i).n = n := ⟨_, rfl⟩
        have HNn := hide hn
        rw [hn] at c0 hni HR1
        have HTt := hide (show tot rs i + n ≤ 60 by
          have h2 := HT60.out (i + 1) (by omega)
          rw [show tot rs (i + 1) = tot rs i + (rs i).n from rfl, HNn.out] at h2
          exact h2)
        clear hrow q1 hr1 hn
        go_wp2_with fail
        clear c0
        generalize hL0 : (srtT (prs rs i)).length = n0 at *
        have HL0 := hide hL0
        clear hL0
        go_loopw [4, 23] (fun x y wr => ∃ j : Nat, j ≤ n ∧ y = .int .i64 (j : Int) ∧ Hid (TS w wr x (prt rs i j))) (fun _ y _ => n - (intOf y).toNat)
        case atStart => exact ⟨0, by omega, rfl, hide (by rw [prt_zero]; exact HI.out)⟩
        case round =>
          rename World => wq
          obtain ⟨j, hj, rfl, HJ⟩ := hrel
          obtain ⟨hOw, hbq⟩ := HJ.out
          obtain ⟨aq, cq, rfl⟩ := own_form hOw
          by_cases hjl : j < n
          · obtain ⟨b2, off2, rfl, hb2, hrow2⟩ := HR1.out (by omega)
            have c0 := (hbq.cell (p := ⟨b2, off2 + j * 2, none⟩) hb2).trans (hrow2 (j * 2) (by omega))
            have c1' := (hbq.cell (p := ⟨b2, off2 + (j * 2 + 1), none⟩) hb2).trans (hrow2 (j * 2 + 1) (by omega))
            simp only [← Nat.add_assoc] at c1'
            have hj0 : (0 : Int) ≤ (j : Int) := by omega
            have hj1 : (j : Int) < (n : Int) := by omega
            obtain ⟨tm, htm⟩ : ∃ x, (rs i).f (j * 2) = x := ⟨_, rfl⟩
            obtain ⟨id, hid⟩ : ∃ x, (rs i).f (j * 2 + 1) = x := ⟨_, rfl⟩
            rw [htm] at c0
            rw [hid] at c1'
            have HTT := hide (show ((rs i).f (j * 2), (rs i).f (j * 2 + 1)) = (tm, id) by rw [htm, hid])
            obtain ⟨L, hL⟩ : ∃ L, srtT (prt rs i j) = L := ⟨_, rfl⟩
            obtain ⟨N, hN⟩ : ∃ N, L.length = N := ⟨_, rfl⟩
            have HL := hide hL
            have HN := hide hN
            have hN60 : N ≤ 60 := by rw [← hN, ← hL, srtT_len, prt_len]; have := HTt.out; omega
            rw [hL, hN] at hOw
            rw [hL, hN]
            have hbAl := (Below.refl wq.heap.size wq).alloc (Nat.le_refl _) (.cells #[.int .i64 tm, .int .i64 id] 40)
            have hbE := hbq.trans (hbAl.mono hbq.size)
            have hTm := Blk.fresh wq #[.int .i64 tm, .int .i64 id] 2 (p2 (.int .i64 tm) (.int .i64 id)) 40 rfl
            have hOE := owns_below hOw hbAl
            have HOE := hide hOE
            have HOw := hide hOw
            have HTm := hide hTm
            clear HJ hbq hrow2 htm hid hL hN HI HR HR1 HK1
            rcases hOw.2 with ⟨e, h0⟩ | ⟨g, cap, cur, e, hB, hg, hn, hc, hcs, ht⟩
            · simp only [Value.slice.injEq] at e
              obtain ⟨rfl, -, rfl⟩ := e
              subst h0
              have hL0 : L = [] := List.length_eq_zero_iff.1 HN.out
              clear hOw hOE hTm
              go_wp2_with fail
              generalize hWE : wq.alloc _ = wE at *
              have hsE : wq.heap.size < wE.heap.size := by rw [← hWE]; simp
              clear hWE c0 c1' hbAl
              generalize wq.heap.size = gE at *
              refine wp_loop_rounds 1 ?_; rw [rounds_succ]
              go_wp2_with fail
              go_quiet (fail)
              generalize hwx : World.drewN wE _ = wx
              have hbx : Below wE.heap.size wE wx := hwx ▸ below_drewN (Below.refl _ _) _
              have HFin := hide (show ∀ (W : World) (r : Value), W.ownsRow wx.heap.size 40 2 r (0 + 1) (pvi (flat (insT L (tm, id)))) → Below wx.heap.size wx W → TS w W r (prt rs i (j + 1)) from fun W r h hb => TS.next HL.out HN.out HTT.out (hbE.trans (hbx.mono hbE.size)) h hb)
              have hY := (HTm.out.down hbx).pair
              obtain ⟨d0, d1, -, -⟩ := hY
              have hbA := (Below.refl wx.heap.size wx).alloc (Nat.le_refl _) (.cells #[.int .i64 tm, .int .i64 id] 40)
              have HO := hide (World.ownsRow_nil (wx.alloc (.cells #[.int .i64 tm, .int .i64 id] 40)) wx.heap.size 40 2)
              clear hwx hbx HOE HOw HTm
              go_wp2_with (at_builtin; refine wpList_append_own _ rfl _ _ 52 rfl wx.heap.size 40 i0 _ 2 16 Try.underlying52 hi0 hz0 hz1 hz2 rfl (by decide) _ 0 _ rfl HO.out ⟨wx.heap.size, 0, none⟩ 1 1 [.int .i64 tm, .int .i64 id] rfl rfl (news2' wx _ _ _) (by intro u hu; simp at hu; rcases hu with rfl | rfl <;> rfl) (by unfold maxLen; omega) (by omega) (by simp) ?_)
              intro v7 w7 hown7 hgrow7 hne7
              have hb7 : Below wx.heap.size wx w7 := hbA.grown hgrow7 (by simp) (fun q hq => by cases hq)
              rcases hown7.2 with ⟨e7, _⟩ | ⟨g7, c7, cur7, rfl, _, _, hc7, _⟩
              · exact absurd e7 hne7
              · have HR2 := hide (HFin.out w7 (.slice (some ⟨g7, 0, none⟩) 1 c7) (by rw [hL0]; exact hown7) hb7)
                clear hown7 hgrow7 hne7 HO hbA HFin d0 d1
                go_wp2
                exact ⟨⟨j + 1, by omega, by go_num, HR2⟩, by simp [intOf]; omega⟩
            · simp only [Value.slice.injEq] at e
              obtain ⟨rfl, -, rfl⟩ := e
              have hgq : g < wq.heap.size := (Array.getElem?_eq_some_iff.1 hg).1
              clear hOw hOE hTm hg ht hcs cur
              go_wp2_with fail
              generalize hWE : wq.alloc _ = wE at *
              have hsE : wq.heap.size < wE.heap.size := by rw [← hWE]; simp
              clear hWE c0 c1' hbAl
              generalize wq.heap.size = gE at *
              have hgE : g < wE.heap.size := by omega
              go_loopw [9] (fun y wr => ∃ k : Nat, k ≤ N ∧ y = .int .i64 (k : Int) ∧ Hid (∀ q, q < k → ltP (L[q]!) (tm, id) = true) ∧ Hid (Below wE.heap.size wE wr)) (fun y _ => N - (intOf y).toNat)
              case atStart => exact ⟨0, by omega, rfl, hide (fun q h => by omega), hide (Below.refl _ _)⟩
              case round =>
                rename World => wr
                obtain ⟨k, hkN, rfl, HP, HBr⟩ := hrel
                by_cases hltk : k < N
                · obtain ⟨m0, m1⟩ := own_cellT (owns_below HOE.out HBr.out) (show k < L.length by rw [HN.out]; exact hltk)
                  obtain ⟨y0, y1, -, -⟩ := (HTm.out.down HBr.out).pair
                  have hk0 : (0 : Int) ≤ (k : Int) := by omega
                  have hk1 : (k : Int) < (N : Int) := by omega
                  obtain ⟨z, hz⟩ : ∃ z, ltP (L[k]!) (tm, id) = z := ⟨_, rfl⟩
                  have HZ := hide hz
                  obtain ⟨A, hA⟩ : ∃ A, (L[k]!).1 = A := ⟨_, rfl⟩
                  obtain ⟨I, hI⟩ : ∃ I, (L[k]!).2 = I := ⟨_, rfl⟩
                  have HZ2 := hide (show decide (A < tm ∨ A = tm ∧ I < id) = z by rw [← hA, ← hI]; exact hz)
                  rw [hA] at m0
                  rw [hI] at m1
                  clear hz hA hI
                  go_upto_region 11 with fail
                  go_cut [60] from 27 to 62 (fun bb wx => bb = .bool z ∧ Hid (Below wE.heap.size wE wx))
                  case first =>
                    by_cases h1 : A < tm
                    · have hd1 : decide (A < tm) = true := decide_eq_true h1
                      obtain rfl : z = true := by rw [← HZ2.out]; simp [h1]
                      go_quiet (fail)
                      go_wp2_with fail
                      go_meet
                      exact ⟨rfl, hide (below_drewN HBr.out _)⟩
                    · have hd1 : decide (A < tm) = false := decide_eq_false h1
                      by_cases h2 : A = tm
                      · subst h2
                        by_cases h3 : I < id
                        · have hd3 : decide (I < id) = true := decide_eq_true h3
                          obtain rfl : z = true := by rw [← HZ2.out]; simp [h3]
                          go_quiet (fail)
                          go_wp2_with fail
                          go_meet
                          exact ⟨rfl, hide (below_drewN HBr.out _)⟩
                        · have hd3 : decide (I < id) = false := decide_eq_false h3
                          obtain rfl : z = false := by rw [← HZ2.out]; simp [h3]
                          go_quiet (fail)
                          go_wp2_with fail
                          go_meet
                          exact ⟨rfl, hide (below_drewN HBr.out _)⟩
                      · have hd2 : (A == tm) = false := by simpa using h2
                        obtain rfl : z = false := by rw [← HZ2.out]; simp [h1, h2]
                        go_quiet (fail)
                        go_wp2_with fail
                        go_meet
                        exact ⟨rfl, hide (below_drewN HBr.out _)⟩
                  case rest =>
                    rename World => wx
                    obtain ⟨rfl, HBx⟩ := hcut
                    clear m0 m1 y0 y1 HBr HZ2
                    cases z with
                    | true =>
                      have HP2 := hide (show ∀ q, q < k + 1 → ltP (L[q]!) (tm, id) = true from fun q hq => by
                        rcases (show q < k ∨ q = k by omega) with h | h
                        · exact HP.out q h
                        · rw [h]; exact HZ.out)
                      clear HP HZ
                      go_wp2
                      exact ⟨⟨k + 1, by omega, by go_num, HP2, HBx⟩, by simp [intOf]; omega⟩
                    | false =>
                      have HLast := hide (show k < L.length → ltP (L[k]!) (tm, id) = false from fun _ => HZ.out)
                      clear HZ
                      have hgl : g < wx.heap.size := Nat.lt_of_lt_of_le hgE HBx.out.size
                      have HV := hide (owns_below HOE.out HBx.out)
                      have HBo := hide (show ∀ W, Below wx.heap.size wx W → W.cell? ⟨gE, 0, none⟩ = some (.int .i64 tm) ∧ W.cell? ⟨gE, 1, none⟩ = some (.int .i64 id) from fun W hb => by
                        have h := (HTm.out.down HBx.out).down hb
                        exact ⟨h.pair.1, h.pair.2.1⟩)
                      have HPv := hide (insT_pv (t := (tm, id)) (k := k) (L := L) HP.out HLast.out (by rw [HN.out]; omega))
                      have HT1 := hide (newsT_take HV.out k)
                      have HTl := hide (show (pvi (flat (L.take k))).length = k * 2 from by rw [pvi_len, flat_len, List.length_take, HN.out]; omega)
                      have HDr := hide (show ∀ W, Below wx.heap.size wx W → ∀ j u, (pvi (flat (L.drop k)))[j]? = some u → W.cell? ((⟨g, k * 2, none⟩ : Addr).add j) = some u from fun W hb => newsT_drop HV.out hgl (by rw [HN.out]; omega) hb)
                      have HDl := hide (show (pvi (flat (L.drop k))).length = (N - k) * 2 from by rw [pvi_len, flat_len, List.length_drop, HN.out])
                      have HO1 := hide (pvi_one (flat (L.take k)))
                      have HO2 := hide (pvi_one (flat (L.drop k)))
                      have HNil := hide (World.ownsRow_nil wx wx.heap.size 40 2)
                      have HFin := hide (show ∀ (W : World) (r : Value), W.ownsRow wx.heap.size 40 2 r (N + 1) (pvi (flat (insT L (tm, id)))) → Below wx.heap.size wx W → TS w W r (prt rs i (j + 1)) from fun W r h hb => TS.next HL.out HN.out HTT.out (hbE.trans (HBx.out.mono hbE.size)) h hb)
                      clear HP HLast HBx HV HOE HTm HOw
                      generalize pvi (flat (L.take k)) = P1 at *
                      generalize pvi (flat (L.drop k)) = P2 at *
                      have hkc : k ≤ cq := by omega
                      have hki : (k : Int) ≤ (cq : Int) := by omega
                      have hkN' : (k : Int) ≤ (N : Int) := by omega
                      have hk00 : (0 : Int) ≤ (k : Int) := by omega
                      go_wp2_with (at_builtin; refine wpList_append_own _ rfl _ _ 52 rfl wx.heap.size 40 i0 _ 2 16 Try.underlying52 hi0 hz0 hz1 hz2 rfl (by decide) _ 0 _ rfl HNil.out ⟨g, 0, none⟩ k cq P1 rfl HTl.out HT1.out HO1.out (by unfold maxLen; omega) (by omega) (by omega) ?_)
                      intro v7 w7 hown7 hgrow7 _
                      obtain ⟨a7, c7, rfl⟩ := own_form hown7
                      have hb7 : Below wx.heap.size wx w7 := (Below.refl _ _).grown hgrow7 (Nat.le_refl _) (fun q hq => by cases hq)
                      have hbA := (Below.refl w7.heap.size w7).alloc (Nat.le_refl _) (.cells #[.int .i64 tm, .int .i64 id] 40)
                      have HO7 := hide (owns_below hown7 hbA)
                      have hb8 := hb7.trans (hbA.mono hb7.size)
                      have hs7 := hb7.size
                      obtain ⟨d0, d1⟩ := HBo.out w7 hb7
                      clear hown7 hgrow7 HT1 HTl HO1 HNil
                      go_wp2_with (at_builtin; refine wpList_append_own _ rfl _ _ 52 rfl wx.heap.size 40 i0 _ 2 16 Try.underlying52 hi0 hz0 hz1 hz2 rfl (by decide) _ k _ rfl HO7.out ⟨w7.heap.size, 0, none⟩ 1 1 [.int .i64 tm, .int .i64 id] rfl rfl (news2' w7 _ _ _) (by intro u hu; simp at hu; rcases hu with rfl | rfl <;> rfl) (by unfold maxLen; omega) (by omega) (by simp; omega) ?_)
                      intro v9 w9 hown9 hgrow9 hne9
                      have hb9 : Below wx.heap.size wx w9 := hb8.grown hgrow9 (by simp; omega) (fun q hq => (HO7.out.lt q hq).1)
                      rcases hown9.2 with ⟨e9, h9⟩ | ⟨g9, c9, cur9, rfl, _, _, hc9, hm9, _⟩
                      · omega
                      · have HO9 := hide hown9
                        have hs9 := hb9.size
                        clear hown9 hgrow9 hne9 HO7 hbA hb8 hb7 d0 d1 HBo
                        have hck' : ¬ k = cq := by omega
                        have hNk : k + 1 + (N - k) = N + 1 := by omega
                        go_wp2_with (at_builtin; refine wpList_append_own _ rfl _ _ 52 rfl wx.heap.size 40 i0 _ 2 16 Try.underlying52 hi0 hz0 hz1 hz2 rfl (by decide) _ (k + 1) _ rfl HO9.out ⟨g, k * 2, none⟩ (N - k) (cq - k) P2 rfl HDl.out (HDr.out _ hb9) HO2.out (by unfold maxLen; omega) (by omega) (by omega) ?_)
                        intro v10 w10 hown10 hgrow10 _
                        have hb10 : Below wx.heap.size wx w10 := hb9.grown hgrow10 hs9 (fun q hq => (HO9.out.lt q hq).1)
                        obtain ⟨a10, c10, rfl⟩ := own_form hown10
                        have HR2 := hide (HFin.out w10 (.slice a10 (N + 1) c10) (by rw [HPv.out]; simpa using hown10) hb10)
                        clear hown10 hgrow10 HO9 HPv HFin
                        go_wp2
                        exact ⟨⟨j + 1, by omega, by go_num, HR2⟩, by simp [intOf]; omega⟩
                · obtain rfl : k = N := by omega
                  have HLast := hide (show k < L.length → ltP (L[k]!) (tm, id) = false from fun h => by rw [HN.out] at h; omega)
                  clear hltk
                  go_wp2_with fail
                  go_quiet (fail)
                  generalize hwx : World.drewN wr _ = wx
                  have HBx := hide (show Below wE.heap.size wE wx from hwx ▸ below_drewN HBr.out _)
                  clear hwx HBr
                  have hgl : g < wx.heap.size := Nat.lt_of_lt_of_le hgE HBx.out.size
                  have HV := hide (owns_below HOE.out HBx.out)
                  have HBo := hide (show ∀ W, Below wx.heap.size wx W → W.cell? ⟨gE, 0, none⟩ = some (.int .i64 tm) ∧ W.cell? ⟨gE, 1, none⟩ = some (.int .i64 id) from fun W hb => by
                    have h := (HTm.out.down HBx.out).down hb
                    exact ⟨h.pair.1, h.pair.2.1⟩)
                  have HPv := hide (insT_pv (t := (tm, id)) (k := k) (L := L) HP.out HLast.out (by rw [HN.out]; omega))
                  have HT1 := hide (newsT_take HV.out k)
                  have HTl := hide (show (pvi (flat (L.take k))).length = k * 2 from by rw [pvi_len, flat_len, List.length_take, HN.out]; omega)
                  have HDr := hide (show ∀ W, Below wx.heap.size wx W → ∀ j u, (pvi (flat (L.drop k)))[j]? = some u → W.cell? ((⟨g, k * 2, none⟩ : Addr).add j) = some u from fun W hb => newsT_drop HV.out hgl (by rw [HN.out]; omega) hb)
                  have HDl := hide (show (pvi (flat (L.drop k))).length = (k - k) * 2 from by rw [pvi_len, flat_len, List.length_drop, HN.out])
                  have HO1 := hide (pvi_one (flat (L.take k)))
                  have HO2 := hide (pvi_one (flat (L.drop k)))
                  have HNil := hide (World.ownsRow_nil wx wx.heap.size 40 2)
                  have HFin := hide (show ∀ (W : World) (r : Value), W.ownsRow wx.heap.size 40 2 r (k + 1) (pvi (flat (insT L (tm, id)))) → Below wx.heap.size wx W → TS w W r (prt rs i (j + 1)) from fun W r h hb => TS.next HL.out HN.out HTT.out (hbE.trans (HBx.out.mono hbE.size)) h hb)
                  clear HP HLast HBx HV HOE HTm HOw
                  generalize pvi (flat (L.take k)) = P1 at *
                  generalize pvi (flat (L.drop k)) = P2 at *
                  have hkc : k ≤ cq := by omega
                  have hki : (k : Int) ≤ (cq : Int) := by omega
                  have hkN' : (k : Int) ≤ (k : Int) := by omega
                  have hk00 : (0 : Int) ≤ (k : Int) := by omega
                  go_wp2_with (at_builtin; refine wpList_append_own _ rfl _ _ 52 rfl wx.heap.size 40 i0 _ 2 16 Try.underlying52 hi0 hz0 hz1 hz2 rfl (by decide) _ 0 _ rfl HNil.out ⟨g, 0, none⟩ k cq P1 rfl HTl.out HT1.out HO1.out (by unfold maxLen; omega) (by omega) (by omega) ?_)
                  intro v7 w7 hown7 hgrow7 _
                  obtain ⟨a7, c7, rfl⟩ := own_form hown7
                  have hb7 : Below wx.heap.size wx w7 := (Below.refl _ _).grown hgrow7 (Nat.le_refl _) (fun q hq => by cases hq)
                  have hbA := (Below.refl w7.heap.size w7).alloc (Nat.le_refl _) (.cells #[.int .i64 tm, .int .i64 id] 40)
                  have HO7 := hide (owns_below hown7 hbA)
                  have hb8 := hb7.trans (hbA.mono hb7.size)
                  have hs7 := hb7.size
                  obtain ⟨d0, d1⟩ := HBo.out w7 hb7
                  clear hown7 hgrow7 HT1 HTl HO1 HNil
                  go_wp2_with (at_builtin; refine wpList_append_own _ rfl _ _ 52 rfl wx.heap.size 40 i0 _ 2 16 Try.underlying52 hi0 hz0 hz1 hz2 rfl (by decide) _ k _ rfl HO7.out ⟨w7.heap.size, 0, none⟩ 1 1 [.int .i64 tm, .int .i64 id] rfl rfl (news2' w7 _ _ _) (by intro u hu; simp at hu; rcases hu with rfl | rfl <;> rfl) (by unfold maxLen; omega) (by omega) (by simp; omega) ?_)
                  intro v9 w9 hown9 hgrow9 hne9
                  have hb9 : Below wx.heap.size wx w9 := hb8.grown hgrow9 (by simp; omega) (fun q hq => (HO7.out.lt q hq).1)
                  rcases hown9.2 with ⟨e9, h9⟩ | ⟨g9, c9, cur9, rfl, _, _, hc9, hm9, _⟩
                  · omega
                  · have HO9 := hide hown9
                    have hs9 := hb9.size
                    clear hown9 hgrow9 hne9 HO7 hbA hb8 hb7 d0 d1 HBo
                    have hP2 : P2 = [] := List.length_eq_zero_iff.1 (by rw [HDl.out]; omega)
                    have HPw := hide (show pvi (flat (insT L (tm, id))) = P1 ++ [.int .i64 tm, .int .i64 id] from by rw [HPv.out, hP2, List.append_nil])
                    clear HPv HDr HDl HO2 hP2
                    have hsub : k - k = 0 := Nat.sub_self _
                    have hemp : ∀ (W : World) (q : Nat) (j : Nat) (u : Value), ([] : List Value)[j]? = some u → W.cell? ((⟨g, q, none⟩ : Addr).add j) = some u := fun W q j u h => by simp at h
                    rcases (show cq = k ∨ ¬ cq = k by omega) with hck | hck
                    · subst hck
                      go_wp2_with (at_builtin; refine wpList_append_own _ rfl _ _ 52 rfl wx.heap.size 40 i0 _ 2 16 Try.underlying52 hi0 hz0 hz1 hz2 rfl (by decide) _ (cq + 1) _ rfl HO9.out ⟨g, 0, none⟩ 0 0 [] rfl rfl (hemp _ 0) (by intro u hu; simp at hu) (by unfold maxLen; omega) (by omega) (by omega) ?_)
                      intro v10 w10 hown10 hgrow10 _
                      have hb10 : Below wx.heap.size wx w10 := hb9.grown hgrow10 hs9 (fun q hq => (HO9.out.lt q hq).1)
                      obtain ⟨a10, c10, rfl⟩ := own_form hown10
                      have HR2 := hide (HFin.out w10 (.slice a10 (cq + 1) c10) (by rw [HPw.out]; simpa using hown10) hb10)
                      clear hown10 hgrow10 HO9 HPw HFin
                      go_wp2
                      exact ⟨⟨j + 1, by omega, by go_num, HR2⟩, by simp [intOf]; omega⟩
                    · have hck' : ¬ k = cq := fun e => hck e.symm
                      go_wp2_with (at_builtin; refine wpList_append_own _ rfl _ _ 52 rfl wx.heap.size 40 i0 _ 2 16 Try.underlying52 hi0 hz0 hz1 hz2 rfl (by decide) _ (k + 1) _ rfl HO9.out ⟨g, k * 2, none⟩ 0 (cq - k) [] rfl rfl (hemp _ (k * 2)) (by intro u hu; simp at hu) (by unfold maxLen; omega) (by omega) (by omega) ?_)
                      intro v10 w10 hown10 hgrow10 _
                      have hb10 : Below wx.heap.size wx w10 := hb9.grown hgrow10 hs9 (fun q hq => (HO9.out.lt q hq).1)
                      obtain ⟨a10, c10, rfl⟩ := own_form hown10
                      have HR2 := hide (HFin.out w10 (.slice a10 (k + 1) c10) (by rw [HPw.out]; simpa using hown10) hb10)
                      clear hown10 hgrow10 HO9 HPw HFin
                      go_wp2
                      exact ⟨⟨j + 1, by omega, by go_num, HR2⟩, by simp [intOf]; omega⟩
          · obtain rfl : j = n := by omega
            have HE := hide (show TS w wq (.slice aq (srtT (prt rs i j)).length cq) (prs rs (i + 1)) from by rw [← prt_full, HNn.out]; exact ⟨hOw, hbq⟩)
            clear HJ hOw hbq HI HR HR1 HK1
            generalize (srtT (prt rs i j)).length = nn at *
            go_wp2
            exact ⟨⟨i + 1, by omega, by go_num, HE⟩, by simp [intOf]; omega⟩
      · obtain rfl : i = 24 := by omega
        obtain ⟨hOw, hbo⟩ := HI.out
        have HOw := hide hOw
        obtain ⟨nn, hnn⟩ : ∃ nn, (srtT (prs rs 24)).length = nn := ⟨_, rfl⟩
        rw [hnn] at hOw
        have HOn := hide (show wo.ownsRow w.heap.size 40 2 (.slice ax nn cx) (srtT (prs rs 24)).length (pvi (flat (srtT (prs rs 24)))) from by rw [hnn]; exact hOw)
        rw [hnn]
        clear hOw HI HR HK1 HOw hnn
        go_wp2
        exact bodyPost_ret (v := .tuple #[.slice ax nn cx, .bool true]) (by simp [results, Try.results32, go_sem]) rfl ⟨.inl ⟨HG.out, _, rfl, HOn.out⟩, hbo⟩
end Go.Proofs.Ytcodllammndciaa

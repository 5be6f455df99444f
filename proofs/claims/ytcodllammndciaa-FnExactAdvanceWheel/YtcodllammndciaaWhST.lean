/-
  The specification's tick, walked.
-/
import Derived.Test.YtcodllammndciaaWhSK
namespace Go.Proofs.Ytcodllammndciaa
open Go.RowKit M
open Clk (upd upd_same upd_other)
open Go.Sort (grow)
set_option maxRecDepth 20000 in
set_option maxHeartbeats 16000000 in
theorem l5_tick (B gH cH : Nat) (rs : Nat → Rw) (X : Nat → Value) (now : Int) (w : World) (hO : OW 24 w B (.slice (some ⟨gH, 0, none⟩) 24 cH) rs X) (hL : LiesAll now rs) (htot : tot rs 24 ≤ 60) (hn : 0 ≤ now ∧ now + 1 ≤ 100000) (hB : B ≤ w.heap.size) :
    Calls Try.prog 62 #[.agg #[.int .i64 now, .slice (some ⟨gH, 0, none⟩) 24 cH]] w fun e w' => ∃ r X', e = .returned (.tuple #[.agg #[.int .i64 (now + 1), .slice (some ⟨gH, 0, none⟩) 24 cH], r, .int .i64 (tickW (now + 1) rs : Nat)]) ∧ OW 24 w' B (.slice (some ⟨gH, 0, none⟩) 24 cH) (tickR (now + 1) rs).1 X' ∧ w'.ownsRow w.heap.size 3 1 r (tickR (now + 1) rs).2.length (pvi (srt (tickR (now + 1) rs).2)) ∧ KpI w w' ∧ Below B w w' := by
  obtain ⟨i0, hi, hz0, hz1, hz2⟩ := info_parts info_timer
  obtain ⟨tn, htn⟩ : ∃ tn : Nat, now + 1 = (tn : Int) := ⟨(now + 1).toNat, by omega⟩
  have htn1 : 1 ≤ tn ∧ tn ≤ 100000 := by omega
  have hg : GoodN (tn : Int) := by unfold GoodN; omega
  have hLt : LiesAll ((tn : Int) - 1) rs := by rw [← htn, show now + 1 - 1 = now by omega]; exact hL
  have HS := hide (fun d hd => stL_ok (rs := rs) hg hLt d hd)
  have HG := hide hg
  have hwn : IntKind.i64.wrap (now + 1) = (tn : Int) := by rw [IntKind.wrap_i64]; omega
  obtain ⟨W0, hW0⟩ : ∃ W0, ((w.alloc (.cells #[.int .i64 (tn : Int), .slice (some ⟨gH, 0, none⟩) 24 cH] 24)).alloc (.cells #[.int .i64 0, .slice none 0 0] 24)) = W0 := ⟨_, rfl⟩
  have HW0 := hide hW0
  have HT0 := hide (show SkI B gH cH (tn : Int) w W0 (stL (tn : Int) rs 0) X (.slice none 0 0) from by
    subst hW0
    have h2 := Blk.fresh (w.alloc (.cells #[.int .i64 (tn : Int), .slice (some ⟨gH, 0, none⟩) 24 cH] 24)) #[.int .i64 0, .slice none 0 0] 2 (p2 (.int .i64 0) (.slice none 0 0)) 24 rfl
    rw [World.size_alloc] at h2
    have h1 := (Blk.fresh w #[.int .i64 (tn : Int), .slice (some ⟨gH, 0, none⟩) 24 cH] 2 (p2 (.int .i64 (tn : Int)) (.slice (some ⟨gH, 0, none⟩) 24 cH)) 24 rfl).alloc (.cells #[.int .i64 0, .slice none 0 0] 24)
    have hb := ((Below.refl w.heap.size w).alloc (Nat.le_refl _) (.cells #[.int .i64 (tn : Int), .slice (some ⟨gH, 0, none⟩) 24 cH] 24)).alloc (by simp) (.cells #[.int .i64 0, .slice none 0 0] 24)
    have e : srt [] = [] := List.length_eq_zero_iff.1 (srt_len [])
    refine ⟨hO.down hb, ?_, h1, h2, fun B' u n xs hu => owns_below hu hb, hb.mono hB, hB⟩
    show World.ownsRow _ _ _ _ _ 0 (pvi (srt []))
    rw [e]; exact World.ownsRow_nil _ _ _ _)
  rw [htn]
  have HH := hide htn
  clear hO hL hLt hg hW0
  go_enter Try.func62, Try.ntmps62
  go_wp2_with fail
  rw [HW0.out]
  clear HW0
  go_loopw [5, 6, 7] (fun x y z wr => ∃ (d m : Nat) (X : Nat → Value), d ≤ 2 ∧ z = .int .i64 (2 - (d : Int)) ∧ y = .int .i64 (m : Int) ∧ Hid (m = wkL (tn : Int) rs d) ∧ m ≤ 60 * d ∧ Hid (SkI B gH cH (tn : Int) w wr (stL (tn : Int) rs d) X x)) (fun _ _ z _ => (intOf z).toNat)
  case atStart => exact ⟨0, 0, X, by omega, rfl, rfl, hide rfl, by omega, HT0⟩
  case round =>
    rename World => wo
    obtain ⟨d, m, X1, hd2, rfl, rfl, HM, hm, HT⟩ := hrel
    obtain ⟨a5, c5, hx5⟩ := own_form HT.out.due
    obtain ⟨D, hD⟩ : ∃ D, (stL (tn : Int) rs d).2.length = D := ⟨_, rfl⟩
    rw [hD] at hx5
    subst hx5
    have HDn := hide hD
    clear hD
    by_cases hlt : d < 2
    · obtain ⟨l, hld⟩ : ∃ l, 2 - d = l := ⟨_, rfl⟩
      have hl2 : l ≤ 2 := by omega
      have hl1 : 1 ≤ l := by omega
      have hlz : 2 - (d : Int) = (l : Int) := by omega
      rw [hlz]
      have hlpos : (l : Int) > 0 := by omega
      have hlp0 : 0 < l := by omega
      have hlpd : decide (0 < l) = true := decide_eq_true hlp0
      obtain ⟨u, hu⟩ : ∃ u : Nat, pw l = (u : Int) := ⟨(pw l).toNat, by have := pw_le l (by omega); omega⟩
      have hu1 : 1 ≤ u := by have := pw_le l (by omega); omega
      have hu2 : u ≤ 512 := by have := pw_le l (by omega); omega
      have HU := hide (show ∀ W, Calls Try.prog 47 #[.int .i64 (l : Int)] W fun e w' => e = .returned (.int .i64 (u : Int)) ∧ w' = W from fun W => by rw [← hu]; exact l5_pow l W (by omega))
      obtain ⟨r, hr⟩ : ∃ r, tn % u = r := ⟨_, rfl⟩
      have hmod : (tn : Int).tmod (u : Int) = (r : Int) := by rw [← hr]; rfl
      have hu0 : ¬ (u : Int) = 0 := by omega
      have hum : (u : Int) ≠ -1 := by omega
      have hub : ((u : Int) == 0) = false := by simp; omega
      have hwr : IntKind.i64.wrap (r : Int) = (r : Int) := by rw [IntKind.wrap_i64]; have : r ≤ tn := by rw [← hr]; exact Nat.mod_le _ _
                                                              omega
      have HS1 := hide (show stL (tn : Int) rs (d + 1) = lev (tn : Int) l (stL (tn : Int) rs d) ∧ wkL (tn : Int) rs (d + 1) = wkL (tn : Int) rs d + wk (tn : Int) l (stL (tn : Int) rs d) from by rw [← hld]; exact ⟨rfl, rfl⟩)
      obtain ⟨x0, x1, -, -⟩ := HT.out.bx.pair
      by_cases hz : r = 0
      · have hzt : (tn : Int) % pw l = 0 := by
          rw [hu, show (tn : Int) % (u : Int) = ((tn % u : Nat) : Int) from rfl, hr, hz]; rfl
        have hne : ((r : Int) != 0) = false := by rw [hz]; rfl
        obtain ⟨q, hq⟩ : ∃ q, tn / u = q := ⟨_, rfl⟩
        have hqt : q ≤ tn := by rw [← hq]; exact Nat.div_le_self _ _
        have hdiv : (tn : Int).tdiv (u : Int) = (q : Int) := by rw [← hq]; rfl
        have hwq : IntKind.i64.wrap (q : Int) = (q : Int) := by rw [IntKind.wrap_i64]; omega
        obtain ⟨im, him⟩ : ∃ im, q % 8 = im := ⟨_, rfl⟩
        have him8 : (q : Int).tmod 8 = (im : Int) := by rw [Int.tmod_eq_emod_of_nonneg (by omega)]; omega
        have hwi : IntKind.i64.wrap (im : Int) = (im : Int) := by rw [IntKind.wrap_i64]; omega
        obtain ⟨l8, hl8⟩ : ∃ l8, l * 8 = l8 := ⟨_, rfl⟩
        have hwl : IntKind.i64.wrap ((l : Int) * 8) = (l8 : Int) := by rw [IntKind.wrap_i64]; omega
        obtain ⟨kk, hkk⟩ : ∃ kk, l * 8 + im = kk := ⟨_, rfl⟩
        have hwk : IntKind.i64.wrap ((l8 : Int) + (im : Int)) = (kk : Int) := by rw [IntKind.wrap_i64]; omega
        have hk24 : kk < 24 := by omega
        have HK := hide (show kOf l (tn : Int) = kk from by rw [kOf_nat hu, hq, him, hkk])
        have hk0 : (0 : Int) ≤ (kk : Int) := by omega
        have hk1 : (kk : Int) < 24 := by omega
        have hrn : ((stL (tn : Int) rs d).1 kk).n ≤ 60 := by
          have h1 := (HS.out d (by omega)).2
          have h2 := row_tot (stL (tn : Int) rs d).1 (i := kk) hk24
          omega
        obtain ⟨n, hn'⟩ : ∃ n, ((stL (tn : Int) rs d).1 kk).n = n := ⟨_, rfl⟩
        obtain ⟨f, hf⟩ : ∃ f, ((stL (tn : Int) rs d).1 kk).f = f := ⟨_, rfl⟩
        have HRO2 := hide (show RowOk (tn : Int) ⟨n, f⟩ n from fun j hj => by
          have h1 := (HS.out d (by omega)).1
          rw [show 3 - d = l + 1 by omega] at h1
          have h2 := row_taken hl2 HG.out hzt h1
          rw [HK.out] at h2
          have h := h2 j (by rw [hn']; exact hj)
          rw [hf] at h
          exact h)
        have HLv := hide (show lev (tn : Int) l (stL (tn : Int) rs d) = proc (tn : Int) ⟨n, f⟩ n (upd (stL (tn : Int) rs d).1 kk noRow, (stL (tn : Int) rs d).2) ∧ wk (tn : Int) l (stL (tn : Int) rs d) = n from by
          unfold lev wk; rw [if_pos hzt, if_pos hzt, HK.out, ← hn', ← hf]; exact ⟨rfl, rfl⟩)
        have hn60 : n ≤ 60 := by rw [← hn']; exact hrn
        have HMd0 := hide (show Mid (tn : Int) l (upd (stL (tn : Int) rs d).1 kk noRow) ∧ tot (upd (stL (tn : Int) rs d).1 kk noRow) 24 + (stL (tn : Int) rs d).2.length + n = tot rs 24 from by
          obtain ⟨h1, h2⟩ := HS.out d (by omega)
          rw [show 3 - d = l + 1 by omega] at h1
          have h3 := tot_upd (stL (tn : Int) rs d).1 kk noRow 24
          rw [if_pos (by omega), if_pos (by omega), hn'] at h3
          have h4 : noRow.n = 0 := rfl
          exact ⟨by rw [← HK.out]; exact mid_empty hzt h1, by omega⟩)
        obtain ⟨ar, cr, hxk⟩ := own_form (HT.out.ow.row kk hk24)
        rw [hn'] at hxk
        have HXk := hide hxk
        have HNf := hide (show ((stL (tn : Int) rs d).1 kk).n = n ∧ ((stL (tn : Int) rs d).1 kk).f = f from ⟨hn', hf⟩)
        clear hzt hz hr hu hq him hn' hf hrn HK hkk hl8 hxk
        go_wp2_with fail
        go_big_quiet (exact Calls.quiet_of_same (HU.out _))
        have HT3 := hide (HT.out.down (below_drewN (Below.refl wo.heap.size wo) nq))
        generalize wo.drewN nq = wp at *
        clear HT x0 x1
        obtain ⟨x0, x1, -, -⟩ := HT3.out.bx.pair
        go_wp2_with fail
        go_big_quiet (exact Calls.quiet_of_same (HU.out _))
        have HT4 := hide (HT3.out.down (below_drewN (Below.refl wp.heap.size wp) nq))
        generalize wp.drewN nq = w4 at *
        clear HT3 x0 x1
        obtain ⟨x0, x1, -, -⟩ := HT4.out.bx.pair
        obtain ⟨c0, c1⟩ := ow_cell HT4.out.ow hk24
        rw [HXk.out] at c0
        obtain ⟨hT5, hA5⟩ := HT4.out.empty hk24
        rw [HNf.out.1, HNf.out.2, HXk.out] at hA5
        obtain ⟨s0, hs0⟩ : ∃ s0, (upd (stL (tn : Int) rs d).1 kk noRow, (stL (tn : Int) rs d).2) = s0 := ⟨_, rfl⟩
        rw [hs0] at hT5 HLv
        have HMd := hide (show Mid (tn : Int) l s0.1 ∧ tot s0.1 24 + s0.2.length + n = tot rs 24 from by rw [← hs0]; exact HMd0.out)
        have HI0 := hide (show SkI B gH cH (tn : Int) w _ (proc (tn : Int) ⟨n, f⟩ 0 s0) _ (.slice a5 D c5) from hT5)
        have HA0 := hide hA5
        clear hT5 hA5 hs0 HMd0 HNf HU
        go_wp2_with fail
        clear x0 x1 c0 c1 HT4
        go_loopw [5, 6, 50] (fun x y z wr => ∃ (j m' : Nat) (X : Nat → Value), j ≤ n ∧ z = .int .i64 (j : Int) ∧ y = .int .i64 (m' : Int) ∧ Hid (m' = wkL (tn : Int) rs d + j) ∧ m' ≤ 60 * d + j ∧ Hid (SkI B gH cH (tn : Int) w wr (proc (tn : Int) ⟨n, f⟩ j s0) X x) ∧ Hid (AsideT wr B X (.slice ar n cr) n f)) (fun _ _ z _ => n - (intOf z).toNat)
        case atStart => exact ⟨0, m, _, by omega, rfl, rfl, hide (by rw [HM.out]; rfl), by omega, HI0, HA0⟩
        case round =>
          rename World => wq
          obtain ⟨j, m', X3, hjn, rfl, rfl, HMj, hmj, HTj, HAj⟩ := hrel
          obtain ⟨a7, c7, hx7⟩ := own_form HTj.out.due
          obtain ⟨D7, hD7⟩ : ∃ D7, (proc (tn : Int) ⟨n, f⟩ j s0).2.length = D7 := ⟨_, rfl⟩
          rw [hD7] at hx7
          subst hx7
          have HD7 := hide hD7
          clear hD7
          by_cases hjl : j < n
          · obtain ⟨aj', cj', hxj, hnj, hVj⟩ := own_V HAj.out.1
            cases hxj
            obtain ⟨b, rfl, hBb, hOT⟩ := hVj (by omega)
            have c1 := hOT.cell (show j * 2 < n * 2 by omega)
            have c2 := hOT.cell (show j * 2 + 1 < n * 2 by omega)
            obtain ⟨tm, htm⟩ : ∃ x, f (j * 2) = x := ⟨_, rfl⟩
            obtain ⟨id, hid⟩ : ∃ x, f (j * 2 + 1) = x := ⟨_, rfl⟩
            rw [htm] at c1
            rw [hid] at c2
            have hj0 : (0 : Int) ≤ (j : Int) := by omega
            have hj1 : (j : Int) < (n : Int) := by omega
            have HPj := hide (proc_ok (t := (tn : Int)) (l := l) (r := ⟨n, f⟩) (j := j) (s := s0) (fun j' hj' => HRO2.out j' (by omega)) HMd.out.1)
            have HPs := hide (show proc (tn : Int) ⟨n, f⟩ (j + 1) s0 = (if tm = (tn : Int) then ((proc (tn : Int) ⟨n, f⟩ j s0).1, (proc (tn : Int) ⟨n, f⟩ j s0).2 ++ [id]) else (putR (proc (tn : Int) ⟨n, f⟩ j s0).1 (tn : Int) tm id, (proc (tn : Int) ⟨n, f⟩ j s0).2)) from by
              rw [← htm, ← hid]; rfl)
            have HRj := hide (show tm = (tn : Int) ∨ (slotA (tn : Int) tm).2 = true from by
              have := HRO2.out j hjl
              rw [show (Rw.mk n f).f (j * 2) = tm from htm] at this
              exact this)
            have hdn := (Below.refl wq.heap.size wq).alloc (Nat.le_refl _) (.cells #[.int .i64 tm, .int .i64 id] 40)
            have HTa := hide (HTj.out.down hdn)
            have HAa := hide (HAj.out.down hdn)
            have HTm := hide (Blk.fresh wq #[.int .i64 tm, .int .i64 id] 2 (p2 (.int .i64 tm) (.int .i64 id)) 40 rfl)
            obtain ⟨y0, y1, -, -⟩ := HTm.out.pair
            obtain ⟨x0, x1, -, -⟩ := HTa.out.bx.pair
            have HMs := hide (show m' + 1 = wkL (tn : Int) rs d + (j + 1) from by rw [HMj.out]; omega)
            have hD60 : D7 ≤ 200 := by have := HPj.out.2; have := HMd.out.2; have := HD7.out; omega
            have HSh := hide (show tot (proc (tn : Int) ⟨n, f⟩ j s0).1 24 ≤ 60 from by have := HPj.out.2; have := HMd.out.2; omega)
            clear hVj hOT htm hid HTj HAj hdn HMj HPj HI0 HA0
            by_cases he : tm = (tn : Int)
            · have hd : (tm == (tn : Int)) = true := by simp [he]
              have HE := hide he
              have HPu := hide (put_int w.heap.size (.slice a7 D7 c7) (srt (proc (tn : Int) ⟨n, f⟩ j s0).2) id (wq.alloc (.cells #[.int .i64 tm, .int .i64 id] 40)) (by rw [srt_len]; have h := HTa.out.due; rw [HD7.out] at h ⊢; exact h) (by rw [srt_len, HD7.out]; omega))
              clear he
              go_wp2_with fail
              refine HPu.out.mono ?_
              rintro e w7 ⟨⟨r7, rfl, ho7⟩, hb7⟩
              rw [srt_len] at ho7
              have HT7 := hide (show SkI B gH cH (tn : Int) w w7 (proc (tn : Int) ⟨n, f⟩ (j + 1) s0) X3 r7 from by
                rw [HPs.out, if_pos HE.out]; exact HTa.out.putI hb7 ho7)
              have HA7 := hide (HAa.out.down hb7)
              obtain ⟨a8, c8, rfl⟩ := own_form ho7
              clear HPs HRj HTa HAa HPu ho7 hb7 x0 x1 y0 y1 c1 c2 HSh HTm HE
              go_wp2
              exact ⟨⟨j + 1, m' + 1, X3, by omega, by go_num, by go_num, HMs, by omega, HT7, HA7⟩, by simp [intOf]; omega⟩
            · have hd : (tm == (tn : Int)) = false := by simp [he]
              have hsl := HRj.out.resolve_left he
              obtain ⟨sk, hsk⟩ := Int.eq_ofNat_of_zero_le (slotA_range hsl).1
              have hsk24 : sk < 24 := by have := (slotA_range hsl).2; omega
              have hgt := (slotA_lies hsl).2.1
              have hgt2 : (tn : Int) < tm ∧ tm < (tn : Int) + 512 := hgt
              have HSlot := hide (show ∀ W, Calls Try.prog 53 #[.int .i64 (tn : Int), .int .i64 tm] W fun e w' => e = .returned (.int .i64 (sk : Int)) ∧ Below W.heap.size W w' from fun W => by
                have h := l5_slot (tn : Int) tm W (by omega) (by omega)
                rw [slotN_of hsl, hsk] at h
                exact h)
              have HPr := hide (show proc (tn : Int) ⟨n, f⟩ (j + 1) s0 = (upd (proc (tn : Int) ⟨n, f⟩ j s0).1 sk (((proc (tn : Int) ⟨n, f⟩ j s0).1 sk).snoc tm id), (proc (tn : Int) ⟨n, f⟩ j s0).2) from by
                rw [HPs.out, if_neg he, putR_pos hsl, hsk]; rfl)
              have hsk0 : (0 : Int) ≤ (sk : Int) := by omega
              have hsk1 : (sk : Int) < 24 := by omega
              clear he hsl hsk hgt HPs HRj
              go_wp2_with fail
              refine (HSlot.out _).mono ?_
              rintro e w7 ⟨rfl, hb7⟩
              have HT7 := hide (HTa.out.down hb7)
              have HA7 := hide (HAa.out.down hb7)
              have HTm7 := hide (HTm.out.down hb7)
              clear HTa HAa HTm y0 y1 x0 x1 c1 c2 hb7 HSlot
              generalize hQ : (proc (tn : Int) ⟨n, f⟩ j s0) = Q at *
              obtain ⟨ar7, cr7, hxk⟩ := own_form (HT7.out.ow.row sk hsk24)
              obtain ⟨nk, hnk⟩ : ∃ n, (Q.1 sk).n = n := ⟨_, rfl⟩
              rw [hnk] at hxk
              have hnk60 : nk ≤ 60 := by rw [← hnk]; have := row_tot Q.1 hsk24; have := HSh.out; omega
              have HXs := hide hxk
              have HNk := hide hnk
              have hd8 := (Below.refl w7.heap.size w7).alloc (Nat.le_refl _) (.cells #[.int .i64 tm, .int .i64 id] 40)
              have HT8 := hide (HT7.out.down hd8)
              have HA8 := hide (HA7.out.down hd8)
              obtain ⟨x0, x1, -, -⟩ := HT7.out.bx.pair
              obtain ⟨y0, y1, -, -⟩ := HTm7.out.pair
              obtain ⟨c3, c4⟩ := ow_cell HT7.out.ow hsk24
              rw [hxk] at c3
              obtain ⟨X0, X1', -, -⟩ := HT8.out.bx.pair
              obtain ⟨Y0, Y1, -, -⟩ := (HTm7.out.down hd8).pair
              obtain ⟨C3, C4⟩ := ow_cell HT8.out.ow hsk24
              rw [hxk] at C3
              have hsz8 : B ≤ w7.heap.size := HT7.out.sz.1
              have HGs := hide (show ∀ W w9 : World, W.grownBy w9 (Value.slice ar7 nk cr7).ownBlock → W.heap = (w7.alloc (.cells #[.int .i64 tm, .int .i64 id] 40)).heap → Below B w W → w9.cell? ⟨gH, sk, none⟩ = some (.slice ar7 nk cr7) ∧ w9.frozen? ⟨gH, sk, none⟩ = false ∧ w9.cell? ⟨w.heap.size, 1, none⟩ = some (.slice (some ⟨gH, 0, none⟩) 24 cH) from fun W w9 hg hh hbW => by
                have hW := HT8.out.same hh hbW
                have hgk : W.grownBy w9 (X3 sk).ownBlock := by rw [HXs.out]; exact hg
                have hWb := hW.bx.grown (hW.ow.row sk hsk24) (by decide) hgk
                obtain ⟨hc, H, hbb, hH⟩ := own_blk1 (hW.ow.grownHd hsk24 hgk)
                exact ⟨by rw [← HXs.out, ← hH sk (X3 sk) (by unfold hdr; rw [List.getElem?_map, List.getElem?_range hsk24]; rfl)]; exact hbb.cell (by omega), hbb.thaw _, hWb.pair.2.1⟩)
              have HFs := hide (show ∀ (W w9 : World) (g9 cap9 : Nat), W.grownBy w9 (Value.slice ar7 nk cr7).ownBlock → W.heap = (w7.alloc (.cells #[.int .i64 tm, .int .i64 id] 40)).heap → Below B w W → w9.ownsRow B 40 2 (.slice (some ⟨g9, 0, none⟩) (nk + 1) cap9) (nk + 1) (tv nk (Q.1 sk).f ++ [.int .i64 tm, .int .i64 id]) → ((Value.slice ar7 nk cr7).ownBlock = some g9 ∨ g9 = W.heap.size) → SkI B gH cH (tn : Int) w (w9.setCell ⟨gH, sk, none⟩ (.slice (some ⟨g9, 0, none⟩) (nk + 1) cap9)) (upd Q.1 sk ((Q.1 sk).snoc tm id), Q.2) (upd X3 sk (.slice (some ⟨g9, 0, none⟩) (nk + 1) cap9)) (.slice a7 D7 c7) ∧ AsideT (w9.setCell ⟨gH, sk, none⟩ (.slice (some ⟨g9, 0, none⟩) (nk + 1) cap9)) B (upd X3 sk (.slice (some ⟨g9, 0, none⟩) (nk + 1) cap9)) (.slice (some ⟨b, 0, none⟩) n cr) n f from fun W w9 g9 cap9 hg hh hbW ho hat => by
                have hW := HT8.out.same hh hbW
                have hgk : W.grownBy w9 (X3 sk).ownBlock := by rw [HXs.out]; exact hg
                obtain ⟨h1, h2⟩ := hW.putT (k := sk) hsk24 (g7 := g9) (n7 := nk + 1) (c7 := cap9) (r := (Q.1 sk).snoc tm id) hgk (by
                  rw [tv_snoc, HNk.out]
                  show w9.ownsRow B 40 2 _ ((Q.1 sk).n + 1) _
                  rw [HNk.out]; exact ho) (by rw [HXs.out]; exact hat)
                exact ⟨h1, h2 _ _ _ ⟨owns_same HA8.out.1 hh, HA8.out.2⟩⟩)
              have HRw := hide (show ∀ W : World, W.heap = (w7.alloc (.cells #[.int .i64 tm, .int .i64 id] 40)).heap → W.ownsRow B 40 2 (.slice ar7 nk cr7) nk (tv nk (Q.1 sk).f) from fun W hh => by
                have h9 := owns_same (HT8.out.ow.row sk hsk24) hh
                rw [HXs.out, HNk.out] at h9
                exact h9)
              have hbel8 := HT8.out.bel
              clear hxk hnk HT7 HA7 HTm7
              go_wp2_with fail
              go_region_law (refine step_append_lies _ rfl (.tmp 77) (.tmp 79) 52 rfl B 40 i0 _ 2 16 Try.underlying52 hi hz0 hz1 hz2 rfl (by decide) (.slice ar7 nk cr7) nk (tv nk (Q.1 sk).f) (by simp [Act.eval]) (HRw.out _ rfl) ⟨w7.heap.size, 0, none⟩ 1 1 [.int .i64 tm, .int .i64 id] (by simp [Act.eval]) rfl (news2 _ _ _ _ _ rfl) (by intro u hu; simp at hu; rcases hu with rfl | rfl <;> rfl) (by omega) (by unfold maxLen; omega) (by omega) (by simp; omega) _ rfl ?_; intro g9 cap9 w9 hown9 hgrow9 hat hlt9; obtain ⟨z0, z1, z2⟩ := HGs.out _ w9 hgrow9 rfl hbel8.drew)
              all_goals
                obtain ⟨hT9, hA9⟩ := HFs.out _ w9 g9 cap9 hgrow9 rfl hbel8.drew hown9 hat
                have HT9 := hide (show SkI B gH cH (tn : Int) w _ (proc (tn : Int) ⟨n, f⟩ (j + 1) s0) _ (.slice a7 D7 c7) from by rw [HPr.out]; exact hT9)
                have HA9 := hide hA9
                clear hT9 hA9 hgrow9 hown9 hat z0 z1 z2 HFs HGs HRw HT8 HA8 x0 x1 y0 y1 c3 c4 X0 X1' Y0 Y1 C3 C4 HPr HSh
                go_wp2
                exact ⟨⟨j + 1, m' + 1, _, by omega, by go_num, by go_num, HMs, by omega, HT9, HA9⟩, by simp [intOf]; omega⟩
          · obtain rfl : j = n := by omega
            have HTe := hide (show SkI B gH cH (tn : Int) w wq (stL (tn : Int) rs (d + 1)) X3 (.slice a7 D7 c7) from by
              rw [HS1.out.1, HLv.out.1]; exact HTj.out)
            have HMe := hide (show m' = wkL (tn : Int) rs (d + 1) from by rw [HS1.out.2, HLv.out.2]; exact HMj.out)
            clear HTj HAj HMj HD7 HLv HS1 HMd HRO2
            go_wp2
            exact ⟨⟨d + 1, m', X3, by omega, by first | (congr 1; done) | (congr 1; omega), rfl, HMe, by omega, HTe⟩, by simp [intOf]; omega⟩
      · have hne : ((r : Int) != 0) = true := by simp; omega
        have hzt : ¬ (tn : Int) % pw l = 0 := by
          rw [hu, show (tn : Int) % (u : Int) = ((tn % u : Nat) : Int) from rfl, hr]; omega
        have HM2 := hide (show m = wkL (tn : Int) rs (d + 1) from by
          rw [HS1.out.2]; unfold wk; rw [if_neg hzt]; exact HM.out)
        have HT2 := hide (show SkI B gH cH (tn : Int) w wo (stL (tn : Int) rs (d + 1)) X1 (.slice a5 D c5) from by
          rw [HS1.out.1]; unfold lev; rw [if_neg hzt]; exact HT.out)
        clear HT HM HS1 hzt hz hr HDn hu HS HT0
        go_wp2_with fail
        go_big_quiet (exact Calls.quiet_of_same (HU.out _))
        have HT3 := hide (HT2.out.down (below_drewN (Below.refl wo.heap.size wo) nq))
        clear HT2 x0 x1
        go_wp2
        exact ⟨⟨d + 1, m, X1, by omega, by first | (congr 1; done) | (congr 1; omega), rfl, HM2, by omega, HT3⟩, by simp [intOf]; omega⟩
    · obtain rfl : d = 2 := by omega
      have hng : ¬ ((2 : Int) - ((2 : Nat) : Int) > 0) := by omega
      obtain ⟨hMid, hTo⟩ := HS.out 2 (by omega)
      obtain ⟨kk, hkk⟩ : ∃ kk, tn % 8 = kk := ⟨_, rfl⟩
      have hk24 : kk < 24 := by omega
      have hmod : (tn : Int).tmod 8 = (kk : Int) := by rw [Int.tmod_eq_emod_of_nonneg (by omega)]; omega
      have hk0 : (0 : Int) ≤ (kk : Int) := by omega
      have hk1 : (kk : Int) < 24 := by omega
      have hKO : kOf 0 (tn : Int) = kk := by rw [kOf_nat (l := 0) (u := 1) rfl]; omega
      have HDue := hide (row0_due HG.out hMid)
      rw [hKO] at HDue
      have HSt := hide (show tickR (tn : Int) rs = (upd (stL (tn : Int) rs 2).1 kk noRow, (stL (tn : Int) rs 2).2 ++ idsR ((stL (tn : Int) rs 2).1 kk) ((stL (tn : Int) rs 2).1 kk).n) ∧ tickW (tn : Int) rs = wkL (tn : Int) rs 2 + ((stL (tn : Int) rs 2).1 kk).n from by
        have hz : (tn : Int) % pw 0 = 0 := by rw [show pw 0 = 1 from rfl]; omega
        rw [← stL_three, ← wkL_three]
        refine ⟨?_, ?_⟩
        · show lev (tn : Int) 0 (stL (tn : Int) rs 2) = _
          unfold lev
          rw [if_pos hz, hKO, proc_due HDue.out]
        · show wkL (tn : Int) rs 2 + wk (tn : Int) 0 (stL (tn : Int) rs 2) = _
          unfold wk
          rw [if_pos hz, hKO])
      obtain ⟨n, hn'⟩ : ∃ n, ((stL (tn : Int) rs 2).1 kk).n = n := ⟨_, rfl⟩
      have hn60 : n ≤ 60 := by rw [← hn']; have := row_tot (stL (tn : Int) rs 2).1 hk24; omega
      have HNn := hide hn'
      have hDl : D + n ≤ 60 := by
        have h1 := row_tot (stL (tn : Int) rs 2).1 hk24
        have h2 := HDn.out
        omega
      obtain ⟨Q, hQ⟩ : ∃ Q, stL (tn : Int) rs 2 = Q := ⟨_, rfl⟩
      rw [hQ] at HT HDn HSt HNn
      obtain ⟨ar, cr, hxk⟩ := own_form (HT.out.ow.row kk hk24)
      rw [HNn.out] at hxk
      have HXk := hide hxk
      obtain ⟨x0, x1, -, -⟩ := HT.out.bx.pair
      obtain ⟨c0, c1⟩ := ow_cell HT.out.ow hk24
      rw [hxk] at c0
      have HI0 := hide (show SkI B gH cH (tn : Int) w wo (Q.1, Q.2 ++ idsR (Q.1 kk) 0) X1 (.slice a5 D c5) from by
        rw [show Q.2 ++ idsR (Q.1 kk) 0 = Q.2 by simp [idsR]]; exact HT.out)
      clear HT hxk hn' hMid hTo hkk hKO HDue HS HT0 hQ
      go_wp2_with fail
      clear x0 x1 c0 c1
      go_loopw [5, 6, 92] (fun x y z wr => ∃ (j m' : Nat), j ≤ n ∧ z = .int .i64 (j : Int) ∧ y = .int .i64 (m' : Int) ∧ Hid (m' = wkL (tn : Int) rs 2 + j) ∧ m' ≤ 120 + j ∧ Hid (SkI B gH cH (tn : Int) w wr (Q.1, Q.2 ++ idsR (Q.1 kk) j) X1 x)) (fun _ _ z _ => n - (intOf z).toNat)
      case atStart => exact ⟨0, m, by omega, rfl, rfl, hide (by rw [HM.out]; rfl), by omega, HI0⟩
      case round =>
        rename World => wq
        obtain ⟨j, m', hjn, rfl, rfl, HMj, hmj, HTj⟩ := hrel
        obtain ⟨D7, hD7⟩ : ∃ D7, (Q.2 ++ idsR (Q.1 kk) j).length = D7 := ⟨_, rfl⟩
        have hD7b : D7 = D + j := by rw [← hD7, List.length_append, HDn.out]; simp [idsR]
        obtain ⟨a7, c7, hx7⟩ := own_form HTj.out.due
        have hx7' : u5 = .slice a7 D7 c7 := by rw [hx7]; show Value.slice a7 (Q.2 ++ idsR (Q.1 kk) j).length c7 = _; rw [hD7]
        subst hx7'
        have HD7 := hide hD7
        have hD7u : D7 ≤ 60 := by omega
        clear hD7 hx7 hD7b
        by_cases hjl : j < n
        · have hrow := HTj.out.ow.row kk hk24
          have hrow' : wq.ownsRow B 40 2 (.slice ar n cr) n (tv n (Q.1 kk).f) := by
            rw [← HXk.out, ← HNn.out]; exact hrow
          obtain ⟨aj', cj', hxj, hnj, hVj⟩ := own_V hrow'
          cases hxj
          obtain ⟨b, rfl, hBb, hOT⟩ := hVj (by omega)
          have c1 := hOT.cell (show j * 2 < n * 2 by omega)
          have c2 := hOT.cell (show j * 2 + 1 < n * 2 by omega)
          obtain ⟨tm, htm⟩ : ∃ x, (Q.1 kk).f (j * 2) = x := ⟨_, rfl⟩
          obtain ⟨id, hid⟩ : ∃ x, (Q.1 kk).f (j * 2 + 1) = x := ⟨_, rfl⟩
          rw [htm] at c1
          rw [hid] at c2
          have hj0 : (0 : Int) ≤ (j : Int) := by omega
          have hj1 : (j : Int) < (n : Int) := by omega
          have HIds := hide (show Q.2 ++ idsR (Q.1 kk) (j + 1) = Q.2 ++ idsR (Q.1 kk) j ++ [id] from by
            unfold idsR; rw [List.range_succ, ← hid]; simp [List.append_assoc])
          have hdn := (Below.refl wq.heap.size wq).alloc (Nat.le_refl _) (.cells #[.int .i64 tm, .int .i64 id] 40)
          have HTa := hide (HTj.out.down hdn)
          have hTm := Blk.fresh wq #[.int .i64 tm, .int .i64 id] 2 (p2 (.int .i64 tm) (.int .i64 id)) 40 rfl
          obtain ⟨y0, y1, -, -⟩ := hTm.pair
          have HMs := hide (show m' + 1 = wkL (tn : Int) rs 2 + (j + 1) from by rw [HMj.out]; omega)
          have HPu := hide (put_int w.heap.size (.slice a7 D7 c7) (srt (Q.2 ++ idsR (Q.1 kk) j)) id (wq.alloc (.cells #[.int .i64 tm, .int .i64 id] 40)) (by rw [srt_len]; have h := HTa.out.due; simp only at h; exact h) (by rw [srt_len, HD7.out]; omega))
          clear hVj hOT htm hid HTj hdn HMj hTm hrow hrow'
          go_wp2_with fail
          refine HPu.out.mono ?_
          rintro e w7 ⟨⟨r7, rfl, ho7⟩, hb7⟩
          rw [srt_len] at ho7
          have HT7 := hide (show SkI B gH cH (tn : Int) w w7 (Q.1, Q.2 ++ idsR (Q.1 kk) (j + 1)) X1 r7 from by
            rw [HIds.out]; exact HTa.out.putI hb7 ho7)
          rw [HD7.out] at ho7
          obtain ⟨a8, c8, rfl⟩ := own_form ho7
          clear HTa HPu ho7 hb7 y0 y1 c1 c2 HIds
          go_wp2
          exact ⟨⟨j + 1, m' + 1, by omega, by go_num, by go_num, HMs, by omega, HT7⟩, by simp [intOf]; omega⟩
        · obtain rfl : j = n := by omega
          obtain ⟨x0, x1, -, -⟩ := HTj.out.bx.pair
          obtain ⟨c0, c1⟩ := ow_cell HTj.out.ow hk24
          rw [HXk.out] at c0
          obtain ⟨hE, -⟩ := HTj.out.empty hk24
          obtain ⟨X0, X1', -, -⟩ := hE.bx.pair
          obtain ⟨Y0, Y1, Y2, Y3⟩ := hE.re.pair
          have hsz := hE.sz.2
          have HF := hide (show ∀ W, W = ((wq.setCell ⟨gH, kk, none⟩ (.slice none 0 0)).setCell ⟨w.heap.size + 1, 0, none⟩ (.int .i64 (tn : Int))).setCell ⟨w.heap.size + 1, 1, none⟩ (.slice (some ⟨gH, 0, none⟩) 24 cH) → OW 24 W B (.slice (some ⟨gH, 0, none⟩) 24 cH) (tickR (tn : Int) rs).1 (upd X1 kk (.slice none 0 0)) ∧ W.ownsRow w.heap.size 3 1 (.slice a7 D7 c7) (tickR (tn : Int) rs).2.length (pvi (srt (tickR (tn : Int) rs).2)) ∧ KpI w W ∧ Below B w W from by
            rintro W rfl
            have hOk := (hE.ow.kept hE.re 0 (.int .i64 (tn : Int))).kept (hE.re.set 0 _) 1 (.slice (some ⟨gH, 0, none⟩) 24 cH)
            have key : ∀ {B' n : Nat} {u : Value} {xs : List Value}, (wq.setCell ⟨gH, kk, none⟩ (.slice none 0 0)).ownsRow B' 3 1 u n xs → (((wq.setCell ⟨gH, kk, none⟩ (.slice none 0 0)).setCell ⟨w.heap.size + 1, 0, none⟩ (.int .i64 (tn : Int))).setCell ⟨w.heap.size + 1, 1, none⟩ (.slice (some ⟨gH, 0, none⟩) 24 cH)).ownsRow B' 3 1 u n xs := fun hu => owns_set (owns_set hu hE.re (by decide) _ _) (hE.re.set 0 _) (by decide) _ _
            rw [HSt.out.1, HNn.out]
            exact ⟨hOk, key hE.due, fun B' u n xs hu => key (hE.kp B' u n xs hu), (hE.bel.setCell (show B ≤ w.heap.size + 1 by omega) _).setCell (show B ≤ w.heap.size + 1 by omega) _⟩)
          have HMf := hide (show m' = tickW (tn : Int) rs from by rw [HSt.out.2, HNn.out]; exact HMj.out)
          clear HTj hE HI0 HMj
          go_upto_region 28 with fail
          generalize wq.setCell ⟨gH, kk, none⟩ (.slice none 0 0) = wE at *
          clear x0 x1 c0 c1
          go_wp2
          obtain ⟨f1, f2, f3, f4⟩ := HF.out _ rfl
          exact bodyPost_ret (v := .tuple #[.agg #[.int .i64 (tn : Int), .slice (some ⟨gH, 0, none⟩) 24 cH], .slice a7 D7 c7, .int .i64 (m' : Int)]) (by simp [results, Try.results62, go_sem, Y0, Y1]) rfl ⟨.slice a7 D7 c7, upd X1 kk (.slice none 0 0), by rw [HMf.out], f1, f2, f3, f4⟩
end Go.Proofs.Ytcodllammndciaa

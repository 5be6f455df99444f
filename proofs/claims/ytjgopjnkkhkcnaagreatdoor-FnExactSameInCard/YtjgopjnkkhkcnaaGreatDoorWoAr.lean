/-
  The law's helpers on regions in a row: how much they hold, a copy in memory of its own, that two of the same are told alike, and marks on a copy.
-/
import Derived.Test.YtjgopjnkkhkcnaaGreatDoorWoT
import Derived.Test.YtjgopjnkkhkcnaaGreatDoorRgW
namespace Go.Proofs.YtjgopjnkkhkcnaaGreatDoor
open Go.RowKit M
open Go.Sort (grow)

theorem info_region : (Tryz.prog.info? 32).map (fun i => (i.zero, i.size, i.bytes)) = some (some (.agg #[.int .i64 0, .int .i64 0, .slice none 0 0]), 3, 40) := by kernel_rfl
theorem make_regions (n : Nat) (h : n ≤ 1048576) (w : World) : (Instr.makeSlice 56 (.int .i64 (n : Int)) (.int .i64 (n : Int))).run Tryz.prog w = .ok (.slice (some ⟨w.heap.size, 0, none⟩) n n) (w.alloc (.cells (madeCells #[(.int .i64 0 : Value), .int .i64 0, .slice none 0 0] (n * 3)) 32)) := by
  obtain ⟨i, hi, hz0, hz1, hz2⟩ := info_parts info_region
  have hr := run_make (P := Tryz.prog) w 56 32 i _ Tryz.underlying56 hi hz0 .i64 .i64 (n : Int) (n : Int) (by omega) (Int.le_refl _) (by rw [hz2]; omega) (by omega)
  rw [hr, hz1]
  simp only [Int.toNat_natCast]
  rfl
set_option maxHeartbeats 2000000 in
theorem to_regions (v : Value) (rs : List Rg) (w : World) (hv : TpsOf false w v rs) (hf : FinS rs) :
    Calls Tryz.prog 79 #[v] w fun e w' => (∃ ts, e = .returned (.slice (some ⟨w.heap.size, 0, none⟩) rs.length rs.length) ∧ OwnTp 32 w' w.heap.size (.slice (some ⟨w.heap.size, 0, none⟩) rs.length rs.length) ts ∧ rgs ts = rs) ∧ Below w.heap.size w w' := by
  have HV := hide hv
  have HF := hide hf
  obtain ⟨a, cap, rfl⟩ := hv.form
  have hmk := make_regions rs.length hf.1
  have HM := hide (made_tps 32 w rs.length hf.1)
  have hn := hf.1
  clear hv hf
  go_enter Tryz.func79, Tryz.ntmps79
  go_wp2
  go_loopw [4] (fun i wr => ∃ (k : Nat) (ts : List Tp), k ≤ rs.length ∧ i = .int .i64 k ∧ Hid (ts.length = k) ∧ Hid (OwnTp 32 wr w.heap.size (.slice (some ⟨w.heap.size, 0, none⟩) rs.length rs.length) (ts ++ List.replicate (rs.length - k) (t0 w.heap.size))) ∧ Hid (rgs ts = rs.take k) ∧ Below w.heap.size w wr ∧ w.heap.size < wr.heap.size) (fun i _ => rs.length - (intOf i).toNat)
  case atStart => exact ⟨0, [], Nat.zero_le _, rfl, hide rfl, hide (by simpa using HM.out), hide rfl, (Below.refl _ _).alloc (Nat.le_refl _) _, by simp⟩
  case round =>
    obtain ⟨k, ts, hk, rfl, HL, HA, HB, hbw, hgl⟩ := hrel
    by_cases hlt : k < rs.length
    · obtain ⟨r, he⟩ : ∃ e, rs[k]? = some e := ⟨rs[k], List.getElem?_eq_getElem hlt⟩
      obtain ⟨b, off, rfl, hlb, u, hc3, hs, -⟩ := HV.out.at he
      obtain ⟨c0, c1, c2⟩ := hc3
      have c0 := (hbw.cell (p := ⟨b, off + k * 3, none⟩) hlb).trans c0
      have c1 := (hbw.cell (p := ⟨b, off + k * 3 + 1, none⟩) hlb).trans c1
      have c2 := (hbw.cell (p := ⟨b, off + k * 3 + 2, none⟩) hlb).trans c2
      have HS := hide (hs.below hbw)
      have HFE := hide (HF.out.2 r (List.mem_of_getElem? he))
      have HE := hide he
      clear hs he hmk HM
      go_wp2_with fail
      refine (to_region r.id r.ver _ r.bs _ HS.out HFE.out).mono ?_
      rintro e w1 ⟨⟨g3, qs, rfl, hO, hqs⟩, hb1⟩
      have hbw1 := hbw.trans (hb1.mono hbw.size)
      have h0 := HA.out.down hb1
      have hpos : (ts ++ List.replicate (rs.length - k) (t0 w.heap.size))[k]? = some (t0 w.heap.size) := by
        have := HL.out
        rw [List.getElem?_append_right (by omega), List.getElem?_replicate, if_pos (by omega)]
      obtain ⟨d0, d1, d2⟩ := h0.c3 hpos
      have f0 := h0.thaw (k * 3)
      have f1 := h0.thaw (k * 3 + 1)
      have f2 := h0.thaw (k * 3 + 2)
      have hp := HA.out.put (j := k) (a := r.id) (b := r.ver) (by have := HL.out; rw [List.length_append, List.length_replicate]; omega) hb1 hO (Nat.le_refl _)
      have hset : (ts ++ List.replicate (rs.length - k) (t0 w.heap.size)).set k ⟨r.id, r.ver, .slice (some ⟨g3, 0, none⟩) r.bs.length r.bs.length, qs, wr.heap.size, w1.heap.size⟩ = (ts ++ [⟨r.id, r.ver, .slice (some ⟨g3, 0, none⟩) r.bs.length r.bs.length, qs, wr.heap.size, w1.heap.size⟩]) ++ List.replicate (rs.length - (k + 1)) (t0 w.heap.size) := by
        have := HL.out
        rw [show rs.length - k = (rs.length - (k + 1)) + 1 by omega, List.replicate_succ, List.set_append_right _ _ (by omega), this, Nat.sub_self, List.set_cons_zero]
        simp
      rw [hset] at hp
      have HP := hide hp
      have HB2 := hide (show rgs (ts ++ [⟨r.id, r.ver, .slice (some ⟨g3, 0, none⟩) r.bs.length r.bs.length, qs, wr.heap.size, w1.heap.size⟩]) = rs.take (k + 1) by
        rw [take_snocB HE.out, ← HB.out]; simp [rgs, Tp.rg, hqs])
      have HL2 := hide (show (ts ++ [(⟨r.id, r.ver, .slice (some ⟨g3, 0, none⟩) r.bs.length r.bs.length, qs, wr.heap.size, w1.heap.size⟩ : Tp)]).length = k + 1 by rw [List.length_append, HL.out]; rfl)
      have hbw2 := ((hbw1.setCell (p := ⟨w.heap.size, k * 3, none⟩) (Nat.le_refl _) (.int .i64 r.id)).setCell (p := ⟨w.heap.size, k * 3 + 1, none⟩) (Nat.le_refl _) (.int .i64 r.ver)).setCell (p := ⟨w.heap.size, k * 3 + 2, none⟩) (Nat.le_refl _) (.slice (some ⟨g3, 0, none⟩) r.bs.length r.bs.length)
      have hgl2 : w.heap.size < (((w1.setCell ⟨w.heap.size, k * 3, none⟩ (.int .i64 r.id)).setCell ⟨w.heap.size, k * 3 + 1, none⟩ (.int .i64 r.ver)).setCell ⟨w.heap.size, k * 3 + 2, none⟩ (.slice (some ⟨g3, 0, none⟩) r.bs.length r.bs.length)).heap.size := by rw [World.size_setCell, World.size_setCell, World.size_setCell]; exact Nat.lt_of_lt_of_le hgl hb1.size
      clear h0 hp hO hb1 HA HB HL HS HE c0 c1 c2 hset hpos hqs HFE
      go_wp2
      exact ⟨⟨k + 1, _, by omega, by go_num, HL2, HP, HB2, hbw2, hgl2⟩, by simp [intOf]; omega⟩
    · obtain rfl : k = rs.length := by omega
      have hA := HA.out
      rw [Nat.sub_self, List.replicate_zero, List.append_nil] at hA
      have HP := hide hA
      have HB2 := hide (show rgs ts = rs by rw [HB.out, List.take_length])
      clear HA HV hmk HM hA
      go_wp2
      go_ret
      exact ⟨⟨ts, rfl, HP.out, HB2.out⟩, hbw⟩
set_option maxRecDepth 20000 in
set_option maxHeartbeats 2000000 in
theorem eq_regions (v u : Value) (rs : List Rg) (w : World) (hv : TpsOf false w v rs) (hu : TpsOf false w u rs) (hf : FinS rs) :
    Calls Tryz.prog 83 #[v, u] w fun e w' => e = .returned (.bool true) ∧ Below w.heap.size w w' := by
  have HV := hide hv
  have HU := hide hu
  have HF := hide hf
  obtain ⟨a1, cap1, rfl⟩ := hv.form
  obtain ⟨a2, cap2, rfl⟩ := hu.form
  have hnn : ((rs.length : Int) != (rs.length : Int)) = false := by simp
  have hn := hf.1
  clear hv hu hf
  go_enter Tryz.func83, Tryz.ntmps83
  go_wp2
  go_loopw [5] (fun i wr => ∃ k : Nat, k ≤ rs.length ∧ i = .int .i64 k ∧ Below w.heap.size w wr) (fun i _ => rs.length - (intOf i).toNat)
  case atStart => exact ⟨0, Nat.zero_le _, rfl, Below.refl _ _⟩
  case round =>
    obtain ⟨k, hk, rfl, hbw⟩ := hrel
    by_cases hlt : k < rs.length
    · obtain ⟨r, he⟩ : ∃ e, rs[k]? = some e := ⟨rs[k], List.getElem?_eq_getElem hlt⟩
      obtain ⟨b1, o1, rfl, hl1, u1, hc1, hs1, -⟩ := HV.out.at he
      obtain ⟨b2, o2, rfl, hl2, u2, hc2, hs2, -⟩ := HU.out.at he
      obtain ⟨c0, c1, c2⟩ := hc1
      obtain ⟨e0, e1, e2⟩ := hc2
      have k0 := cell_regrown ((hbw.cell (p := ⟨b1, o1 + k * 3, none⟩) hl1).trans c0)
      have k1 := cell_regrown ((hbw.cell (p := ⟨b1, o1 + k * 3 + 1, none⟩) hl1).trans c1)
      have k2 := cell_regrown ((hbw.cell (p := ⟨b1, o1 + k * 3 + 2, none⟩) hl1).trans c2)
      have g0 := cell_regrown ((hbw.cell (p := ⟨b2, o2 + k * 3, none⟩) hl2).trans e0)
      have g1 := cell_regrown ((hbw.cell (p := ⟨b2, o2 + k * 3 + 1, none⟩) hl2).trans e1)
      have g2 := cell_regrown ((hbw.cell (p := ⟨b2, o2 + k * 3 + 2, none⟩) hl2).trans e2)
      have hi0 : (0 : Int) ≤ (k : Int) := by omega
      have hi1 : (k : Int) < (rs.length : Int) := by omega
      have HS1 := hide (hs1.below hbw)
      have HS2 := hide (hs2.below hbw)
      have HFE := hide (HF.out.2 r (List.mem_of_getElem? he))
      have HE := hide (show ∀ d os, Calls Tryz.prog 17 #[rv r.id r.ver u1, rv r.id r.ver u2] (grow (redrawn wr d) os) fun e w'' => e = .returned (.bool true) ∧ ∃ p : Regrown, w'' = grow (redrawn wr p.d) p.os from fun d os => Calls.regrown_of (eq_region r.id r.ver _ _ r.bs _ (HS1.out.below (below_regrown wr d os)) (HS2.out.below (below_regrown wr d os)) HFE.out))
      clear hs1 hs2 he c0 c1 c2 e0 e1 e2 HV HU HF
      go_wp2
      refine wp_region_quiet_below (by kernel_rfl) (by kernel_rfl) ?_
      repeat (go_big_quiet_step (exact HE.out _ _))
      refine wpQuiet_nil ?_
      intro _ hw'
      obtain ⟨⟨dq, osq⟩, hw''⟩ := hw'
      subst hw''
      have hbw2 := hbw.trans ((below_regrown wr dq osq).mono hbw.size)
      clear HE k0 k1 k2 g0 g1 g2
      go_wp2
      go_roundw
      case rel => exact ⟨k + 1, by omega, by go_num, hbw2⟩
      case measure => simp [intOf]; omega
    · clear HV HU
      go_wp2
      go_ret
      exact ⟨rfl, hbw⟩
set_option maxHeartbeats 2000000 in
theorem sz_regions (v : Value) (rs : List Rg) (left : Int) (w : World) (hv : TpsOf false w v rs) (hf : FinT rs) (hl0 : 0 ≤ left) (hl1 : left ≤ 1048576) :
    Calls Tryz.prog 76 #[v, .int .i64 left] w fun e w' => e = .returned (.int .i64 (szr left (rs.length + wgR rs))) ∧ Below w.heap.size w w' := by
  have HV := hide hv
  have HF := hide hf.2
  have hlen := hf.1
  unfold maxLen at hlen
  obtain ⟨a, cap, rfl⟩ := hv.form
  clear hv hf
  by_cases hbig : left < (rs.length : Int)
  · have hge : (left - (rs.length : Int) < 0) := by omega
    have HZ := hide (szr_no (left := left) (n := rs.length + wgR rs) (by omega))
    go_enter Tryz.func76, Tryz.ntmps76
    go_wp2
    go_ret
    exact ⟨ret_int (by rw [HZ.out]), Below.refl _ _⟩
  · have hge : ¬ (left - (rs.length : Int) < 0) := by omega
    go_enter Tryz.func76, Tryz.ntmps76
    go_wp2
    go_loopw [1, 5] (fun x i wd => ∃ k : Nat, k ≤ rs.length ∧ i = .int .i64 k ∧ x = .int .i64 (left - (rs.length : Int) - (wgR (rs.take k) : Nat)) ∧ ((rs.length + wgR (rs.take k) : Nat) : Int) ≤ left ∧ Below w.heap.size w wd) (fun _ i _ => rs.length - (intOf i).toNat)
    case atStart => exact ⟨0, Nat.zero_le _, rfl, by simp [wgR], by simp [wgR]; omega, Below.refl _ _⟩
    case round =>
      rename World => wd
      obtain ⟨k, hk, rfl, rfl, hfit, hbw⟩ := hrel
      by_cases hlt2 : k < rs.length
      · obtain ⟨r, he⟩ : ∃ e, rs[k]? = some e := ⟨rs[k], List.getElem?_eq_getElem hlt2⟩
        obtain ⟨b, off, rfl, hlt, u, hc, hs, -⟩ := (HV.out.below hbw).at he
        obtain ⟨c0, c1, c2⟩ := hc
        have HS := hide hs
        have HT := hide (wgR_take he)
        have HM := hide (HF.out r (List.mem_of_getElem? he))
        have HL := hide (wgR_take_le rs (k + 1))
        clear HV he hs
        by_cases hfit2 : ((rs.length + wgR (rs.take k) + (r.bs.length + wb r.bs) : Nat) : Int) ≤ left
        · have hz := szr_yes (left := left - (rs.length : Int) - ((wgR (rs.take k) : Nat) : Int)) (n := r.bs.length + wb r.bs) (by omega)
          have hge2 : ¬ (szr (left - (rs.length : Int) - ((wgR (rs.take k) : Nat) : Int)) (r.bs.length + wb r.bs) < 0) := by rw [hz]; omega
          have HZ := hide hz
          clear hz
          go_wp2_with fail
          refine (sz_region r.id r.ver _ r.bs _ _ HS.out HM.out (by omega) (by omega)).mono ?_
          rintro e' w2 ⟨rfl, hb2⟩
          have hbw2 := hbw.trans (hb2.mono hbw.size)
          clear hb2 c0 c1 c2
          go_wp2
          go_roundw
          case rel => exact ⟨k + 1, by omega, by go_num, by rw [HT.out, HZ.out]; go_num, by rw [HT.out]; omega, hbw2⟩
          case measure => simp [intOf]; omega
        · have hz := szr_no (left := left - (rs.length : Int) - ((wgR (rs.take k) : Nat) : Int)) (n := r.bs.length + wb r.bs) (by omega)
          have hge2 : szr (left - (rs.length : Int) - ((wgR (rs.take k) : Nat) : Int)) (r.bs.length + wb r.bs) < 0 := by rw [hz]; omega
          have HZ := hide (szr_no (left := left) (n := rs.length + wgR rs) (by have := HT.out; have := HL.out; omega))
          clear hz
          go_wp2_with fail
          refine (sz_region r.id r.ver _ r.bs _ _ HS.out HM.out (by omega) (by omega)).mono ?_
          rintro e' w2 ⟨rfl, hb2⟩
          have hbw2 := hbw.trans (hb2.mono hbw.size)
          clear hb2 c0 c1 c2
          go_wp2
          go_ret
          exact ⟨ret_int (by rw [HZ.out]), hbw2⟩
      · obtain rfl : k = rs.length := by omega
        rw [List.take_length] at hfit ⊢
        have HZ := hide (szr_yes (left := left) (n := rs.length + wgR rs) hfit)
        clear HV
        go_wp2
        go_ret
        exact ⟨ret_int (by rw [HZ.out]; omega), hbw⟩
set_option maxHeartbeats 2000000 in
theorem mark_regions (B k0 : Nat) (v : Value) (ts : List Tp) (w : World) (h : OwnTp 32 w B v ts) (hn : ts.length ≤ 1048576) (hl : ∀ t ∈ ts, t.ps.length ≤ 1048576 ∧ ∀ p ∈ t.ps, p.2.length ≤ 1048576) (h1 : 1 ≤ k0) (hk0 : k0 + evT ts ≤ 20000000) :
    Calls Tryz.prog 90 #[v, .int .i64 (k0 : Int)] w fun e w' => e = .returned (.int .i64 ((k0 + evT ts : Nat) : Int)) ∧ OwnTp 32 w' B v (mkT k0 ts) ∧ KeptS (Blks v ts) w w' := by
  have HP := hide h
  have HL := hide hl
  rcases h.split with ⟨rfl, rfl⟩ | ⟨g, cap, rfl, hB, hgl, -⟩
  · clear h hl
    go_enter Tryz.func90, Tryz.ntmps90
    go_wp2
    refine wp_loop_rounds 1 ?_; rw [rounds_succ]
    go_wp2
    go_ret
    exact ⟨rfl, OwnTp.nil _ _ _, KeptS.refl _ _⟩
  clear h hl
  go_enter Tryz.func90, Tryz.ntmps90
  go_wp2
  go_loopw [1, 5] (fun x i wr => ∃ k q : Nat, k ≤ ts.length ∧ i = .int .i64 k ∧ x = .int .i64 q ∧ Hid (q = k0 + evT (ts.take k)) ∧ q ≤ 20000000 ∧ Hid (OwnTp 32 wr B (.slice (some ⟨g, 0, none⟩) ts.length cap) (mkT k0 (ts.take k) ++ ts.drop k)) ∧ Hid (KeptS (Blks (.slice (some ⟨g, 0, none⟩) ts.length cap) ts) w wr)) (fun _ i _ => ts.length - (intOf i).toNat)
  case atStart => exact ⟨0, k0, Nat.zero_le _, rfl, rfl, hide (by simp [evT]), by omega, hide (by simpa [mkT] using HP.out), hide (KeptS.refl _ _)⟩
  case round =>
    obtain ⟨k, q, hk, rfl, rfl, HQ, hq, HO, HK⟩ := hrel
    by_cases hlt : k < ts.length
    · obtain ⟨t, he⟩ : ∃ t, ts[k]? = some t := ⟨ts[k], List.getElem?_eq_getElem hlt⟩
      have hmem := List.mem_of_getElem? he
      have hat := mkT_mid (k0 := k0) he
      have hst := mkT_step (k0 := k0) he
      have hsn := evT_snoc he
      have htl := evT_take_le ts (k + 1)
      have hq3 : q + (2 + 4 * evn t.ps) ≤ 20000000 := by have := HQ.out; omega
      have hq1 : 1 ≤ q := by have := HQ.out; omega
      rw [← HQ.out] at hst
      have HQ2 := hide (show q + (2 + 4 * evn t.ps) = k0 + evT (ts.take (k + 1)) by rw [hsn, HQ.out]; omega)
      have HIN := hide (show ∀ j, t.lo ≤ j → j < t.hi → Blks (.slice (some ⟨g, 0, none⟩) ts.length cap) ts j from fun j a b => .inr ⟨t, hmem, a, b⟩)
      have HLE := hide (HL.out t hmem)
      have hO := HO.out
      have hll : k < (mkT k0 (ts.take k) ++ ts.drop k).length := (List.getElem?_eq_some_iff.1 hat).1
      have HAT := hide hat
      have HST := hide hst
      have HLL := hide hll
      clear hsn htl hst hat hll he hmem HL HO
      generalize mkT k0 (ts.take k) ++ ts.drop k = m at *
      obtain ⟨c0, c1, c2⟩ := hO.c3 HAT.out
      have f0 := hO.thaw (k * 3)
      have f1 := hO.thaw (k * 3 + 1)
      have hA := hO.setA HAT.out (q : Int)
      have hA2 := hA.setB (j := k) (List.getElem?_set_self HLL.out) ((q : Int) + 1)
      simp only [List.set_set] at hA2
      have hK2 := HK.out.trans (((KeptS.set wr g (k * 3) (.int .i64 (q : Int))).trans (KeptS.set _ g (k * 3 + 1) (.int .i64 ((q : Int) + 1)))).wide (fun j (e : j = g) => show Blks _ _ j by subst e; exact .inl rfl))
      have HA2 := hide hA2
      have HK2 := hide hK2
      have hown := (hA2.own _ (List.mem_of_getElem? (List.getElem?_set_self HLL.out))).1
      have hwin := (hA2.own _ (List.mem_of_getElem? (List.getElem?_set_self HLL.out))).2.1
      have hfm : ∃ au cu, t.v = .slice au t.ps.length cu := hown.form
      obtain ⟨au, cu, htv⟩ := hfm
      have HOW := hide hown
      have HWI := hide hwin
      rw [htv] at c2
      clear hO hA hA2 hK2 hown hwin HK
      go_wp2_with fail
      rw [show ((q : Int) + 1 + 1) = ((q + 2 : Nat) : Int) by omega]
      refine (mark_brs t.lo (q + 2) t.lo t.hi _ t.ps _ (htv ▸ HOW.out) (htv ▸ HWI.out) HLE.out.1 HLE.out.2 (by omega) (by omega)).mono ?_
      rintro e w1 ⟨rfl, hm, hg⟩
      have hm' : OwnP w1 t.lo t.v (mkP (q + 2) t.ps) := by rw [htv]; exact hm
      have hT := HA2.out.turn (j := k) (List.getElem?_set_self HLL.out) hg hm' (vsP_mk _ _)
      simp only [List.set_set] at hT
      have HO2 := hide (show OwnTp 32 w1 B (.slice (some ⟨g, 0, none⟩) ts.length cap) (mkT k0 (ts.take (k + 1)) ++ ts.drop (k + 1)) from by rw [← HST.out]; exact hT)
      have HK3 := hide (HK2.out.trans (hg.toS.wide (fun j hj => HIN.out j hj.1 hj.2)))
      clear hT hm hm' hg HOW HWI HA2 HK2 c0 c1 c2 f0 f1 HST HAT HLL
      go_wp2
      exact ⟨⟨k + 1, q + (2 + 4 * evn t.ps), by omega, by go_num, by go_num, HQ2, hq3, HO2, HK3⟩, by simp [intOf]; omega⟩
    · obtain rfl : k = ts.length := by omega
      have hO := HO.out
      rw [List.take_length, List.drop_length, List.append_nil] at hO
      have hQ := HQ.out
      rw [List.take_length] at hQ
      have HO2 := hide hO
      have HQ2 := hide hQ
      clear hO hQ HO HQ HL
      go_wp2
      go_ret
      exact ⟨ret_int (by rw [HQ2.out]), HO2.out, HK.out⟩
set_option maxHeartbeats 2000000 in
theorem held_regions (B k0 : Nat) (v : Value) (ts : List Tp) (w : World) (h : OwnTp 32 w B v (mkT k0 ts)) (hn : ts.length ≤ 1048576) (hl : ∀ t ∈ ts, t.ps.length ≤ 1048576 ∧ ∀ p ∈ t.ps, p.2.length ≤ 1048576) (h1 : 1 ≤ k0) (hk0 : k0 + evT ts ≤ 20000000) :
    Calls Tryz.prog 92 #[v, .int .i64 (k0 : Int)] w fun e w' => e = .returned (.int .i64 ((k0 + evT ts : Nat) : Int)) ∧ Below w.heap.size w w' := by
  have HP := hide h
  have HL := hide hl
  obtain ⟨a, cap, hv⟩ := h.form
  rw [mkT_len] at hv
  subst hv
  clear h hl
  go_enter Tryz.func92, Tryz.ntmps92
  go_wp2
  go_loopw [1, 5] (fun x i wr => ∃ k q : Nat, k ≤ ts.length ∧ i = .int .i64 k ∧ x = .int .i64 q ∧ Hid (q = k0 + evT (ts.take k)) ∧ q ≤ 20000000 ∧ Below w.heap.size w wr) (fun _ i _ => ts.length - (intOf i).toNat)
  case atStart => exact ⟨0, k0, Nat.zero_le _, rfl, rfl, hide (by simp [evT]), by omega, Below.refl _ _⟩
  case round =>
    obtain ⟨k, q, hk, rfl, rfl, HQ, hq, hbw⟩ := hrel
    by_cases hlt : k < ts.length
    · obtain ⟨t, he⟩ : ∃ t, ts[k]? = some t := ⟨ts[k], List.getElem?_eq_getElem hlt⟩
      have hat := mkT_at k0 ts k t he
      rw [← HQ.out] at hat
      have hO := HP.out.down hbw
      have hll : k < (mkT k0 ts).length := (List.getElem?_eq_some_iff.1 hat).1
      rcases hO.split with ⟨h0, h0'⟩ | ⟨g, cap', hva, hB, hgl, -⟩
      · rw [h0'] at hll; simp at hll
      · simp only [Value.slice.injEq] at hva
        obtain ⟨rfl, -, -⟩ := hva
        obtain ⟨c0, c1, c2⟩ := hO.c3 hat
        have hown := (hO.own _ (List.mem_of_getElem? hat)).1
        have hfm : ∃ au cu, t.v = .slice au t.ps.length cu := by
          have hf := hown.form
          rw [mkP_len] at hf
          exact hf
        obtain ⟨au, cu, htv⟩ := hfm
        have HOW := hide (show OwnP wr t.lo (.slice au t.ps.length cu) (mkP (q + 2) t.ps) by rw [← htv]; exact hown)
        have HLE := hide (HL.out t (List.mem_of_getElem? he))
        have hsn := evT_snoc he
        have htl := evT_take_le ts (k + 1)
        have hq3 : q + (2 + 4 * evn t.ps) ≤ 20000000 := by have := HQ.out; omega
        have hq1 : 1 ≤ q := by have := HQ.out; omega
        have HQ2 := hide (show q + (2 + 4 * evn t.ps) = k0 + evT (ts.take (k + 1)) by rw [hsn, HQ.out]; omega)
        have hne : (((q + 1 : Nat) : Int) != (q : Int) + 1) = false := by simp
        have hne0 : ((q : Int) != (q : Int)) = false := by simp
        obtain ⟨z, hz⟩ : ∃ z, q + 2 + 4 * evn t.ps = z := ⟨_, rfl⟩
        have hkn : ¬ (((z : Nat) : Int) < 0) := by omega
        have HZ := hide hz
        rw [htv] at c2
        clear hat hO hown hsn htl he HQ hll hz htv
        go_wp2_with fail
        rw [show ((q : Int) + 1 + 1) = ((q + 2 : Nat) : Int) by omega]
        refine (held_brs t.lo (q + 2) _ t.ps _ HOW.out HLE.out.1 HLE.out.2 (by omega) (by omega)).mono ?_
        rw [HZ.out]
        rintro e w1 ⟨rfl, hb⟩
        have hb2 := hbw.trans (hb.mono hbw.size)
        have HZ2 := hide (show z = q + (2 + 4 * evn t.ps) by have := HZ.out; omega)
        clear hb c0 c1 c2 HOW HZ
        go_wp2
        go_roundw
        case rel => exact ⟨k + 1, z, by omega, by go_num, rfl, hide (by rw [HZ2.out, HQ2.out]), by have := HZ2.out; omega, hb2⟩
        case measure => simp [intOf]; omega
    · obtain rfl : k = ts.length := by omega
      have hQ := HQ.out
      rw [List.take_length] at hQ
      have HQ2 := hide hQ
      clear hQ HQ HL HP
      go_wp2
      go_ret
      exact ⟨ret_int (by rw [HQ2.out]), hbw⟩
end Go.Proofs.YtjgopjnkkhkcnaaGreatDoor

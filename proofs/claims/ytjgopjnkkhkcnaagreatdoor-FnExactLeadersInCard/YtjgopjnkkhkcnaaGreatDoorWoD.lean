/-
  The regions that lead, in both texts.
-/
import Derived.Test.YtjgopjnkkhkcnaaGreatDoorWoG
import Derived.Test.YtjgopjnkkhkcnaaGreatDoorIntL
namespace Go.Proofs.YtjgopjnkkhkcnaaGreatDoor
open Go.RowKit M
open Go.Sort (grow)
namespace M
def ldK (W : Wd) (k : Nat) : List Int := ((W.rs.take k).filter (fun r => rgv r.ver == r.id)).map Rg.id
theorem ldK_zero (W : Wd) : ldK W 0 = [] := by simp [ldK]
theorem ldK_yes {W : Wd} {k : Nat} {r : Rg} (h : W.rs[k]? = some r) (hl : (rgv r.ver == r.id) = true) : ldK W (k + 1) = ldK W k ++ [r.id] := by
  unfold ldK; rw [take_snocB h, List.filter_append, List.map_append]
  simp [List.filter, hl]
theorem ldK_no {W : Wd} {k : Nat} {r : Rg} (h : W.rs[k]? = some r) (hl : (rgv r.ver == r.id) = false) : ldK W (k + 1) = ldK W k := by
  unfold ldK; rw [take_snocB h, List.filter_append, List.map_append]
  simp [List.filter, hl]
theorem ldK_len (W : Wd) (k : Nat) : (ldK W k).length ≤ W.rs.length := by
  unfold ldK
  rw [List.length_map]
  exact Nat.le_trans (List.length_filter_le _ _) (by rw [List.length_take]; omega)
def ldr (W : Wd) (b : Bool) : List Int := if b = true then ldK W W.rs.length else []
end M
set_option maxRecDepth 20000 in
set_option maxHeartbeats 4000000 in
theorem impl_leaders (x y : Value) (W : Wd) (b : Bool) (w : World) (hv : WdOf false w x y W) (hf : FinWS W) (hkk : KK w) (hb : BP b (GdWd W)) :
    Calls Tryz.prog 54 #[wdv x y] w fun e w' => (∃ v, e = .returned (.tuple #[v, .bool b]) ∧ OL w' w.heap.size v (ldr W b)) ∧ Below w.heap.size w w' := by
  have hal := low1 w (.cells #[x, y] 59)
  have HV := hide (hv.below hal)
  have HC := hide (new2 w x y 59)
  have HF := hide hf
  have HB := hide hb
  have HK0 := hide (hkk.below hal)
  clear hkk
  obtain ⟨a, m, c, n, rfl, rfl⟩ := hv.form
  obtain ⟨⟨q0, q1⟩, -⟩ := HC.out.duo
  have hrs : W.rs.length ≤ 1048576 := HF.out.1.1
  clear hv hf hb
  cases b
  · go_enter Tryz.func54, Tryz.ntmps54
    go_wp2_with fail
    refine (impl_gw _ _ W false _ HV.out HF.out HK0.out HB.out).mono ?_
    rintro e w1 ⟨rfl, hb1⟩
    have hbw := hal.trans (hb1.mono hal.size)
    clear hb1 hal
    go_wp2
    go_ret2
    exact ⟨⟨_, rfl, OL.nil _ _⟩, hbw⟩
  · have HG := hide (HB.out.1 rfl)
    go_enter Tryz.func54, Tryz.ntmps54
    go_wp2_with fail
    refine (impl_gw _ _ W true _ HV.out HF.out HK0.out HB.out).mono ?_
    rintro e w1 ⟨rfl, hb1⟩
    have hbw1 := hal.trans (hb1.mono hal.size)
    obtain ⟨⟨p0, p1⟩, -⟩ := (HC.out.down hb1).duo
    have HV1 := hide (HV.out.below hb1)
    clear hb1 hal q0 q1
    go_wp2
    clear p0 p1
    go_loopw [4, 13] (fun s i wr => ∃ (k : Nat) (a' : Option Addr) (n' c' : Nat), k ≤ W.rs.length ∧ s = .slice a' n' c' ∧ i = .int .i64 k ∧ Hid (OL wr w1.heap.size (.slice a' n' c') (ldK W k)) ∧ Below w1.heap.size w1 wr) (fun _ i _ => W.rs.length - (intOf i).toNat)
    case atStart => exact ⟨0, none, 0, 0, Nat.zero_le _, rfl, rfl, hide (by rw [ldK_zero]; exact OL.nil _ _), Below.refl _ _⟩
    case round =>
      obtain ⟨k, a', n', c', hk, rfl, rfl, HO, hbw⟩ := hrel
      by_cases hlt : k < W.rs.length
      · obtain ⟨r, hr⟩ : ∃ r, W.rs[k]? = some r := ⟨W.rs[k], List.getElem?_eq_getElem hlt⟩
        obtain ⟨g, off, rfl, hlg, u, hc3, hs, hco⟩ := HV1.out.r.at hr
        obtain ⟨c0, c1, c2⟩ := hc3
        have c0 := (hbw.cell (p := ⟨g, off + k * 3, none⟩) hlg).trans c0
        have c1 := (hbw.cell (p := ⟨g, off + k * 3 + 1, none⟩) hlg).trans c1
        have c2 := (hbw.cell (p := ⟨g, off + k * 3 + 2, none⟩) hlg).trans c2
        obtain ⟨au, cu, hu⟩ := hs.form
        subst hu
        have hgr := gdr_ok HG.out hr
        have HID := hide hgr.1
        have hrq := low1 wr (.cells #[.int .i64 r.id, .int .i64 r.ver, .slice au r.bs.length cu] 32)
        have hbq := hbw.trans (hrq.mono hbw.size)
        have HOQ := hide (HO.out.down hrq)
        have HQ := hide (new3 wr (.int .i64 r.id) (.int .i64 r.ver) (.slice au r.bs.length cu) 32)
        have hlk := ldK_len W k
        have HR := hide hr
        clear hs hco hr hgr hrq
        cases hl : (rgv r.ver == r.id)
        · have HO2 := hide (ldK_no HR.out hl)
          go_wp2_with (go_at_call 104; refine (impl_leads _ _ _).mono ?_; rw [hl]; rintro e w2 ⟨rfl, hw2⟩; have hbw2 : Below w1.heap.size w1 w2 := (by rw [hw2]; exact hbq); have HOW := hide (show OL w2 w1.heap.size (.slice a' n' c') (ldK W k) from by rw [hw2]; exact HOQ.out); obtain ⟨⟨m0, m1, m2⟩, -⟩ := (show Blk w2 wr.heap.size 3 (q3 (.int .i64 r.id) (.int .i64 r.ver) (.slice au r.bs.length cu)) 32 from by rw [hw2]; exact HQ.out).tri; clear hw2 HOQ HO HQ hbq hbw)
          go_roundw
          case rel => exact ⟨k + 1, _, _, _, by omega, rfl, by go_num, hide (by rw [HO2.out]; exact HOW.out), hbw2⟩
          case measure => simp [intOf]; omega
        · have HO2 := hide (ldK_yes HR.out hl)
          go_wp2_with (first | (go_at_call 104; refine (impl_leads _ _ _).mono ?_; rw [hl]; rintro e w2 ⟨rfl, hw2⟩; have hbw2 : Below w1.heap.size w1 w2 := (by rw [hw2]; exact hbq); have HOW := hide (show OL w2 w1.heap.size (.slice a' n' c') (ldK W k) from by rw [hw2]; exact HOQ.out); obtain ⟨⟨m0, m1, m2⟩, -⟩ := (show Blk w2 wr.heap.size 3 (q3 (.int .i64 r.id) (.int .i64 r.ver) (.slice au r.bs.length cu)) 32 from by rw [hw2]; exact HQ.out).tri; clear hw2 HOQ HO HQ hbq hbw) | (at_builtin; have hal3 := low1 w2 (.cells #[.int .i64 r.id] 3); have HO3 := hide (HOW.out.down hal3); have HU3 := hide (show (w2.alloc (.cells #[.int .i64 r.id] 3)).cell? ⟨w2.heap.size, 0, none⟩ = some (.int .i64 r.id) from by simp); have hb3 := hbw2.trans (hal3.mono hbw2.size); refine wpList_appI _ rfl _ _ rfl w1.heap.size (ldK W k) r.id _ rfl HO3.out _ 1 rfl HU3.out (by omega) hb3.size ?_; intro a4 n4 c4 w4 hO4 hg4; have HO4 := hide (show OL w4 w1.heap.size (.slice a4 n4 c4) (ldK W (k + 1)) from by rw [HO2.out]; exact hO4); have hgl : ∀ q, (Value.slice a' n' c').ownBlock = some q → w1.heap.size ≤ q := fun q hq => (HO3.out.lt hq).1; have hb4 : Below w1.heap.size w1 w4 := ⟨hg4.os.trans hb3.os, hg4.tape.trans hb3.tape, hg4.output.trans hb3.output, Nat.le_trans hb3.size hg4.size, fun j hj => (hg4.block j (Nat.lt_of_lt_of_le hj hb3.size) (fun e => by have := hgl j e.symm; omega)).trans (hb3.block j hj)⟩; clear hO4 hg4 hgl HO3 HU3 hb3 hal3 HOW))
          go_roundw
          case rel => exact ⟨k + 1, _, _, _, by omega, rfl, by go_num, HO4, hb4⟩
          case measure => simp [intOf]; omega
      · obtain rfl : k = W.rs.length := by omega
        have HY := hide (show OL wr w.heap.size (.slice a' n' c') (ldr W true) from OL.mono HO.out hbw1.size)
        clear HO
        go_wp2
        go_ret2
        exact ⟨⟨_, rfl, HY.out⟩, hbw1.trans (hbw.mono hbw1.size)⟩
set_option maxRecDepth 20000 in
set_option maxHeartbeats 4000000 in
theorem spec_leaders (x y : Value) (W : Wd) (b : Bool) (w : World) (hv : WdOf true w x y W) (hf : FinWS W) (hb : BP b (GdWd W)) :
    Calls Tryz.prog 53 #[wdv x y] w fun e w' => (∃ v, e = .returned (.tuple #[v, .bool b]) ∧ OL w' w.heap.size v (ldr W b)) ∧ Below w.heap.size w w' := by
  have hal := low1 w (.cells #[x, y] 59)
  have HV := hide (hv.below hal)
  have HC := hide (new2 w x y 59)
  have HF := hide hf
  have HB := hide hb
  have hco0 : true = true := rfl
  obtain ⟨a, m, c, n, rfl, rfl⟩ := hv.form
  obtain ⟨⟨q0, q1⟩, -⟩ := HC.out.duo
  have hrs : W.rs.length ≤ 1048576 := HF.out.1.1
  clear hv hf hb
  cases b
  · go_enter Tryz.func53, Tryz.ntmps53
    go_wp2_with fail
    refine (spec_gw _ _ W false _ HV.out HF.out  HB.out).mono ?_
    rintro e w1 ⟨rfl, hb1⟩
    have hbw := hal.trans (hb1.mono hal.size)
    clear hb1 hal
    go_wp2
    go_ret2
    exact ⟨⟨_, rfl, OL.nil _ _⟩, hbw⟩
  · have HG := hide (HB.out.1 rfl)
    go_enter Tryz.func53, Tryz.ntmps53
    go_wp2_with fail
    refine (spec_gw _ _ W true _ HV.out HF.out  HB.out).mono ?_
    rintro e w1 ⟨rfl, hb1⟩
    have hbw1 := hal.trans (hb1.mono hal.size)
    obtain ⟨⟨p0, p1⟩, -⟩ := (HC.out.down hb1).duo
    have HV1 := hide (HV.out.below hb1)
    clear hb1 hal q0 q1
    go_wp2
    clear p0 p1
    go_loopw [4, 13] (fun s i wr => ∃ (k : Nat) (a' : Option Addr) (n' c' : Nat), k ≤ W.rs.length ∧ s = .slice a' n' c' ∧ i = .int .i64 k ∧ Hid (OL wr w1.heap.size (.slice a' n' c') (ldK W k)) ∧ Below w1.heap.size w1 wr) (fun _ i _ => W.rs.length - (intOf i).toNat)
    case atStart => exact ⟨0, none, 0, 0, Nat.zero_le _, rfl, rfl, hide (by rw [ldK_zero]; exact OL.nil _ _), Below.refl _ _⟩
    case round =>
      obtain ⟨k, a', n', c', hk, rfl, rfl, HO, hbw⟩ := hrel
      by_cases hlt : k < W.rs.length
      · obtain ⟨r, hr⟩ : ∃ r, W.rs[k]? = some r := ⟨W.rs[k], List.getElem?_eq_getElem hlt⟩
        obtain ⟨g, off, rfl, hlg, u, hc3, hs, hco⟩ := HV1.out.r.at hr
        obtain ⟨c0, c1, c2⟩ := hc3
        have c0 := (hbw.cell (p := ⟨g, off + k * 3, none⟩) hlg).trans c0
        have c1 := (hbw.cell (p := ⟨g, off + k * 3 + 1, none⟩) hlg).trans c1
        have c2 := (hbw.cell (p := ⟨g, off + k * 3 + 2, none⟩) hlg).trans c2
        obtain ⟨au, cu, hu⟩ := hs.form
        subst hu
        have hgr := gdr_ok HG.out hr
        have HID := hide hgr.1
        have hrq := low1 wr (.cells #[.int .i64 r.id, .int .i64 r.ver, .slice au r.bs.length cu] 32)
        have hbq := hbw.trans (hrq.mono hbw.size)
        have HOQ := hide (HO.out.down hrq)
        have HQ := hide (new3 wr (.int .i64 r.id) (.int .i64 r.ver) (.slice au r.bs.length cu) 32)
        have hlk := ldK_len W k
        have HR := hide hr
        have hrg : rgv r.ver = r.ver % 10 := by unfold rgv; rw [if_pos (inB_iff.2 hgr.2.2.1)]
        have HS2 := hide (show Calls Tryz.prog 70 #[rv r.id r.ver (.slice au r.bs.length cu)] (wr.alloc (.cells #[.int .i64 r.id, .int .i64 r.ver, .slice au r.bs.length cu] 32)) _ from (by have h := spec_act r.id r.ver _ r.bs _ (hs.below hbq) hgr.2.2.1.1 hgr.2.2.1.2; rw [← hrg] at h; exact h))
        clear hrg
        clear hs hco hr hgr hrq
        cases hl : (rgv r.ver == r.id)
        · have HO2 := hide (ldK_no HR.out hl)
          go_wp2_with (go_at_call 70; refine HS2.out.mono ?_; rw [hl]; rintro e w2 ⟨rfl, hb2⟩; have hbw2 : Below w1.heap.size w1 w2 := hbq.trans (hb2.mono hbq.size); have HOW := hide (show OL w2 w1.heap.size (.slice a' n' c') (ldK W k) from HOQ.out.down hb2); clear hb2 HOQ HO HQ hbq hbw)
          go_roundw
          case rel => exact ⟨k + 1, _, _, _, by omega, rfl, by go_num, hide (by rw [HO2.out]; exact HOW.out), hbw2⟩
          case measure => simp [intOf]; omega
        · have HO2 := hide (ldK_yes HR.out hl)
          go_wp2_with (first | (go_at_call 70; refine HS2.out.mono ?_; rw [hl]; rintro e w2 ⟨rfl, hb2⟩; have hbw2 : Below w1.heap.size w1 w2 := hbq.trans (hb2.mono hbq.size); have HOW := hide (show OL w2 w1.heap.size (.slice a' n' c') (ldK W k) from HOQ.out.down hb2); clear hb2 HOQ HO HQ hbq hbw) | (at_builtin; have hal3 := low1 w2 (.cells #[.int .i64 (k : Int)] 3); have HO3 := hide (HOW.out.down hal3); have HU3 := hide (show (w2.alloc (.cells #[.int .i64 (k : Int)] 3)).cell? ⟨w2.heap.size, 0, none⟩ = some (.int .i64 (k : Int)) from by simp); have hb3 := hbw2.trans (hal3.mono hbw2.size); refine wpList_appI _ rfl _ _ rfl w1.heap.size (ldK W k) (k : Int) _ rfl HO3.out _ 1 rfl HU3.out (by omega) hb3.size ?_; intro a4 n4 c4 w4 hO4 hg4; have HO4 := hide (show OL w4 w1.heap.size (.slice a4 n4 c4) (ldK W (k + 1)) from by rw [HO2.out]; rw [HID.out]; exact hO4); have hgl : ∀ q, (Value.slice a' n' c').ownBlock = some q → w1.heap.size ≤ q := fun q hq => (HO3.out.lt hq).1; have hb4 : Below w1.heap.size w1 w4 := ⟨hg4.os.trans hb3.os, hg4.tape.trans hb3.tape, hg4.output.trans hb3.output, Nat.le_trans hb3.size hg4.size, fun j hj => (hg4.block j (Nat.lt_of_lt_of_le hj hb3.size) (fun e => by have := hgl j e.symm; omega)).trans (hb3.block j hj)⟩; clear hO4 hg4 hgl HO3 HU3 hb3 hal3 HOW))
          go_roundw
          case rel => exact ⟨k + 1, _, _, _, by omega, rfl, by go_num, HO4, hb4⟩
          case measure => simp [intOf]; omega
      · obtain rfl : k = W.rs.length := by omega
        have HY := hide (show OL wr w.heap.size (.slice a' n' c') (ldr W true) from OL.mono HO.out hbw1.size)
        clear HO
        go_wp2
        go_ret2
        exact ⟨⟨_, rfl, HY.out⟩, hbw1.trans (hbw.mono hbw1.size)⟩
end Go.Proofs.YtjgopjnkkhkcnaaGreatDoor

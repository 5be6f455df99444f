/-
  Which worlds are good, in both texts.
-/
import Derived.Test.YtjgopjnkkhkcnaaGreatDoorWoB
import Derived.Test.YtjgopjnkkhkcnaaGreatDoorRgB
import Derived.Test.YtjgopjnkkhkcnaaGreatDoorRgS
import Derived.Lib.QuietBelow
import Derived.BigQuiet
namespace Go.Proofs.YtjgopjnkkhkcnaaGreatDoor
open Go.RowKit M
open Go.Sort (grow)
namespace M
def Rk (W : Wd) (k : Nat) : Prop := ∀ (i : Nat) r, i < k → W.rs[i]? = some r → r.id = (i : Int) ∧ GdW r.ver r.bs
def Lk (W : Wd) (k : Nat) : Prop := ∀ (i : Nat) s, i < k → W.ln[i]? = some s → GdS s
theorem Rk.zero (W : Wd) : Rk W 0 := fun _ _ h => absurd h (Nat.not_lt_zero _)
theorem Lk.zero (W : Wd) : Lk W 0 := fun _ _ h => absurd h (Nat.not_lt_zero _)
theorem Rk.succ {W : Wd} {k : Nat} {r : Rg} (h : Rk W k) (hr : W.rs[k]? = some r) (h1 : r.id = (k : Int)) (h2 : GdW r.ver r.bs) : Rk W (k + 1) := fun i x hi hx => by
  by_cases c : i = k
  · subst c; rw [hr] at hx; simp only [Option.some.injEq] at hx; subst hx; exact ⟨h1, h2⟩
  · exact h i x (by omega) hx
theorem Lk.succ {W : Wd} {k : Nat} {s : Rg} (h : Lk W k) (hs : W.ln[k]? = some s) (h1 : GdS s) : Lk W (k + 1) := fun i x hi hx => by
  by_cases c : i = k
  · subst c; rw [hs] at hx; simp only [Option.some.injEq] at hx; subst hx; exact h1
  · exact h i x (by omega) hx
theorem gw_all {W : Wd} (h2 : W.rs.length = 2) (h20 : W.ln.length ≤ 20) (hr : Rk W W.rs.length) (hl : Lk W W.ln.length) : GdWd W :=
  ⟨h2, h20, fun i r hi => hr i r (List.getElem?_eq_some_iff.1 hi).1 hi, fun s hs => by
    obtain ⟨i, hi⟩ := List.getElem?_of_mem hs
    exact hl i s (List.getElem?_eq_some_iff.1 hi).1 hi⟩
theorem gdr_ok {W : Wd} {i : Nat} {r : Rg} (h : GdWd W) (hi : W.rs[i]? = some r) : r.id = (i : Int) ∧ GdR r := by
  obtain ⟨h1, h2⟩ := h.2.2.1 i r hi
  have hl := (List.getElem?_eq_some_iff.1 hi).1
  have := h.1
  exact ⟨h1, ⟨by omega, by omega⟩, h2⟩
end M
theorem impl_wreg (n : Int) (w : World) :
    Calls Tryz.prog 81 #[.int .i64 n] w fun e w' => e = .returned (.bool (inB n 0 1)) ∧ w' = w := by
  go_enter Tryz.func81, Tryz.ntmps81
  go_wp2_with (go_at_call 138; refine (impl_in _ _ _ _).mono ?_; rintro e w' ⟨rfl, rfl⟩)
  go_ret
  exact ⟨rfl, rfl⟩
set_option maxRecDepth 20000 in
set_option maxHeartbeats 2000000 in
theorem impl_gw (x y : Value) (W : Wd) (b : Bool) (w : World) (hv : WdOf false w x y W) (hf : FinWS W) (hkk : KK w) (hb : BP b (GdWd W)) :
    Calls Tryz.prog 32 #[wdv x y] w fun e w' => e = .returned (.bool b) ∧ Below w.heap.size w w' := by
  have hal := low1 w (.cells #[x, y] 59)
  have HV := hide hv
  have HC0 := hide (new2 w x y 59)
  have HF := hide hf
  have HB := hide hb
  have HK := hide hkk
  clear hkk
  obtain ⟨a, m, c, n, rfl, rfl⟩ := hv.form
  obtain ⟨⟨q0, q1⟩, -⟩ := HC0.out.duo
  clear hv hf hb
  by_cases h2 : W.rs.length = 2
  case neg =>
    have hne : ((W.rs.length : Int) != 2) = true := by simp; omega
    have hne2 : (W.rs.length != 2) = true := by simp; omega
    have HN := hide (HB.out.no (fun h => h2 h.1))
    clear h2
    go_enter Tryz.func32, Tryz.ntmps32
    go_wp2
    go_ret
    exact ⟨ret_bool HN.out.symm, hal⟩
  have hne : ((W.rs.length : Int) != 2) = false := by simp; omega
  have hne2 : (W.rs.length != 2) = false := by simp; omega
  by_cases h20 : W.ln.length ≤ 20
  case neg =>
    have hgt : decide ((W.ln.length : Int) > 20) = true := decide_eq_true (by omega)
    have hgt2 : decide (20 < W.ln.length) = true := decide_eq_true (by omega)
    have hgt3 : decide ((20 : Int) < (W.ln.length : Int)) = true := decide_eq_true (by omega)
    have HN := hide (HB.out.no (fun h => h20 h.2.1))
    clear h20 h2
    go_enter Tryz.func32, Tryz.ntmps32
    go_wp2
    go_ret
    exact ⟨ret_bool HN.out.symm, hal⟩
  have hgt : decide ((W.ln.length : Int) > 20) = false := decide_eq_false (by omega)
  have hgt2 : decide (20 < W.ln.length) = false := decide_eq_false (by omega)
  have hgt3 : decide ((20 : Int) < (W.ln.length : Int)) = false := decide_eq_false (by omega)
  have H2 := hide h2
  have H20 := hide h20
  have hrs : W.rs.length ≤ 1048576 := HF.out.1.1
  clear h2 h20
  go_enter Tryz.func32, Tryz.ntmps32
  go_wp2
  clear hne hne2 hgt hgt2 hgt3 q0 q1
  go_loopw [20] (fun i wr => ∃ k : Nat, k ≤ W.rs.length ∧ i = .int .i64 k ∧ Hid (Rk W k) ∧ Hid (Blk wr w.heap.size 2 (q2 (.slice a W.rs.length m) (.slice c W.ln.length n)) 59) ∧ Below w.heap.size w wr) (fun i _ => W.rs.length - (intOf i).toNat)
  case atStart => exact ⟨0, Nat.zero_le _, rfl, hide (Rk.zero W), HC0, hal⟩
  case round =>
    obtain ⟨k, hk, rfl, HR, HX, hbw⟩ := hrel
    clear HC0 hal
    by_cases hlt : k < W.rs.length
    · obtain ⟨r, he⟩ : ∃ e, W.rs[k]? = some e := ⟨W.rs[k], List.getElem?_eq_getElem hlt⟩
      obtain ⟨g, off, rfl, hlg, u, hc3, hs, hco⟩ := HV.out.r.at he
      obtain ⟨c0, c1, c2⟩ := hc3
      have c0 := (hbw.cell (p := ⟨g, off + k * 3, none⟩) hlg).trans c0
      have c1 := (hbw.cell (p := ⟨g, off + k * 3 + 1, none⟩) hlg).trans c1
      have c2 := (hbw.cell (p := ⟨g, off + k * 3 + 2, none⟩) hlg).trans c2
      have HFE := hide (HF.out.1.2 r (List.mem_of_getElem? he))
      obtain ⟨au, cu, hu⟩ := hs.form
      subst hu
      have hrq := low1 wr (.cells #[.int .i64 r.id, .int .i64 r.ver, .slice au r.bs.length cu] 32)
      have hbq := hbw.trans (hrq.mono hbw.size)
      have HQ := hide (new3 wr (.int .i64 r.id) (.int .i64 r.ver) (.slice au r.bs.length cu) 32)
      have HX2 := hide (HX.out.down hrq)
      obtain ⟨gb, hgb⟩ := bp_ex (GdR r)
      have HGB := hide hgb
      have HG := hide (impl_goodR r.id r.ver _ r.bs gb _ (hs.below hbq) HFE.out (HK.out.below hbq) hgb)
      have HE := hide he
      clear hs hco he hgb hrq
      by_cases hid : r.id = (k : Int)
      case neg =>
       have hne : (r.id != (k : Int)) = true := by simp [hid]
       have HID := hide hid
       clear hid
       cases gb
       · have HN := hide (show b = false from HB.out.no (fun h => HID.out (gdr_ok h HE.out).1))
         clear HR HX HF HV
         go_wp2_with (go_at_call 60; refine HG.out.mono ?_; rintro e w2 ⟨rfl, hb2⟩; obtain ⟨⟨m0, m1, m2⟩, -⟩ := (HQ.out.down hb2).tri)
         go_ret
         first | exact ⟨ret_bool HN.out.symm, hbq.trans (hb2.mono hbq.size)⟩ | exact ⟨ret_bool HN.out.symm, hbq⟩
       · have HN := hide (show b = false from HB.out.no (fun h => HID.out (gdr_ok h HE.out).1))
         clear HR HX HF HV
         go_wp2_with (go_at_call 60; refine HG.out.mono ?_; rintro e w2 ⟨rfl, hb2⟩; obtain ⟨⟨m0, m1, m2⟩, -⟩ := (HQ.out.down hb2).tri)
         go_ret
         first | exact ⟨ret_bool HN.out.symm, hbq.trans (hb2.mono hbq.size)⟩ | exact ⟨ret_bool HN.out.symm, hbq⟩
      have hne : (r.id != (k : Int)) = false := by simp [hid]
      have HID := hide hid
      clear hid
      cases gb
      · have HN := hide (show b = false from HB.out.no (fun h => by have := HGB.out.2 (gdr_ok h HE.out).2; cases this))
        clear HR HX HF HV
        go_wp2_with (go_at_call 60; refine HG.out.mono ?_; rintro e w2 ⟨rfl, hb2⟩; obtain ⟨⟨m0, m1, m2⟩, -⟩ := (HQ.out.down hb2).tri)
        go_ret
        first | exact ⟨ret_bool HN.out.symm, hbq.trans (hb2.mono hbq.size)⟩ | exact ⟨ret_bool HN.out.symm, hbq⟩
      · have HR2 := hide (HR.out.succ HE.out HID.out (HGB.out.1 rfl).2)
        clear HR HX
        go_wp2_with (go_at_call 60; refine HG.out.mono ?_; rintro e w2 ⟨rfl, hb2⟩; obtain ⟨⟨m0, m1, m2⟩, -⟩ := (HQ.out.down hb2).tri; have hbw2 := hbq.trans (hb2.mono hbq.size); have HX3 := hide (HX2.out.down hb2); clear hb2)
        go_roundw
        case rel => exact ⟨k + 1, by omega, by go_num, HR2, HX3, hbw2⟩
        case measure => simp [intOf]; omega
    · obtain rfl : k = W.rs.length := by omega
      obtain ⟨⟨q0, q1⟩, -⟩ := HX.out.duo
      have hln : W.ln.length ≤ 1048576 := HF.out.2.1
      go_wp2
      clear q0 q1
      go_loopw [38] (fun i wr => ∃ k : Nat, k ≤ W.ln.length ∧ i = .int .i64 k ∧ Hid (Lk W k) ∧ Below w.heap.size w wr) (fun i _ => W.ln.length - (intOf i).toNat)
      case atStart => exact ⟨0, Nat.zero_le _, rfl, hide (Lk.zero W), hbw⟩
      case round =>
        rename World => wx
        clear HX hbw hlt hk
        obtain ⟨k, hk, rfl, HL, hbw⟩ := hrel
        by_cases hlt : k < W.ln.length
        · obtain ⟨r, he⟩ : ∃ e, W.ln[k]? = some e := ⟨W.ln[k], List.getElem?_eq_getElem hlt⟩
          obtain ⟨g, off, rfl, hlg, u, hc3, hs, hco⟩ := HV.out.l.at he
          obtain ⟨c0, c1, c2⟩ := hc3
          have c0 := (hbw.cell (p := ⟨g, off + k * 3, none⟩) hlg).trans c0
          have c1 := (hbw.cell (p := ⟨g, off + k * 3 + 1, none⟩) hlg).trans c1
          have c2 := (hbw.cell (p := ⟨g, off + k * 3 + 2, none⟩) hlg).trans c2
          have HFE := hide (HF.out.2.2 r (List.mem_of_getElem? he))
          obtain ⟨au, cu, hu⟩ := hs.form
          subst hu
          have hrq := low1 wx (.cells #[.int .i64 r.id, .int .i64 r.ver, .slice au r.bs.length cu] 121)
          have hbq := hbw.trans (hrq.mono hbw.size)
          obtain ⟨gb, hgb⟩ := bp_ex (GdW r.ver r.bs)
          have HGB := hide hgb
          have HG := hide (impl_goodWord r.ver _ r.bs gb _ (hs.below hbq) HFE.out (HK.out.below hbq) hgb)
          obtain ⟨ib, hib⟩ : ∃ ib, inB r.id 0 1 = ib := ⟨_, rfl⟩
          have HIB := hide hib
          have HE := hide he
          clear hs hco he hgb hrq hib
          cases ib
          · cases gb
            · have HN := hide (show b = false from HB.out.no (fun h => by have := inB_iff.2 (h.2.2.2 r (List.mem_of_getElem? HE.out)).1; rw [HIB.out] at this; cases this))
              clear HR HL HF HV
              go_wp2_with (first | (go_at_call 81; refine (impl_wreg _ _).mono ?_; rintro e w2 ⟨rfl, rfl⟩; rw [HIB.out]) | (go_at_call 82; refine HG.out.mono ?_; rintro e w2 ⟨rfl, hb2⟩))
              go_ret
              first | exact ⟨ret_bool HN.out.symm, hbq.trans (hb2.mono hbq.size)⟩ | exact ⟨ret_bool HN.out.symm, hbq⟩
            · have HN := hide (show b = false from HB.out.no (fun h => by have := inB_iff.2 (h.2.2.2 r (List.mem_of_getElem? HE.out)).1; rw [HIB.out] at this; cases this))
              clear HR HL HF HV
              go_wp2_with (first | (go_at_call 81; refine (impl_wreg _ _).mono ?_; rintro e w2 ⟨rfl, rfl⟩; rw [HIB.out]) | (go_at_call 82; refine HG.out.mono ?_; rintro e w2 ⟨rfl, hb2⟩))
              go_ret
              first | exact ⟨ret_bool HN.out.symm, hbq.trans (hb2.mono hbq.size)⟩ | exact ⟨ret_bool HN.out.symm, hbq⟩
          · cases gb
            · have HN := hide (show b = false from HB.out.no (fun h => by have := HGB.out.2 (h.2.2.2 r (List.mem_of_getElem? HE.out)).2; cases this))
              clear HR HL HF HV
              go_wp2_with (first | (go_at_call 81; refine (impl_wreg _ _).mono ?_; rintro e w2 ⟨rfl, rfl⟩; rw [HIB.out]) | (go_at_call 82; refine HG.out.mono ?_; rintro e w2 ⟨rfl, hb2⟩))
              go_ret
              first | exact ⟨ret_bool HN.out.symm, hbq.trans (hb2.mono hbq.size)⟩ | exact ⟨ret_bool HN.out.symm, hbq⟩
            · have HL2 := hide (HL.out.succ HE.out ⟨inB_iff.1 HIB.out, HGB.out.1 rfl⟩)
              clear HL
              go_wp2_with (first | (go_at_call 81; refine (impl_wreg _ _).mono ?_; rintro e w2 ⟨rfl, rfl⟩; rw [HIB.out]) | (go_at_call 82; refine HG.out.mono ?_; rintro e w2 ⟨rfl, hb2⟩; have hbw2 := hbq.trans (hb2.mono hbq.size); clear hb2))
              go_roundw
              case rel => exact ⟨k + 1, by omega, by go_num, HL2, hbw2⟩
              case measure => simp [intOf]; omega
        · obtain rfl : k = W.ln.length := by omega
          have HY := hide (show b = true from HB.out.yes (gw_all H2.out H20.out HR.out HL.out))
          clear HV HR HL HF
          go_wp2
          go_ret
          exact ⟨ret_bool HY.out.symm, hbw⟩
set_option maxRecDepth 20000 in
set_option maxHeartbeats 2000000 in
theorem spec_gw (x y : Value) (W : Wd) (b : Bool) (w : World) (hv : WdOf true w x y W) (hf : FinWS W) (hb : BP b (GdWd W)) :
    Calls Tryz.prog 30 #[wdv x y] w fun e w' => e = .returned (.bool b) ∧ Below w.heap.size w w' := by
  have hal := low1 w (.cells #[x, y] 59)
  have HV := hide hv
  have HC0 := hide (new2 w x y 59)
  have HF := hide hf
  have HB := hide hb
  have hco0 : true = true := rfl
  obtain ⟨a, m, c, n, rfl, rfl⟩ := hv.form
  obtain ⟨⟨q0, q1⟩, -⟩ := HC0.out.duo
  clear hv hf hb
  by_cases h2 : W.rs.length = 2
  case neg =>
    have hne : ((W.rs.length : Int) != 2) = true := by simp; omega
    have hne2 : (W.rs.length != 2) = true := by simp; omega
    have HN := hide (HB.out.no (fun h => h2 h.1))
    clear h2
    go_enter Tryz.func30, Tryz.ntmps30
    go_wp2
    go_ret
    exact ⟨ret_bool HN.out.symm, hal⟩
  have hne : ((W.rs.length : Int) != 2) = false := by simp; omega
  have hne2 : (W.rs.length != 2) = false := by simp; omega
  by_cases h20 : W.ln.length ≤ 20
  case neg =>
    have hgt : decide ((W.ln.length : Int) > 20) = true := decide_eq_true (by omega)
    have hgt2 : decide (20 < W.ln.length) = true := decide_eq_true (by omega)
    have hgt3 : decide ((20 : Int) < (W.ln.length : Int)) = true := decide_eq_true (by omega)
    have HN := hide (HB.out.no (fun h => h20 h.2.1))
    clear h20 h2
    go_enter Tryz.func30, Tryz.ntmps30
    go_wp2
    go_ret
    exact ⟨ret_bool HN.out.symm, hal⟩
  have hgt : decide ((W.ln.length : Int) > 20) = false := decide_eq_false (by omega)
  have hgt2 : decide (20 < W.ln.length) = false := decide_eq_false (by omega)
  have hgt3 : decide ((20 : Int) < (W.ln.length : Int)) = false := decide_eq_false (by omega)
  have H2 := hide h2
  have H20 := hide h20
  have hrs : W.rs.length ≤ 1048576 := HF.out.1.1
  clear h2 h20
  go_enter Tryz.func30, Tryz.ntmps30
  go_wp2
  clear hne hne2 hgt hgt2 hgt3 q0 q1
  go_loopw [20] (fun i wr => ∃ k : Nat, k ≤ W.rs.length ∧ i = .int .i64 k ∧ Hid (Rk W k) ∧ Hid (Blk wr w.heap.size 2 (q2 (.slice a W.rs.length m) (.slice c W.ln.length n)) 59) ∧ Below w.heap.size w wr) (fun i _ => W.rs.length - (intOf i).toNat)
  case atStart => exact ⟨0, Nat.zero_le _, rfl, hide (Rk.zero W), HC0, hal⟩
  case round =>
    obtain ⟨k, hk, rfl, HR, HX, hbw⟩ := hrel
    clear HC0 hal
    by_cases hlt : k < W.rs.length
    · obtain ⟨r, he⟩ : ∃ e, W.rs[k]? = some e := ⟨W.rs[k], List.getElem?_eq_getElem hlt⟩
      obtain ⟨g, off, rfl, hlg, u, hc3, hs, hco⟩ := HV.out.r.at he
      obtain ⟨c0, c1, c2⟩ := hc3
      have c0 := (hbw.cell (p := ⟨g, off + k * 3, none⟩) hlg).trans c0
      have c1 := (hbw.cell (p := ⟨g, off + k * 3 + 1, none⟩) hlg).trans c1
      have c2 := (hbw.cell (p := ⟨g, off + k * 3 + 2, none⟩) hlg).trans c2
      have HFE := hide (HF.out.1.2 r (List.mem_of_getElem? he))
      obtain ⟨au, cu, hu⟩ := hs.form
      subst hu
      have hrq := low1 wr (.cells #[.int .i64 r.id, .int .i64 r.ver, .slice au r.bs.length cu] 32)
      have hbq := hbw.trans (hrq.mono hbw.size)
      have HQ := hide (new3 wr (.int .i64 r.id) (.int .i64 r.ver) (.slice au r.bs.length cu) 32)
      have HX2 := hide (HX.out.down hrq)
      obtain ⟨gb, hgb⟩ := bp_ex (GdR r)
      have HGB := hide hgb
      have HG := hide (spec_goodR r.id r.ver _ r.bs gb _ (hs.below hbq) HFE.out (hco rfl) hgb)
      have HE := hide he
      clear hs hco he hgb hrq
      by_cases hid : r.id = (k : Int)
      case neg =>
       have hne : (r.id != (k : Int)) = true := by simp [hid]
       have HID := hide hid
       clear hid
       cases gb
       · have HN := hide (show b = false from HB.out.no (fun h => HID.out (gdr_ok h HE.out).1))
         clear HR HX HF HV
         go_wp2_with (go_at_call 56; refine HG.out.mono ?_; rintro e w2 ⟨rfl, hb2⟩; obtain ⟨⟨m0, m1, m2⟩, -⟩ := (HQ.out.down hb2).tri)
         go_ret
         first | exact ⟨ret_bool HN.out.symm, hbq.trans (hb2.mono hbq.size)⟩ | exact ⟨ret_bool HN.out.symm, hbq⟩
       · have HN := hide (show b = false from HB.out.no (fun h => HID.out (gdr_ok h HE.out).1))
         clear HR HX HF HV
         go_wp2_with (go_at_call 56; refine HG.out.mono ?_; rintro e w2 ⟨rfl, hb2⟩; obtain ⟨⟨m0, m1, m2⟩, -⟩ := (HQ.out.down hb2).tri)
         go_ret
         first | exact ⟨ret_bool HN.out.symm, hbq.trans (hb2.mono hbq.size)⟩ | exact ⟨ret_bool HN.out.symm, hbq⟩
      have hne : (r.id != (k : Int)) = false := by simp [hid]
      have HID := hide hid
      clear hid
      cases gb
      · have HN := hide (show b = false from HB.out.no (fun h => by have := HGB.out.2 (gdr_ok h HE.out).2; cases this))
        clear HR HX HF HV
        go_wp2_with (go_at_call 56; refine HG.out.mono ?_; rintro e w2 ⟨rfl, hb2⟩; obtain ⟨⟨m0, m1, m2⟩, -⟩ := (HQ.out.down hb2).tri)
        go_ret
        first | exact ⟨ret_bool HN.out.symm, hbq.trans (hb2.mono hbq.size)⟩ | exact ⟨ret_bool HN.out.symm, hbq⟩
      · have HR2 := hide (HR.out.succ HE.out HID.out (HGB.out.1 rfl).2)
        clear HR HX
        go_wp2_with (go_at_call 56; refine HG.out.mono ?_; rintro e w2 ⟨rfl, hb2⟩; obtain ⟨⟨m0, m1, m2⟩, -⟩ := (HQ.out.down hb2).tri; have hbw2 := hbq.trans (hb2.mono hbq.size); have HX3 := hide (HX2.out.down hb2); clear hb2)
        go_roundw
        case rel => exact ⟨k + 1, by omega, by go_num, HR2, HX3, hbw2⟩
        case measure => simp [intOf]; omega
    · obtain rfl : k = W.rs.length := by omega
      obtain ⟨⟨q0, q1⟩, -⟩ := HX.out.duo
      have hln : W.ln.length ≤ 1048576 := HF.out.2.1
      go_wp2
      clear q0 q1
      go_loopw [38] (fun i wr => ∃ k : Nat, k ≤ W.ln.length ∧ i = .int .i64 k ∧ Hid (Lk W k) ∧ Below w.heap.size w wr) (fun i _ => W.ln.length - (intOf i).toNat)
      case atStart => exact ⟨0, Nat.zero_le _, rfl, hide (Lk.zero W), hbw⟩
      case round =>
        rename World => wx
        clear HX hbw hlt hk
        obtain ⟨k, hk, rfl, HL, hbw⟩ := hrel
        by_cases hlt : k < W.ln.length
        · obtain ⟨r, he⟩ : ∃ e, W.ln[k]? = some e := ⟨W.ln[k], List.getElem?_eq_getElem hlt⟩
          obtain ⟨g, off, rfl, hlg, u, hc3, hs, hco⟩ := HV.out.l.at he
          obtain ⟨c0, c1, c2⟩ := hc3
          have c0 := (hbw.cell (p := ⟨g, off + k * 3, none⟩) hlg).trans c0
          have c1 := (hbw.cell (p := ⟨g, off + k * 3 + 1, none⟩) hlg).trans c1
          have c2 := (hbw.cell (p := ⟨g, off + k * 3 + 2, none⟩) hlg).trans c2
          have HFE := hide (HF.out.2.2 r (List.mem_of_getElem? he))
          obtain ⟨au, cu, hu⟩ := hs.form
          subst hu
          have hrq := low1 wx (.cells #[.int .i64 r.id, .int .i64 r.ver, .slice au r.bs.length cu] 121)
          have hbq := hbw.trans (hrq.mono hbw.size)
          obtain ⟨gb, hgb⟩ := bp_ex (GdR ⟨0, r.ver, r.bs⟩)
          have HGB := hide hgb
          have HG := hide (spec_goodR 0 r.ver _ r.bs gb _ (hs.below hbq) HFE.out (hco rfl) hgb)
          obtain ⟨ib, hib⟩ : ∃ ib, inB r.id 0 1 = ib := ⟨_, rfl⟩
          have HIB := hide hib
          have HE := hide he
          clear hs hco he hgb hrq hib
          cases ib
          · cases gb
            · have HN := hide (show b = false from HB.out.no (fun h => by have := inB_iff.2 (h.2.2.2 r (List.mem_of_getElem? HE.out)).1; rw [HIB.out] at this; cases this))
              clear HR HL HF HV
              go_wp2_with (first | (go_at_call 78; refine (spec_in _ _ _ _).mono ?_; rintro e w2 ⟨rfl, rfl⟩; rw [HIB.out]) | (go_at_call 56; refine HG.out.mono ?_; rintro e w2 ⟨rfl, hb2⟩))
              go_ret
              first | exact ⟨ret_bool HN.out.symm, hbq.trans (hb2.mono hbq.size)⟩ | exact ⟨ret_bool HN.out.symm, hbq⟩
            · have HN := hide (show b = false from HB.out.no (fun h => by have := inB_iff.2 (h.2.2.2 r (List.mem_of_getElem? HE.out)).1; rw [HIB.out] at this; cases this))
              clear HR HL HF HV
              go_wp2_with (first | (go_at_call 78; refine (spec_in _ _ _ _).mono ?_; rintro e w2 ⟨rfl, rfl⟩; rw [HIB.out]) | (go_at_call 56; refine HG.out.mono ?_; rintro e w2 ⟨rfl, hb2⟩))
              go_ret
              first | exact ⟨ret_bool HN.out.symm, hbq.trans (hb2.mono hbq.size)⟩ | exact ⟨ret_bool HN.out.symm, hbq⟩
          · cases gb
            · have HN := hide (show b = false from HB.out.no (fun h => by have := HGB.out.2 ⟨⟨(show (0 : Int) ≤ 0 from by decide), (show (0 : Int) ≤ 9 from by decide)⟩, (h.2.2.2 r (List.mem_of_getElem? HE.out)).2⟩; cases this))
              clear HR HL HF HV
              go_wp2_with (first | (go_at_call 78; refine (spec_in _ _ _ _).mono ?_; rintro e w2 ⟨rfl, rfl⟩; rw [HIB.out]) | (go_at_call 56; refine HG.out.mono ?_; rintro e w2 ⟨rfl, hb2⟩))
              go_ret
              first | exact ⟨ret_bool HN.out.symm, hbq.trans (hb2.mono hbq.size)⟩ | exact ⟨ret_bool HN.out.symm, hbq⟩
            · have HL2 := hide (HL.out.succ HE.out ⟨inB_iff.1 HIB.out, (HGB.out.1 rfl).2⟩)
              clear HL
              go_wp2_with (first | (go_at_call 78; refine (spec_in _ _ _ _).mono ?_; rintro e w2 ⟨rfl, rfl⟩; rw [HIB.out]) | (go_at_call 56; refine HG.out.mono ?_; rintro e w2 ⟨rfl, hb2⟩; have hbw2 := hbq.trans (hb2.mono hbq.size); clear hb2))
              go_roundw
              case rel => exact ⟨k + 1, by omega, by go_num, HL2, hbw2⟩
              case measure => simp [intOf]; omega
        · obtain rfl : k = W.ln.length := by omega
          have HY := hide (show b = true from HB.out.yes (gw_all H2.out H20.out HR.out HL.out))
          clear HV HR HL HF
          go_wp2
          go_ret
          exact ⟨ret_bool HY.out.symm, hbw⟩
end Go.Proofs.YtjgopjnkkhkcnaaGreatDoor

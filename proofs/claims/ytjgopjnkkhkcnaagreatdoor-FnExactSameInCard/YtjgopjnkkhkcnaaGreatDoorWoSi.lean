/-
  SameIn in the program.
-/
import Derived.Test.YtjgopjnkkhkcnaaGreatDoorWoS
namespace Go.Proofs.YtjgopjnkkhkcnaaGreatDoor
open Go.RowKit M
open Go.Sort (grow)
set_option maxRecDepth 20000 in
set_option maxHeartbeats 1000000 in
theorem impl_same (x y : Value) (W : Wd) (b : Bool) (w : World) (hv : WdOf false w x y W) (hf : FinWS W) (hkk : KK w) (hb : BP b (GdWd W)) :
    Calls Tryz.prog 52 #[wdv x y] w fun e w' => e = .returned (.tuple #[.bool (b && smB W), .bool b]) ∧ Below w.heap.size w w' := by
  have hal := low1 w (.cells #[x, y] 59)
  have HV := hide (hv.below hal)
  have HC := hide (new2 w x y 59)
  have HF := hide hf
  have HB := hide hb
  have HK0 := hide (hkk.below hal)
  clear hkk
  obtain ⟨a, m, c, n, rfl, rfl⟩ := hv.form
  obtain ⟨⟨q0, q1⟩, -⟩ := HC.out.duo
  clear hv hf hb
  cases b
  · go_enter Tryz.func52, Tryz.ntmps52
    go_wp2_with fail
    refine (impl_gw _ _ W false _ HV.out HF.out HK0.out HB.out).mono ?_
    rintro e w1 ⟨rfl, hb1⟩
    have hbw := hal.trans (hb1.mono hal.size)
    clear hb1 hal
    go_wp2
    go_ret2
    exact ⟨rfl, hbw⟩
  · have hg := HB.out.1 rfl
    have h2 := hg.1
    obtain ⟨r, hr⟩ : ∃ r, W.rs[0]? = some r := ⟨W.rs[0]'(by omega), List.getElem?_eq_getElem _⟩
    obtain ⟨s, hs⟩ : ∃ s, W.rs[1]? = some s := ⟨W.rs[1]'(by omega), List.getElem?_eq_getElem _⟩
    have HT := hide (smB_is hr hs)
    obtain ⟨t, ht⟩ : ∃ t, smB W = t := ⟨_, rfl⟩
    rw [ht] at HT
    have HG := hide hg
    have hgr := gdr_ok hg hr
    have hgs := gdr_ok hg hs
    have HFR := hide (HF.out.1.2 r (List.mem_of_getElem? hr))
    have HFS := hide (HF.out.1.2 s (List.mem_of_getElem? hs))
    have HPR := hide (GdT.pl hgr.2.2.2.1)
    have HPS := hide (GdT.pl hgs.2.2.2.1)
    obtain ⟨g, off, rfl, hlg, u, ⟨c0, c1, c2⟩, hsu, -⟩ := HV.out.r.at hr
    obtain ⟨g', off', hgg, -, u2, ⟨e0, e1, e2⟩, hsu2, -⟩ := HV.out.r.at hs
    simp only [Option.some.injEq, Addr.mk.injEq, and_true] at hgg
    obtain ⟨rfl, rfl⟩ := hgg
    obtain ⟨au, cu, hu⟩ := hsu.form
    subst hu
    obtain ⟨au2, cu2, hu2⟩ := hsu2.form
    subst hu2
    have HSU := hide hsu
    have HSU2 := hide hsu2
    have hb2t : (true && t) = t := by simp
    rw [ht]
    clear hr hs hgr hgs hsu hsu2 hg ht h2
    go_enter Tryz.func52, Tryz.ntmps52
    go_wp2_with fail
    refine (impl_gw _ _ W true _ HV.out HF.out HK0.out HB.out).mono ?_
    rintro e w1 ⟨rfl, hb1⟩
    have hbw := hal.trans (hb1.mono hal.size)
    obtain ⟨⟨p0, p1⟩, -⟩ := (HC.out.down hb1).duo
    have k0 := cell_regrown p0
    have k1 := cell_regrown ((hb1.cell (p := ⟨g, off + 0 * 3, none⟩) hlg).trans c0)
    have k2 := cell_regrown ((hb1.cell (p := ⟨g, off + 0 * 3 + 1, none⟩) hlg).trans c1)
    have k3 := cell_regrown ((hb1.cell (p := ⟨g, off + 0 * 3 + 2, none⟩) hlg).trans c2)
    have k4 := cell_regrown ((hb1.cell (p := ⟨g, off + 1 * 3, none⟩) hlg).trans e0)
    have k5 := cell_regrown ((hb1.cell (p := ⟨g, off + 1 * 3 + 1, none⟩) hlg).trans e1)
    have k6 := cell_regrown ((hb1.cell (p := ⟨g, off + 1 * 3 + 2, none⟩) hlg).trans e2)
    have HK := hide (show ∀ d os, Calls Tryz.prog 103 #[rv r.id r.ver (.slice au r.bs.length cu), rv s.id s.ver (.slice au2 s.bs.length cu2)] (grow (redrawn w1 d) os) fun e w'' => e = .returned (.bool t) ∧ ∃ p : Regrown, w'' = grow (redrawn w1 p.d) p.os from fun d os => Calls.regrown_of (know_alike r.id r.ver s.id s.ver _ _ r.bs s.bs t _ (HSU.out.below (hb1.trans ((below_regrown w1 d os).mono hb1.size))) (HSU2.out.below (hb1.trans ((below_regrown w1 d os).mono hb1.size))) HFR.out HFS.out  HT.out))
    simp only [Nat.zero_mul, Nat.one_mul, Nat.add_zero] at k1 k2 k3 k4 k5 k6
    have hn0 : 0 < W.rs.length := by have := HG.out.1; omega
    have hn1 : 1 < W.rs.length := by have := HG.out.1; omega
    have hlt0 : ((0 : Int) < (W.rs.length : Int)) := by have := HG.out.1; omega
    have hlt1 : ((1 : Int) < (W.rs.length : Int)) := by have := HG.out.1; omega
    clear hal c0 c1 c2 e0 e1 e2 q0 q1 p0 p1 hb1
    go_wp2
    refine wp_region_quiet_below (by kernel_rfl) (by kernel_rfl) ?_
    repeat (go_big_quiet_step (exact HK.out _ _))
    refine wpQuiet_nil ?_
    intro _ hw'
    obtain ⟨⟨dq, osq⟩, hw''⟩ := hw'
    subst hw''
    have hbw2 := hbw.trans ((below_regrown w1 dq osq).mono hbw.size)
    clear HK k0 k1 k2 k3 k4 k5 k6
    go_wp2
    go_ret2
    exact ⟨by rw [hb2t]; rfl, hbw2⟩
end Go.Proofs.YtjgopjnkkhkcnaaGreatDoor

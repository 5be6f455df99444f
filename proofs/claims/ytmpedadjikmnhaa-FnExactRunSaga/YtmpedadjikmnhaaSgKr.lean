/-
  The program's RunSaga.
-/
import Derived.Test.YtmpedadjikmnhaaSgKg
import Derived.Test.YtmpedadjikmnhaaSgW
namespace Go.Proofs.Ytmpedadjikmnhaa
open Go.RowKit M
open Clk (upd upd_same upd_other)
open Go.Sort (grow)
namespace M
theorem fin_na (s : Sg) (n : Nat) (fail : Int) : (fin s n fail).s.na = s.na ∧ (fin s n fail).s.nm = s.nm ∧ (fin s n fail).s.fm = s.fm := by
  unfold fin rol
  split
  · exact ⟨rfl, rfl, rfl⟩
  · split <;> exact ⟨rfl, rfl, rfl⟩
def p6 (x0 x1 x2 x3 x4 x5 : Value) : Nat → Value := fun i => if i = 0 then x0 else if i = 1 then x1 else if i = 2 then x2 else if i = 3 then x3 else if i = 4 then x4 else x5
/-- A run that was laid into a block of its own. -/
theorem ra_new {w : World} {B : Nat} {u0 u1 : Value} {s : Sg} (h : AnsS w B u0 u1 s) (hn : 1 ≤ s.na) (fail : Int) : ∃ gl c cp, u0 = .slice (some ⟨gl, 0, none⟩) s.na cp ∧ B ≤ gl ∧ gl < w.heap.size ∧
    RA (w.alloc (.cells #[u0, u1, .int .i64 s.dn, .bool s.un, .int .i64 fail, .int .i64 0] 74)) w.heap.size (p6 u0 u1 (.int .i64 s.dn) (.bool s.un) (.int .i64 fail) (.int .i64 0)) gl c cp B w.heap.size u1 s fail 0 := by
  obtain ⟨gl, c, cp, rfl, h1, h2, h3⟩ := h.1.blk (by omega)
  have hdn := (Below.refl w.heap.size w).alloc (Nat.le_refl _) (.cells #[.slice (some ⟨gl, 0, none⟩) s.na cp, u1, .int .i64 s.dn, .bool s.un, .int .i64 fail, .int .i64 0] 74)
  exact ⟨gl, c, cp, rfl, h1, h2, ⟨⟨⟨Blk.fresh w _ 6 _ _ rfl, by omega, rfl, rfl, rfl, rfl⟩, by decide, by decide, h3.down hdn, h.2.down hdn⟩, rfl, rfl⟩⟩
/-- What RunSaga answers. -/
def OutR (B : Nat) (r : Sg) (z : Int) (b : Bool) (e : Ending) (w : World) : Prop := ∃ u0 u1, e = .returned (.tuple #[sgv u0 u1 r, .int .i64 z, .bool b]) ∧ AnsS w B u0 u1 r
end M
open Classical in
set_option maxRecDepth 20000 in
set_option maxHeartbeats 4000000 in
theorem impl_run (v0 v1 : Value) (s : Sg) (fail : Int) (b : Bool) (w : World) (hv : SagC w v0 v1 s.na s.fa s.nm (fl s.fm)) (hs : ShortS s.na s.nm) (hb : b = true ↔ GoodS s) (r : Sg) (z : Int) (hr : (if b = true then (fin s 0 fail).s else zeroS) = r) (hz : (if b = true then ((fin s 0 fail).n : Int) else 0) = z) :
    Calls Try.prog 32 #[sgv v0 v1 s, .int .i64 fail] w fun e w' => OutR w.heap.size r z b e w' ∧ Below w.heap.size w w' := by
  have HV := hide hv
  have HS := hide hs
  have HB := hide hb
  obtain ⟨a0, c0, rfl⟩ := hv.1.1.form
  obtain ⟨a1, c1, rfl⟩ := hv.1.2.form
  have HRr := hide hr
  have HZz := hide hz
  clear hv hs hb hr hz
  obtain ⟨W, hW⟩ : ∃ W, (w.alloc (.cells #[.slice a0 s.na c0, .slice a1 s.nm c1, .int .i64 s.dn, .bool s.un] 27)).alloc (.cells #[.slice none 0 0, .slice none 0 0, .int .i64 0, .bool false] 27) = W := ⟨_, rfl⟩
  have HE0 := hide (show Blk W (w.heap.size + 1) 4 (p4 (.slice none 0 0) (.slice none 0 0) (.int .i64 0) (.bool false)) 27 from by subst hW; have := new4 (w.alloc (.cells #[.slice a0 s.na c0, .slice a1 s.nm c1, .int .i64 s.dn, .bool s.un] 27)) (.slice none 0 0) (.slice none 0 0) (.int .i64 0) (.bool false) 27; rw [World.size_alloc] at this; exact this)
  have hb0 : Below w.heap.size w W := by subst hW; exact ((Below.refl _ w).alloc (Nat.le_refl _) _).alloc (by simp) _
  have hsW : w.heap.size + 2 ≤ W.heap.size := by rw [← hW]; simp
  have HWW := hide hW
  clear hW
  go_enter Try.func32, Try.ntmps32
  go_wp2_with fail
  rw [HWW.out]
  clear HWW
  refine (good_copy _ _ s b _ (HV.out.below hb0) HS.out HB.out).mono ?_
  rintro e w1 ⟨⟨u0, u1, rfl, hA⟩, hb⟩
  have hb1 := hb0.trans (hb.mono hb0.size)
  have hE1 := HE0.out.down hb
  have hs1 := hb.size
  clear hb hb0 HE0 HV HS
  obtain ⟨a3, c3, rfl⟩ := hA.q.1.form
  obtain ⟨a4, c4, rfl⟩ := hA.q.2.form
  have n1 : w.heap.size + 1 < w1.heap.size := hE1.lt
  have n2 : w.heap.size + 1 ≠ w1.heap.size := by omega
  cases b with
  | false =>
    simp only [Bool.false_eq_true, if_false, zeroS] at hA ⊢
    obtain ⟨⟨e0, e1, e2, e3⟩, h0, h1, h2, h3⟩ := hE1.quad
    have HZ := hide (show ∀ WZ, ((((w1.setCell ⟨w.heap.size + 1, 0, none⟩ (.slice none 0 0)).setCell ⟨w.heap.size + 1, 1, none⟩ (.slice none 0 0)).setCell ⟨w.heap.size + 1, 2, none⟩ (.int .i64 0)).setCell ⟨w.heap.size + 1, 3, none⟩ (.bool false)).alloc (.cells #[.slice a3 0 c3, .slice a4 0 c4, .int .i64 0, .bool false] 27) = WZ → Blk WZ (w.heap.size + 1) 4 (p4 (.slice none 0 0) (.slice none 0 0) (.int .i64 0) (.bool false)) 27 ∧ Below w.heap.size w WZ from fun WZ hWZ => by
      rw [← hWZ]
      have := put4 hE1 hb1 (by omega) (.slice none 0 0) (.slice none 0 0) (.int .i64 0) (.bool false) _ rfl
      exact ⟨this.1.alloc _, this.2.1.alloc this.2.1.size _⟩)
    obtain ⟨WZ, hWZ⟩ : ∃ WZ, ((((w1.setCell ⟨w.heap.size + 1, 0, none⟩ (.slice none 0 0)).setCell ⟨w.heap.size + 1, 1, none⟩ (.slice none 0 0)).setCell ⟨w.heap.size + 1, 2, none⟩ (.int .i64 0)).setCell ⟨w.heap.size + 1, 3, none⟩ (.bool false)).alloc (.cells #[.slice a3 0 c3, .slice a4 0 c4, .int .i64 0, .bool false] 27) = WZ := ⟨_, rfl⟩
    have HWZ := hide hWZ
    clear hA hE1 hb1 HB hWZ
    go_wp2
    rw [HWZ.out]
    have hz := HZ.out _ HWZ.out
    clear e0 e1 e2 e3 h0 h1 h2 h3
    obtain ⟨⟨e0, e1, e2, e3⟩, -⟩ := hz.1.quad
    exact bodyPost_ret (v := .tuple #[.agg #[.slice none 0 0, .slice none 0 0, .int .i64 0, .bool false], .int .i64 0, .bool false]) (by simp [results, Try.results32, go_sem, e0, e1, e2, e3]) rfl (by have e1 := HRr.out; have e2 := HZz.out; rw [← e1, ← e2]; exact ⟨⟨_, _, rfl, ans_zero _ _⟩, hz.2⟩)
  | true =>
    have hg := HB.out.1 (by trivial)
    simp only [if_true] at hA ⊢
    have hdn := (Below.refl w1.heap.size w1).alloc (Nat.le_refl _) (.cells #[.slice a3 s.na c3, .slice a4 s.nm c4, .int .i64 s.dn, .bool s.un] 27)
    obtain ⟨W2, hW2⟩ : ∃ W2, w1.alloc (.cells #[.slice a3 s.na c3, .slice a4 s.nm c4, .int .i64 s.dn, .bool s.un] 27) = W2 := ⟨_, rfl⟩
    rw [hW2] at hdn
    have hA2 : AnsS W2 W.heap.size (.slice a3 s.na c3) (.slice a4 s.nm c4) s := (hA.down hdn).mono (Nat.le_refl _) hdn.size
    obtain ⟨gl, c, cq, eq, q1, q2, hRA⟩ := ra_new hA2 hg.na1 fail
    cases eq
    have hE2 := hE1.down hdn
    have hb2 := hb1.trans (hdn.mono hb1.size)
    obtain ⟨W3, hW3⟩ : ∃ W3, W2.alloc (.cells #[.slice (some ⟨gl, 0, none⟩) s.na c3, .slice a4 s.nm c4, .int .i64 s.dn, .bool s.un, .int .i64 fail, .int .i64 0] 74) = W3 := ⟨_, rfl⟩
    have hdn3 := (Below.refl W2.heap.size W2).alloc (Nat.le_refl _) (.cells #[.slice (some ⟨gl, 0, none⟩) s.na c3, .slice a4 s.nm c4, .int .i64 s.dn, .bool s.un, .int .i64 fail, .int .i64 0] 74)
    rw [hW3] at hRA hdn3
    have hE3 := hE2.down hdn3
    have hb3 := hb2.trans (hdn3.mono hb2.size)
    have hs2 : W2.heap.size = w1.heap.size + 1 := by rw [← hW2]; simp
    have HU := hide (catch_do 61 (.pointer (some ⟨W2.heap.size, 0, none⟩)) (fun X => (∃ h', RA X W2.heap.size h' gl c c3 W.heap.size W2.heap.size (.slice a4 s.nm c4) (fin s 0 fail).s fail (fin s 0 fail).n) ∧ Tw W2.heap.size gl W3 X) W3 (enters_of Try.func61 (by kernel_rfl) rfl) (go_on W2.heap.size _ gl c c3 _ _ _ s fail W3 hRA hg))
    have hmf : ∀ (fn : Fn) (first cap : Array Value) (w : World), (Instr.makeFunc fn first cap).run Try.prog w = .ok (.func fn first cap) w := fun _ _ _ _ => rfl
    rw [hs2] at HU q2
    have HW23 := hide (show (w1.alloc (.cells #[.slice (some ⟨gl, 0, none⟩) s.na c3, .slice a4 s.nm c4, .int .i64 s.dn, .bool s.un] 27)).alloc (.cells #[.slice (some ⟨gl, 0, none⟩) s.na c3, .slice a4 s.nm c4, .int .i64 s.dn, .bool s.un, .int .i64 fail, .int .i64 0] 74) = W3 from by rw [hW2, hW3])
    have HE3 := hide hE3
    have HB3 := hide hb3
    have HS2 := hide (show w1.heap.size + 1 ≤ W3.heap.size from by have := hdn3.size; omega)
    clear hW2 hW3 hA hA2 hE1 hE2 hE3 hdn hdn3 hb1 hb2 hb3 HB hRA hs2
    go_wp2_with fail
    rw [HW23.out]
    refine HU.out.mono ?_
    rintro e w4 ⟨rfl, ⟨h', hR4⟩, hK4⟩
    have hE4 := HE3.out.kept hK4 (by omega)
    have hb4 : Below w.heap.size w w4 := hK4.below HB3.out HB3.out.size (fun k hk => by omega)
    obtain ⟨⟨d0, d1, d2, d3⟩, -⟩ := hR4.sa.sb.cells
    obtain ⟨-, d5, -⟩ := hR4.c4
    rw [(fin_na s 0 fail).1] at d0
    obtain ⟨⟨e0, e1, e2, e3⟩, h0, h1, h2, h3⟩ := hE4.quad
    have hA4 := hR4.sa.ans (by omega) (by have := hK4.size; have := HS2.out; omega)
    rw [(fin_na s 0 fail).1] at hA4
    have hn2 : w.heap.size + 1 ≠ w1.heap.size + 1 := by omega
    have hn3 : w1.heap.size + 1 ≠ w.heap.size + 1 := by omega
    have hRr := HRr.out
    have hZz := HZz.out
    rw [if_pos (by trivial)] at hRr hZz
    rw [hRr] at d2 d3 hA4
    rw [hZz] at d5
    have HP := hide (show ∀ WZ, (((w4.setCell ⟨w.heap.size + 1, 0, none⟩ (.slice (some ⟨gl, 0, none⟩) s.na c3)).setCell ⟨w.heap.size + 1, 1, none⟩ (.slice a4 s.nm c4)).setCell ⟨w.heap.size + 1, 2, none⟩ (.int .i64 r.dn)).setCell ⟨w.heap.size + 1, 3, none⟩ (.bool r.un) = WZ → Blk WZ (w.heap.size + 1) 4 (p4 (.slice (some ⟨gl, 0, none⟩) s.na c3) (.slice a4 s.nm c4) (.int .i64 r.dn) (.bool r.un)) 27 ∧ AnsS WZ w.heap.size (.slice (some ⟨gl, 0, none⟩) s.na c3) (.slice a4 s.nm c4) r ∧ Below w.heap.size w WZ from fun WZ hWZ => by
      have hz := put4 hE4 hb4 (by omega) _ _ _ _ WZ hWZ
      exact ⟨hz.1, (hz.2.2.2.1 hA4).mono (by omega) (by rw [hz.2.2.1]; exact Nat.le_refl _), hz.2.1⟩)
    clear hR4 hK4 hE4 hb4 hA4 HE3 HB3 HU HS2 hRr hZz HRr HZz HW23
    obtain ⟨WZ, hWZ⟩ : ∃ WZ, (((w4.setCell ⟨w.heap.size + 1, 0, none⟩ (.slice (some ⟨gl, 0, none⟩) s.na c3)).setCell ⟨w.heap.size + 1, 1, none⟩ (.slice a4 s.nm c4)).setCell ⟨w.heap.size + 1, 2, none⟩ (.int .i64 r.dn)).setCell ⟨w.heap.size + 1, 3, none⟩ (.bool r.un) = WZ := ⟨_, rfl⟩
    have HWZ := hide hWZ
    clear hWZ
    go_upto_region 6 with fail
    go_region
    go_wp2
    rw [HWZ.out]
    clear d0 d1 d2 d3 d5 e0 e1 e2 e3 h0 h1 h2 h3
    have hz := HP.out _ HWZ.out
    have hby : Below WZ.heap.size WZ WZ.drew := (Below.refl _ _).drew
    obtain ⟨⟨e0, e1, e2, e3⟩, -⟩ := (hz.1.down hby).quad
    have hA5 : AnsS WZ.drew w.heap.size (.slice (some ⟨gl, 0, none⟩) s.na c3) (.slice a4 s.nm c4) r := hz.2.1.down hby
    have hb5 := hz.2.2.trans (hby.mono hz.2.2.size)
    generalize WZ.drew = WY at *
    exact bodyPost_ret (v := .tuple #[.agg #[.slice (some ⟨gl, 0, none⟩) s.na c3, .slice a4 s.nm c4, .int .i64 r.dn, .bool r.un], .int .i64 z, .bool true]) (by simp [results, Try.results32, go_sem, e0, e1, e2, e3]) rfl ⟨⟨_, _, rfl, hA5⟩, hb5⟩
end Go.Proofs.Ytmpedadjikmnhaa

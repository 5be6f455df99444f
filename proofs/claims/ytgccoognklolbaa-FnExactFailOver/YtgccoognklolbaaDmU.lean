/-
  MergeDomains, FailOver and KnowsAll in the program's text.
-/
import Derived.Test.YtgccoognklolbaaDmT
import Derived.Test.YtgccoognklolbaaDmD
import Derived.Test.YtgccoognklolbaaDmS
import Derived.Laws.StructEq
namespace Go.Proofs.Ytgccoognklolbaa
open Go.RowKit M
open Clk (upd upd_same upd_other)
open Go.Sort (grow)
namespace M
theorem pair_new (w : World) (a b : Value) (t : TypeId) : (w.alloc (.cells #[a, b] t)).cell? ⟨w.heap.size, 0, none⟩ = some a ∧ (w.alloc (.cells #[a, b] t)).cell? ⟨w.heap.size, 1, none⟩ = some b := ⟨by simp, by simp⟩
theorem GoodDm.small {l : Dms} (h : GoodDm l) : l.length ≤ 1000 := by have := h.1; omega
theorem gdB_of {l : Dms} (h : gdB l = true) : GoodDm l := gdB_iff.1 h
end M
set_option maxRecDepth 20000 in
set_option maxHeartbeats 2000000 in
theorem impl_merge (va vc : Value) (la lc : Dms) (w : World) (ha : DomsOf w va la) (hc : DomsOf w vc lc) (hna : la.length ≤ 1048576) (hnc : lc.length ≤ 1048576) (hla : LenD la) (hlc : LenD lc) :
    Calls Try.prog 29 #[va, vc] w fun e w' => (∃ r, e = .returned (.tuple #[r, .bool (mgb la lc)]) ∧ OwnD w' w.heap.size r (mga la lc)) ∧ Below w.heap.size w w' := by
  have HA := hide ha
  have HC := hide hc
  have HLA := hide hla
  have HLC := hide hlc
  obtain ⟨aa, ca, rfl⟩ := ha.form
  obtain ⟨ac, cc, rfl⟩ := hc.form
  clear hla hlc ha hc
  cases hga : gdB la
  · have hb : mgb la lc = false := by unfold mgb; rw [hga]; rfl
    rw [hb, mga_no hb]
    clear hb
    go_enter Try.func29, Try.ntmps29
    go_wp2_with fail
    refine (impl_gdoms _ la _ HA.out hna HLA.out).mono ?_
    rintro e w1 ⟨rfl, hb1⟩
    rw [hga]
    have HB := hide hb1
    clear hb1
    go_wp2
    go_ret2
    exact ⟨⟨_, rfl, OwnD.nil _ _⟩, HB.out⟩
  cases hgc : gdB lc
  · have hb : mgb la lc = false := by unfold mgb; rw [hga, hgc]; rfl
    rw [hb, mga_no hb]
    clear hb
    go_enter Try.func29, Try.ntmps29
    go_wp2_with fail
    refine (impl_gdoms _ la _ HA.out hna HLA.out).mono ?_
    rintro e w1 ⟨rfl, hb1⟩
    rw [hga]
    go_wp2_with fail
    refine (impl_gdoms _ lc _ (HC.out.below hb1) hnc HLC.out).mono ?_
    rintro e w2 ⟨rfl, hb2⟩
    rw [hgc]
    have HB := hide (hb1.trans (hb2.mono hb1.size))
    clear hb1 hb2
    go_wp2
    go_ret2
    exact ⟨⟨_, rfl, OwnD.nil _ _⟩, HB.out⟩
  have HGA := hide (gdB_of hga)
  have HGC := hide (gdB_of hgc)
  have HFO := hide (put_all HGA.out.rid HGC.out.rid)
  have HMB := hide (show mgb la lc = decide ((mrg la lc).length ≤ 12) from by unfold mgb; rw [hga, hgc]; rfl)
  have HMA := hide (show ∀ n, n = (mrg la lc).length → (n ≤ 12 → mgb la lc = true ∧ mga la lc = mrg la lc) ∧ (¬ n ≤ 12 → mgb la lc = false ∧ mga la lc = []) from fun n hn => by
    subst hn
    constructor
    · intro h
      have hb : mgb la lc = true := by rw [HMB.out, decide_eq_true h]
      exact ⟨hb, mga_yes hb⟩
    · intro h
      have hb : mgb la lc = false := by rw [HMB.out, decide_eq_false h]
      exact ⟨hb, mga_no hb⟩)
  clear HMB
  generalize mgb la lc = bb at *
  generalize mga la lc = zz at *
  go_enter Try.func29, Try.ntmps29
  go_wp2_with fail
  refine (impl_gdoms _ la _ HA.out hna HLA.out).mono ?_
  rintro e w1 ⟨rfl, hb1⟩
  rw [hga]
  go_wp2_with fail
  refine (impl_gdoms _ lc _ (HC.out.below hb1) hnc HLC.out).mono ?_
  rintro e w2 ⟨rfl, hb2⟩
  rw [hgc]
  have hb12 := hb1.trans (hb2.mono hb1.size)
  obtain ⟨W3, hW3⟩ : ∃ W3, w2.alloc (.cells #[.slice aa la.length ca, .slice ac lc.length cc] 32) = W3 := ⟨_, rfl⟩
  obtain ⟨p, hp⟩ : ∃ p, w2.heap.size = p := ⟨_, rfl⟩
  have hb3 : Below w.heap.size w W3 := by rw [← hW3]; exact hb12.alloc hb12.size _
  have hcc : p < W3.heap.size ∧ W3.cell? ⟨p, 0, none⟩ = some (.slice aa la.length ca) ∧ W3.cell? ⟨p, 1, none⟩ = some (.slice ac lc.length cc) := by
    rw [← hW3, ← hp]; exact ⟨by simp, pair_new w2 _ _ _⟩
  have HB3 := hide (And.intro hb3 hcc)
  have HW := hide hW3
  have HP := hide hp
  clear hb1 hb2 hb12 hW3 hp hb3 hcc HLA HLC hga hgc
  go_wp2_with fail
  rw [HW.out, HP.out]
  clear HW HP
  refine (put_together p _ _ la lc _ (HA.out.below HB3.out.1) (HC.out.below HB3.out.1) HB3.out.2.1 HB3.out.2.2.1 HB3.out.2.2.2 HGA.out.small HGC.out.small HGA.out.fits HGC.out.fits).mono ?_
  rintro e w4 ⟨⟨a4, n4, c4, rfl, hO⟩, hb4⟩
  rw [HFO.out] at hO
  have hb5 := HB3.out.1.trans (hb4.mono HB3.out.1.size)
  have hend := HMA.out n4 hO.len
  have HO := hide (hO.mono HB3.out.1.size)
  have HEND := hide hend
  clear hO hb4 HB3 HMA HFO hend HA HC HGA HGC
  by_cases h12 : n4 ≤ 12
  · have HE2 := hide (HEND.out.1 h12)
    have hgt : ¬ (12 : Int) < (n4 : Int) := by omega
    clear h12 HEND
    go_wp2
    go_ret2
    exact ⟨⟨_, by rw [HE2.out.1]; rfl, by rw [HE2.out.2]; exact HO.out⟩, hb5⟩
  · have HE2 := hide (HEND.out.2 h12)
    have hgt : (12 : Int) < (n4 : Int) := by omega
    clear h12 HEND
    go_wp2
    go_ret2
    exact ⟨⟨.slice none 0 0, by rw [HE2.out.1]; rfl, by rw [HE2.out.2]; exact OwnD.nil _ _⟩, hb5⟩
namespace M
noncomputable def fob (l : Dms) (x : ByteArray) (r : Int) : Bool := dvb l x && nxb (dvv l x).ver r
noncomputable def foa (l : Dms) (x : ByteArray) (r : Int) : Dms := if fob l x r = true then l.set (pl l x) ⟨(dvv l x).nm, nx (dvv l x).ver r, (dvv l x).nt⟩ else []
theorem foa_no {l : Dms} {x : ByteArray} {r : Int} (h : fob l x r = false) : foa l x r = [] := by unfold foa; rw [if_neg (by rw [h]; simp)]
theorem foa_yes {l : Dms} {x : ByteArray} {r : Int} (h : fob l x r = true) : foa l x r = l.set (pl l x) ⟨(dvv l x).nm, nx (dvv l x).ver r, (dvv l x).nt⟩ := by unfold foa; rw [if_pos h]
theorem fo_fail {l : Dms} {x : ByteArray} {r : Int} (h : dvb l x = true) (h2 : nxb (dvv l x).ver r = true) : fo [] (l ++ [⟨(dvv l x).nm, nx (dvv l x).ver r, (dvv l x).nt⟩]) = l.set (pl l x) ⟨(dvv l x).nm, nx (dvv l x).ver r, (dvv l x).nt⟩ := by
  obtain ⟨hg, hd, hx⟩ := dvb_at h
  obtain ⟨_, h3, _⟩ := nxb_iff.1 h2
  rw [fo_app, fo_nil hg.rid, fo_one]
  have hlt := (nx_gt (v := (dvv l x).ver) h3.1 h3.2).1
  have hd2 : l[pl l (dvv l x).nm]? = some (dvv l x) := by rw [hx]; exact hd
  rw [ins_set hd2 hlt, hx]
theorem BX.setVer {w W : World} {p : Nat} {d : Dm} (h : BX w W p d) (n : Int) : BX w (W.setCell ⟨p, 1, none⟩ (.int .i64 n)) p ⟨d.nm, n, d.nt⟩ := by
  refine ⟨h.at_, h.low.setCell (p := ⟨p, 1, none⟩) h.at_ _, (h.box.set 1 _).ext fun i hi => ?_⟩
  rcases (show i = 0 ∨ i = 1 ∨ i = 2 by omega) with e | e | e
  · subst e; rfl
  · subst e; rfl
  · subst e; rfl
end M
set_option maxRecDepth 20000 in
set_option maxHeartbeats 2000000 in
theorem impl_fail (v : Value) (l : Dms) (x : ByteArray) (r : Int) (w : World) (hv : DomsOf w v l) (hn : l.length ≤ 1048576) (hl : LenD l) :
    Calls Try.prog 25 #[v, .string x, .int .i64 r] w fun e w' => (∃ u, e = .returned (.tuple #[u, .bool (fob l x r)]) ∧ OwnD w' w.heap.size u (foa l x r)) ∧ Below w.heap.size w w' := by
  have HV := hide hv
  have HD := hide (dom_of v l x w hv hn hl)
  obtain ⟨a, cap, rfl⟩ := hv.form
  clear hv hl
  cases hd : dvb l x
  · have hb : fob l x r = false := by unfold fob; rw [hd]; rfl
    rw [hb, foa_no hb]
    rw [hd] at HD
    clear hb hd
    generalize dvv l x = d at *
    go_enter Try.func25, Try.ntmps25
    go_wp2_with fail
    refine HD.out.mono ?_
    rintro e w1 ⟨rfl, hb1⟩
    have HB := hide (hb1.alloc hb1.size (.cells #[.string d.nm, .int .i64 d.ver, .string d.nt] 58))
    clear hb1
    go_wp2
    go_ret2
    exact ⟨⟨_, rfl, OwnD.nil _ _⟩, HB.out⟩
  cases hx : nxb (dvv l x).ver r
  · have hb : fob l x r = false := by unfold fob; rw [hd, hx]; rfl
    rw [hb, foa_no hb]
    rw [hd] at HD
    clear hb hd
    generalize dvv l x = d at *
    have hxa := nxa_no hx
    go_enter Try.func25, Try.ntmps25
    go_wp2_with fail
    refine HD.out.mono ?_
    rintro e w1 ⟨rfl, hb1⟩
    have HB := hide (hb1.alloc hb1.size (.cells #[.string d.nm, .int .i64 d.ver, .string d.nt] 58))
    clear hb1
    go_wp2_with (go_at_call 16; refine (impl_next _ _ _).mono ?_; rintro e w' ⟨rfl, rfl⟩; rw [hx, hxa])
    go_ret2
    exact ⟨⟨_, rfl, OwnD.nil _ _⟩, HB.out⟩
  have hb : fob l x r = true := by unfold fob; rw [hd, hx]; rfl
  rw [hb, foa_yes hb, ← fo_fail hd hx]
  obtain ⟨hg, hat, -⟩ := dvb_at hd
  have HG := hide hg
  have HFD := hide (hg.fits _ (List.mem_of_getElem? hat))
  rw [hd] at HD
  have hxa := nxa_yes hx
  clear hb hd hg hat
  generalize dvv l x = d at *
  generalize nx d.ver r = z at *
  go_enter Try.func25, Try.ntmps25
  go_wp2_with fail
  refine HD.out.mono ?_
  rintro e w1 ⟨rfl, hb1⟩
  obtain ⟨W2, hW2⟩ : ∃ W2, w1.alloc (.cells #[.string d.nm, .int .i64 d.ver, .string d.nt] 58) = W2 := ⟨_, rfl⟩
  obtain ⟨p, hp⟩ : ∃ p, w1.heap.size = p := ⟨_, rfl⟩
  have hX2 : BX w1 W2 p d := by rw [← hW2, ← hp]; exact BX.new w1 d
  obtain ⟨W3, hW3⟩ : ∃ W3, W2.setCell ⟨p, 1, none⟩ (.int .i64 z) = W3 := ⟨_, rfl⟩
  have hX3 : BX w1 W3 p ⟨d.nm, z, d.nt⟩ := by rw [← hW3]; exact hX2.setVer z
  have HX3 := hide hX3
  obtain ⟨-, f1, -⟩ := hX2.thaw
  obtain ⟨m0, m1, m2⟩ := hX2.cells
  obtain ⟨W4, hW4⟩ : ∃ W4, W3.alloc (.cells #[.string d.nm, .int .i64 z, .string d.nt] 58) = W4 := ⟨_, rfl⟩
  obtain ⟨p4, hp4⟩ : ∃ p4, W3.heap.size = p4 := ⟨_, rfl⟩
  have HL4 := hide (show DomsOf W4 (.slice (some ⟨p4, 0, none⟩) 1 1) [⟨d.nm, z, d.nt⟩] from by rw [← hW4, ← hp4]; exact lit_dom (new3 W3 _ _ _ _))
  have hb4 : Below w1.heap.size w1 W4 := by rw [← hW4]; exact hX3.low.alloc hX3.low.size _
  have HB4 := hide (hb1.trans (hb4.mono hb1.size))
  obtain ⟨W5, hW5⟩ : ∃ W5, W4.alloc (.cells #[.slice a l.length cap, .slice (some ⟨p4, 0, none⟩) 1 1] 32) = W5 := ⟨_, rfl⟩
  obtain ⟨p5, hp5⟩ : ∃ p5, W4.heap.size = p5 := ⟨_, rfl⟩
  have hb5 : Below W4.heap.size W4 W5 := by rw [← hW5]; exact (Below.refl _ W4).alloc (Nat.le_refl _) _
  have HB5 := hide (HB4.out.trans (hb5.mono HB4.out.size))
  have HL5 := hide (HL4.out.below hb5)
  have HC5 := hide (show p5 < W5.heap.size ∧ W5.cell? ⟨p5, 0, none⟩ = some (.slice a l.length cap) ∧ W5.cell? ⟨p5, 1, none⟩ = some (.slice (some ⟨p4, 0, none⟩) 1 1) from by
    rw [← hW5, ← hp5]; exact ⟨by simp, pair_new W4 _ _ _⟩)
  have HW2 := hide hW2
  have HP2 := hide hp
  have HW3 := hide hW3
  have HW4 := hide hW4
  have HP4 := hide (show W2.heap.size = p4 from by rw [← hp4, ← hW3]; simp)
  have HP4' := hide hp4
  have HQ5 := hide (show p4 + 1 = p5 from by rw [← hp5, ← hW4, World.size_alloc, hp4])
  have HW5 := hide hW5
  have HP5 := hide hp5
  obtain ⟨n0, n1, n2⟩ := hX3.cells
  clear hW2 hp hX2 hW3 hX3 hW4 hp4 hb4 hW5 hp5 hb5 hb1 HL4 HB4
  go_wp2_with fail
  rw [HW2.out, HP2.out]
  refine (impl_next _ _ _).mono ?_
  rintro e w9 ⟨rfl, hw9⟩
  rw [hw9, hx, hxa]
  clear hw9 hx hxa HD HW2 HP2
  go_wp2_with fail
  rw [HW3.out, HP4.out, HW4.out, HW5.out, HQ5.out]
  clear HW3 HW4 HW5 HP4 HP4' HP5 HQ5 m0 m1 m2 n0 n1 n2 f1 HX3
  refine (put_together p5 _ _ l [⟨d.nm, z, d.nt⟩] _ (HV.out.below HB5.out) HL5.out HC5.out.1 HC5.out.2.1 HC5.out.2.2 HG.out.small (by simp) HG.out.fits (fun e he => by simp only [List.mem_singleton] at he; subst he; exact HFD.out)).mono ?_
  rintro e w6 ⟨⟨a6, n6, c6, rfl, hO⟩, hb6⟩
  have HZ := hide (And.intro (hO.mono HB5.out.size) (HB5.out.trans (hb6.mono HB5.out.size)))
  clear hO hb6 HB5 HL5 HC5 HV HG HFD
  go_wp2
  go_ret2
  exact ⟨⟨_, rfl, HZ.out.1⟩, HZ.out.2⟩
namespace M
def deq (x y : Dm) : Bool := (x.nm.toList == y.nm.toList) && ((x.ver == y.ver) && (x.nt.toList == y.nt.toList))
theorem deq_iff (x y : Dm) : deq x y = true ↔ x = y := by
  unfold deq
  rw [eqS, eqS]
  simp only [Bool.and_eq_true, decide_eq_true_eq, beq_iff_eq]
  constructor
  · rintro ⟨h1, h2, h3⟩; exact Dm.ext' h1 h2 h3
  · intro h; subst h; exact ⟨rfl, rfl, rfl⟩
end M
theorem neq_dom (x y : Dm) (w : World) : (binOp .neq 58 x.v y.v).run Try.prog w = .ok (.bool (!deq x y)) w := by
  have u9 := Try.underlying9
  have a9 := Try.isAgg9
  have z9 := Try.sizeOf9
  have u3 := Try.underlying3
  have a3 := Try.isAgg3
  have z3 := Try.sizeOf3
  have hS : Try.prog.underlying 58 = some (.struct (Try.prog.fieldsOf 58)) := by kernel_rfl
  have hp : Try.prog.stoodInHeld 58 = false := by kernel_rfl
  unfold deq
  rw [run_neq_struct, show (10000 : Nat) = 9999 + 1 from rfl, run_equalIn_agg w 9999 58 _ _ hS hp]
  simp only [Program.fieldsOf, Try.underlying58]
  go_simp
  cases h1 : (x.nm.toList == y.nm.toList) <;> cases h2 : (x.ver == y.ver) <;> cases h3 : (x.nt.toList == y.nt.toList) <;> simp_all
theorem guard_dom (op : BinOp) (a b : Operand) (x y : Dm) (w : World) : (eqGuard op 58 a b x.v y.v).run Try.prog w = .ok () w := run_eqGuard_agg w op 58 a b _ _ (by kernel_rfl)
end Go.Proofs.Ytgccoognklolbaa

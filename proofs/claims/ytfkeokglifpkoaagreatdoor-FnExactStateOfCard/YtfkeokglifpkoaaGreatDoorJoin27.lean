/-
  Texts that follow one another, joined: BrR, BrT, BrT2, StZ, Agr.
-/
import Derived.Test.YtfkeokglifpkoaaGreatDoorJoin26
import Derived.Deep.RegionWith
import Derived.Test.YtfkeokglifpkoaaGreatDoorJoin18
import Derived.ArgAppend
import Derived.Deep.RegionLaw
import Derived.Test.YtfkeokglifpkoaaGreatDoorChecked
import Derived.WalkKit
/-
  One history more, in the program's text: its place, putBranch, and branches copied. Condition: the table knownKinds reads as its text lays it.
-/
namespace Go.Proofs.YtfkeokglifpkoaaGreatDoor
open Go.RowKit M
open Go.Sort (grow)
namespace M
theorem plc_go {bs : Brs} {h : Evs} {k : Nat} (hk : k ≤ bs.length) (h1 : ∀ i b, i < k → bs[i]? = some b → cL b h < 0) (h2 : k = bs.length ∨ ∃ b, bs[k]? = some b ∧ ¬ cL b h < 0) : plc bs h = k := by
  refine plc_eq hk h1 (fun b hb => ?_)
  rcases h2 with h2 | ⟨b', hb', hn⟩
  · rw [h2, List.getElem?_eq_none (Nat.le_refl _)] at hb; cases hb
  · rw [hb] at hb'; simp only [Option.some.injEq] at hb'; subst hb'; exact hn
/-- A row of slices behind the pairs. -/
def sls : Prs → List Sl
  | [] => []
  | p :: r => (match p.1 with | .slice a n c => ⟨a, n, c⟩ | _ => ⟨none, 0, 0⟩) :: sls r
theorem sls_len : ∀ ps : Prs, (sls ps).length = ps.length
  | [] => rfl
  | p :: r => by simp [sls, sls_len r]
theorem sls_vs {w : World} {B : Nat} : ∀ {ps : Prs}, (∀ p ∈ ps, OwnE w B p.1 p.2) → cellsB (sls ps) = vsP ps
  | [], _ => rfl
  | p :: r, h => by
    obtain ⟨a, c, hp⟩ := (h p (by simp)).slice.form
    have ih := sls_vs (ps := r) (fun q hq => h q (by simp [hq]))
    unfold cellsB vsP at ih ⊢
    simp only [sls, List.map_cons, ih, hp, Sl.sv]
theorem sls_cut {w : World} {B : Nat} {ps : Prs} (h : ∀ p ∈ ps, OwnE w B p.1 p.2) (i : Nat) (s : Sl) : cellsB ((sls ps).take i ++ s :: (sls ps).drop i) = (vsP ps).take i ++ s.sv :: (vsP ps).drop i := by
  rw [show s :: (sls ps).drop i = [s] ++ (sls ps).drop i from rfl, cellsB_app, cellsB_app, cellsB_take, cellsB_drop, sls_vs h]; rfl
theorem OwnP.row1 {w : World} {B : Nat} {v : Value} {ps : Prs} (h : OwnP w B v ps) : OwnB1 w B v (sls ps) := by
  unfold OwnB1
  rw [sls_len, sls_vs h.evs]; exact h.row
/-- One more put in at a place. -/
theorem OwnP.ins {w w' : World} {B i : Nat} {v r : Value} {ps : Prs} {s : Sl} {es : Evs} (h : OwnP w B v ps) (hu : OwnE w B s.sv es) (hap : ∀ p ∈ ps, Apt p.1 s.sv) (hr : OwnB1 w' B r ((sls ps).take i ++ s :: (sls ps).drop i)) (hg : w.grownBy w' v.ownBlock) : OwnP w' B r (ps.take i ++ (s.sv, es) :: ps.drop i) := by
  have hv : vsP (ps.take i ++ (s.sv, es) :: ps.drop i) = (vsP ps).take i ++ s.sv :: (vsP ps).drop i := by simp [vsP, List.map_take, List.map_drop]
  refine ⟨?_, fun p hp => ?_, ?_⟩
  · have := hr
    unfold OwnB1 at this
    rw [sls_cut h.evs] at this
    rw [hv]
    have e : ((sls ps).take i ++ s :: (sls ps).drop i).length = (ps.take i ++ (s.sv, es) :: ps.drop i).length := by simp [sls_len]
    rw [← e]; exact this
  · have hq : p ∈ ps ∨ p = (s.sv, es) := by
      rw [List.mem_append, List.mem_cons] at hp
      rcases hp with hp | hp | hp
      · exact .inl (List.mem_of_mem_take hp)
      · exact .inr hp
      · exact .inl (List.mem_of_mem_drop hp)
    rcases hq with hq | hq
    · exact (h.evs p hq).other hg (fun b hb e => by have := h.far hq; exact this b e.symm hb)
    · subst hq
      exact hu.other hg (fun b hb e => by have := owns_apart h.row hu (by decide) b e.symm; exact this hb.symm)
  · have hp : (ps.take i ++ (s.sv, es) :: ps.drop i).Perm ((s.sv, es) :: ps) := by
      have := List.perm_middle (a := (s.sv, es)) (l₁ := ps.take i) (l₂ := ps.drop i)
      rwa [List.take_append_drop] at this
    refine (hp.pairwise_iff (fun {x y} hxy => Apt.symm hxy)).2 ?_
    rw [List.pairwise_cons]
    exact ⟨fun q hq => (hap q hq).symm, h.ap⟩
end M
set_option maxRecDepth 20000 in
set_option maxHeartbeats 4000000 in
theorem place_among (v u : Value) (bs : Brs) (h : Evs) (w : World) (hv : StdOf 182 w v bs) (hu : SliceOf w u h) (hf : FineS bs) (s1 : h.length ≤ 1048576) :
    Calls Tryz.prog 156 #[v, .iface 182 (.agg #[u])] w fun e w' => e = .returned (.int .i64 ((plc bs h : Nat) : Int)) ∧ Below w.heap.size w w' := by
  have HV := hide hv
  have HU := hide hu
  have HF := hide hf
  have hn := hf.1
  obtain ⟨a, cap, rfl⟩ := hv.form
  obtain ⟨a2, c2, rfl⟩ := hu.form
  have hcm := fun u W => cm_ev u W
  clear hv hu hf
  go_enter Tryz.func156, Tryz.ntmps156
  go_wp2
  go_loopw [5] (fun i wr => ∃ k : Nat, k ≤ bs.length ∧ i = .int .i64 (k : Int) ∧ Hid (∀ j b, j < k → bs[j]? = some b → cL b h < 0) ∧ Below w.heap.size w wr) (fun i _ => bs.length - (intOf i).toNat)
  case atStart => exact ⟨0, Nat.zero_le _, rfl, hide (fun j b h => absurd h (Nat.not_lt_zero _)), Below.refl _ _⟩
  case round =>
    obtain ⟨k, hk, rfl, HP, hbw⟩ := hrel
    by_cases hlt : k < bs.length
    · obtain ⟨es, he⟩ : ∃ e, bs[k]? = some e := ⟨bs[k], List.getElem?_eq_getElem hlt⟩
      obtain ⟨g, off, rfl, hlg, a3, c3, hc, hs⟩ := HV.out.at he
      have hcw := (hbw.cell (p := ⟨g, off + k, none⟩) hlg).trans hc
      have hk0 : (0 : Int) ≤ (k : Int) := by omega
      have hk1 : (k : Int) < (bs.length : Int) := by omega
      have HH := hide (ahead_ev (.slice a3 es.length c3) (.slice a2 h.length c2) es h wr (hs.below hbw) (HU.out.below hbw) (HF.out.at he).1 s1)
      have HE := hide he
      clear hc hs he
      by_cases hz : cL es h < 0
      · have hzd : decide (cL es h < 0) = true := decide_eq_true hz
        rw [hzd] at HH
        have HP2 := hide (show ∀ j b, j < k + 1 → bs[j]? = some b → cL b h < 0 from fun j b hj hb => by
          by_cases c : j = k
          · subst c; rw [HE.out] at hb; simp only [Option.some.injEq] at hb; subst hb; exact hz
          · exact HP.out j b (by omega) hb)
        clear hz hzd HP
        go_wp2_with (go_at_call 234; refine HH.out.mono ?_; rintro e w2 ⟨rfl, hb2⟩; have hbw2 := hbw.trans (hb2.mono hbw.size))
        exact ⟨⟨k + 1, by omega, by go_num, HP2, hbw2⟩, by simp [intOf]; omega⟩
      · have hzd : decide (cL es h < 0) = false := decide_eq_false hz
        rw [hzd] at HH
        have HN := hide (plc_go hk HP.out (.inr ⟨es, HE.out, hz⟩))
        clear hz hzd HP
        go_wp2_with (go_at_call 234; refine HH.out.mono ?_; rintro e w2 ⟨rfl, hb2⟩; have hbw2 := hbw.trans (hb2.mono hbw.size))
        go_ret
        exact ⟨ret_int (by rw [HN.out]), hbw2⟩
    · obtain rfl : k = bs.length := by omega
      have HN := hide (plc_go hk HP.out (.inl rfl))
      clear HV HP
      go_wp2
      go_ret
      exact ⟨ret_int (by rw [HN.out]), hbw⟩
set_option maxRecDepth 20000 in
set_option maxHeartbeats 2000000 in
theorem copy_brs (v : Value) (bs : Brs) (w : World) (hv : BrsOf w v bs) (hf : FineS bs) (ht : ∀ b ∈ bs, Tl b) :
    Calls Tryz.prog 115 #[v] w fun e w' => (∃ r ps, e = .returned r ∧ OwnP w' w.heap.size r ps ∧ bsP ps = bs) ∧ Below w.heap.size w w' := by
  have HV := hide hv
  have HF := hide hf
  have HT := hide ht
  have hn := hf.1
  obtain ⟨a, cap, rfl⟩ := hv.form
  clear hv hf ht
  go_enter Tryz.func115, Tryz.ntmps115
  go_wp2
  go_loopw [3, 8] (fun x i wr => ∃ (k : Nat) (ps : Prs) (a' : Option Addr) (c' : Nat), k ≤ bs.length ∧ i = .int .i64 k ∧ x = .slice a' k c' ∧ Hid (OwnP wr w.heap.size (.slice a' k c') ps) ∧ Hid (bsP ps = bs.take k) ∧ Below w.heap.size w wr) (fun _ i _ => bs.length - (intOf i).toNat)
  case atStart => exact ⟨0, [], none, 0, Nat.zero_le _, rfl, rfl, hide (OwnP.nil _ _), hide rfl, Below.refl _ _⟩
  case round =>
    obtain ⟨k, ps, a', c', hk, rfl, rfl, HO, HB, hbw⟩ := hrel
    by_cases hlt : k < bs.length
    · obtain ⟨es, he⟩ : ∃ e, bs[k]? = some e := ⟨bs[k], List.getElem?_eq_getElem hlt⟩
      obtain ⟨b, off, rfl, hlb, a2, c2, hc, hs⟩ := HV.out.at he
      have hcw := (hbw.cell (p := ⟨b, off + k, none⟩) hlb).trans hc
      have hal := (Below.refl wr.heap.size wr).alloc (Nat.le_refl _) (.cells #[.slice a2 es.length c2] 81)
      have hbq := hbw.trans (hal.mono hbw.size)
      have HOQ := hide (HO.out.down hal)
      have HSQ := hide (hs.below hbq)
      have htl := HT.out es (List.mem_of_getElem? he)
      have HTL := hide htl
      have hsh := htl.short
      have HE := hide he
      have hpl : ps.length = k := by
        have := congrArg List.length HB.out
        rw [bsP_len, List.length_take] at this; omega
      have HPL := hide hpl
      have hgs := hbq.size
      clear hs he hal hc HO htl hpl
      go_wp2_with fail
      refine (copy_evs _ es _ HSQ.out (by omega) HTL.out.names).mono ?_
      rintro e w2 ⟨⟨a3, n3, c3, rfl, hO⟩, hb2⟩
      have hal2 := (Below.refl w2.heap.size w2).alloc (Nat.le_refl _) (.cells #[.slice a3 n3 c3] 81)
      have hb3 := hbq.trans ((hb2.trans (hal2.mono hb2.size)).mono hbq.size)
      have hP3 := (HOQ.out.down hb2).down hal2
      have hE3 := (hO.mono hgs).down hal2
      have HP3 := hide hP3
      have HE3 := hide hE3
      have HAP := hide (show ∀ p ∈ ps, Apt p.1 (.slice a3 n3 c3) from fun p hp q h1 h3 => by
        have h4 := ((HOQ.out.evs p hp).lt h1).2
        have h5 := (hO.lt h3).1
        omega)
      have HC := hide (one_new w2 (.slice a3 n3 c3) 81)
      have hgs3 := hb3.size
      clear hO hal2 hb2 hP3 hE3
      go_wp2_with (at_builtin; refine wpList_put1 _ rfl _ _ 30 81 _ 24 Tryz.underlying30 info_br rfl (by decide) rfl w.heap.size k (vsP ps) _ _ rfl (by have := HP3.out.row; rw [HPL.out] at this; exact this) _ _ _ rfl HC.out rfl (by omega) hgs3 ?_)
      intro a5 c5 w5 hO5 hg5 _
      have hb5 : Below w.heap.size w w5 := hb3.grown hg5 hgs3 (fun j hj => (own_lt HP3.out.row hj).1)
      have HP5 := hide (show OwnP w5 w.heap.size (.slice a5 (k + 1) c5) (ps ++ [(.slice a3 n3 c3, es)]) from by
        refine ⟨?_, fun p hp => ?_, ?_⟩
        · have e1 : (ps ++ [(Value.slice a3 n3 c3, es)]).length = k + 1 := by rw [List.length_append, HPL.out]; rfl
          rw [e1]
          have e2 : vsP (ps ++ [(Value.slice a3 n3 c3, es)]) = vsP ps ++ [.slice a3 n3 c3] := by simp [vsP]
          rw [e2]; exact hO5
        · rw [List.mem_append, List.mem_singleton] at hp
          rcases hp with hp | hp
          · exact (HP3.out.evs p hp).other hg5 (fun q hq e => HP3.out.far hp q e.symm hq)
          · subst hp
            exact HE3.out.other hg5 (fun q hq e => by have := owns_apart HP3.out.row HE3.out (by decide) q e.symm; exact this hq.symm)
        · rw [List.pairwise_append]
          refine ⟨HP3.out.ap, List.pairwise_singleton _ _, fun p hp q hq => ?_⟩
          rw [List.mem_singleton] at hq
          subst hq; exact HAP.out p hp)
      have HB5 := hide (show bsP (ps ++ [(Value.slice a3 n3 c3, es)]) = bs.take (k + 1) by rw [bsP_snoc, HB.out, take_snocB HE.out])
      clear hO5 hg5 HP3 HE3 HAP HC hb3 hgs3
      go_wp2
      exact ⟨⟨k + 1, _, a5, c5, by omega, by go_num, by go_num, HP5, HB5, hb5⟩, by simp [intOf]; omega⟩
    · obtain rfl : k = bs.length := by omega
      have HB2 := hide (show bsP ps = bs by rw [HB.out, List.take_length])
      clear HV HB
      go_wp2
      go_ret
      exact ⟨⟨_, ps, rfl, HO.out, HB2.out⟩, hbw⟩
end Go.Proofs.YtfkeokglifpkoaaGreatDoor

/-
  AddBranch and MergeTellings in the program's text. Condition: the table knownKinds reads as its text lays it.
-/
namespace Go.Proofs.YtfkeokglifpkoaaGreatDoor
open Go.RowKit M
open Go.Sort (grow)
namespace M
theorem GdU.fine {bs : Brs} (h : GdU bs) (hl : bs.length ≤ 1048576) : FineS bs := ⟨hl, fun b hb => ⟨by have := (h.1 b hb).short; omega, fun e he => by have := (h.1 b hb).names e he; unfold maxLen; omega⟩⟩
theorem plc_ins {ps : Prs} {h : Evs} {i : Nat} {u : Value} : bsP (ps.take i ++ (u, h) :: ps.drop i) = (bsP ps).take i ++ h :: (bsP ps).drop i := by simp [bsP, List.map_take, List.map_drop]
theorem add_no {bs : Brs} {h : Evs} (ht : told bs h = false) : add bs h = (lft bs h).take (plc (lft bs h) h) ++ h :: (lft bs h).drop (plc (lft bs h) h) := by unfold add; rw [ht]; simp
theorem add_yes {bs : Brs} {h : Evs} (ht : told bs h = true) : add bs h = bs := by unfold add; rw [if_pos ht]
/-- What tellings are answered: those, or none. -/
def TlA (w' : World) (B : Nat) (e : Ending) (ok : Bool) (l : Brs) : Prop := ∃ v ps, e = .returned (.tuple #[.agg #[v], .bool ok]) ∧ OwnP w' B v ps ∧ bsP ps = l
end M
set_option maxRecDepth 20000 in
set_option maxHeartbeats 4000000 in
theorem put_branch (A : World) (B : Nat) (v u : Value) (ps : Prs) (h : Evs) (w : World) (ho : OwnP w B v ps) (hA : Below A.heap.size A w) (hAB : A.heap.size ≤ B) (hBw : B ≤ w.heap.size) (hu : SliceOf A u h) (hn : ps.length ≤ 1000) (hg : GdU (bsP ps)) (hh : Tl h) :
    Calls Tryz.prog 108 #[v, u] w fun e w' => (∃ r ps', e = .returned r ∧ OwnP w' B r ps' ∧ bsP ps' = add (bsP ps) h) ∧ Below A.heap.size A w' ∧ w.heap.size ≤ w'.heap.size := by
  have hal := (Below.refl w.heap.size w).alloc (Nat.le_refl _) (.cells #[u] 69)
  obtain ⟨w1, hw1⟩ : ∃ w1, w.alloc (.cells #[u] 69) = w1 := ⟨_, rfl⟩
  have hb1 : M.One w1 w.heap.size u 69 := by rw [← hw1]; exact heap_alloc_new w _
  rw [hw1] at hal
  have hA1 := hA.trans (hal.mono hA.size)
  have HO1 := hide (ho.down hal)
  have HB1 := hide hb1
  have HU := hide hu
  have HF := hide (hg.fine (by rw [bsP_len]; omega))
  have HG := hide hg
  have HH := hide hh
  have hB1 := Nat.le_trans hBw hal.size
  have HVB := hide (show ∀ g, v.ownBlock = some g → g < w.heap.size from fun g hg => (ho.rowBlock hg).2)
  have hsh := hh.short
  obtain ⟨av, cv, rfl⟩ := ho.form
  obtain ⟨au, cu, rfl⟩ := hu.form
  have Hw1 := hide hw1
  have hws := hal.size
  obtain ⟨z, hz⟩ : ∃ z, told (bsP ps) h = z := ⟨_, rfl⟩
  have HZ := hide hz
  have d1 := hb1.cell
  rw [← hw1] at d1
  clear ho hA hu hg hh hw1 hz hb1 hal
  go_enter Tryz.func108, Tryz.ntmps108
  go_wp2_with fail
  rw [Hw1.out]
  have hbrs := HO1.out.brs
  obtain ⟨hpl⟩ : Nonempty ((bsP ps).length = ps.length) := ⟨bsP_len ps⟩
  refine (is_told _ _ (bsP ps) h _ hbrs (HU.out.below hA1) HF.out (by omega) HH.out.pl (fun b hb => (HG.out.1 b hb).pl)).mono ?_
  rw [HZ.out]
  rintro e w2 ⟨rfl, hb2⟩
  have hA2 := hA1.trans (hb2.mono hA1.size)
  have HO2 := hide (HO1.out.down hb2)
  have HB2 := hide (HB1.out.down hb2)
  have hs2 := Nat.le_trans hws hb2.size
  have hB2 := Nat.le_trans hB1 hb2.size
  clear hb2 HO1 HB1 d1 hbrs hpl Hw1 hB1 hA1 hws
  cases z
  case true =>
    have HN := hide (add_yes HZ.out)
    clear HF HG HZ
    go_wp2
    go_ret
    exact ⟨⟨_, ps, rfl, HO2.out, HN.out.symm⟩, hA2, hs2⟩
  case false =>
    have HN := hide (add_no HZ.out)
    have HLP := hide (kp_bs h ps)
    have HLG := hide (show GdU (lft (bsP ps) h) from ⟨fun b hb => HG.out.1 b (mem_lft.1 hb).1, lft_up h HG.out.2⟩)
    have HKL := hide (kp_le h ps)
    have d2 := HB2.out.cell
    go_wp2_with fail
    refine (del_func _ (.slice au h.length cu) ps h w.heap.size B _ HO2.out HB2.out.cell (HU.out.below hA2) (fun g hg => by have := HVB.out g hg; omega) (fun w' hg' => HU.out.below (hA2.grown hg' (Nat.le_trans hAB hB2) (fun j hj => Nat.le_trans hAB (HO2.out.rowBlock hj).1))) (by omega) HF.out (by omega) HH.out.pl (fun b hb => (HG.out.1 b hb).pl)).mono ?_
    rintro e w3 ⟨⟨r1, rfl, hO3, hrb⟩, hg3⟩
    have hA3 := hA2.grown hg3 (Nat.le_trans hAB hB2) (fun j hj => Nat.le_trans hAB (HO2.out.rowBlock hj).1)
    have hb3 : M.One w3 w.heap.size (.slice au h.length cu) 69 := by
      unfold M.One
      rw [hg3.block w.heap.size HB2.out.lt (fun e => by have := HVB.out _ e.symm; omega)]
      exact HB2.out
    have hs3 := Nat.le_trans hs2 hg3.size
    have hB3 := Nat.le_trans hB2 hg3.size
    have HB3 := hide hb3
    have HO3 := hide hO3
    have HR1 := hide (show ∀ g, r1.ownBlock = some g → g < w3.heap.size from fun g hg => (hO3.rowBlock hg).2)
    have hbr : BrsOf w3 r1 (lft (bsP ps) h) := by have := hO3.brs; rwa [HLP.out] at this
    obtain ⟨ar, cr, rfl⟩ := hO3.form
    have HBR := hide hbr
    have hkl := HKL.out
    have HFL := hide (HLG.out.fine (by have := congrArg List.length HLP.out; rw [bsP_len] at this; omega))
    obtain ⟨i, hi⟩ : ∃ i, plc (lft (bsP ps) h) h = i := ⟨_, rfl⟩
    have hil : i ≤ (kp h ps).length := by
      have h1 := plc_le (lft (bsP ps) h) h
      have := congrArg List.length HLP.out
      rw [bsP_len] at this
      omega
    have HI := hide hi
    have HM := hide (show ∀ wx wy : World, wx.heap = w3.heap → Below wx.heap.size wx wy → wy.cell? ⟨w.heap.size, 0, none⟩ = some (.slice au h.length cu) from fun wx wy hh hb => by
      have h : M.One wx w.heap.size (.slice au h.length cu) 69 := by unfold M.One; rw [hh]; exact HB3.out
      exact (h.down hb).cell)
    clear hg3 hb3 hO3 hbr hrb d2 HO2 HB2 HVB hA2 hs2 hB2 hi HZ HG HF
    have d3 := HB3.out.cell
    go_wp2_with fail
    go_cut [5] from 13 (fun x wx => x = .int .i64 (i : Int) ∧ Hid (Below w3.heap.size w3 wx))
    case first =>
      go_region_with (first
        | (go_at_call 136; refine (in_events _ (lft (bsP ps) h) _ (HBR.out.below (Below.refl w3.heap.size w3).drew) HFL.out.1).mono ?_; rintro e w4 ⟨⟨q4, rfl, hq4⟩, hb4⟩; have HQ4 := hide hq4; obtain ⟨a4, c4, rfl⟩ := hq4.form; clear hq4; have m0 := HM.out w3.drew w4 rfl hb4)
        | (go_at_call 156; refine (place_among _ _ (lft (bsP ps) h) h _ HQ4.out (HU.out.below (hA3.drew.trans (hb4.mono hA3.size))) HFL.out (by omega)).mono ?_; rw [HI.out]; rintro e w5 ⟨rfl, hb5⟩))
      all_goals
        go_wp2_with fail
        go_meet
        exact ⟨rfl, hide (((Below.refl w3.heap.size w3).drew.trans hb4).trans (hb5.mono hb4.size))⟩
    case rest =>
    rename World => w5
    obtain ⟨rfl, HCC⟩ := hcut
    have hA5 := hA3.trans (HCC.out.mono hA3.size)
    have HO5 := hide (HO3.out.down HCC.out)
    have HB5 := hide (HB3.out.down HCC.out)
    have hs5 := Nat.le_trans hs3 HCC.out.size
    have h35 := HCC.out.size
    have hB5 := Nat.le_trans hB3 HCC.out.size
    clear HCC HO3 HB3 d3 HM HBR hA3
    have d5 := HB5.out.cell
    go_wp2_with fail
    refine (copy_evs _ h _ (HU.out.below hA5) (by omega) HH.out.names).mono ?_
    rintro e w6 ⟨⟨a6, n6, c6, rfl, hO6⟩, hb6⟩
    have hdn := (Below.refl w6.heap.size w6).alloc (Nat.le_refl _) (.cells #[.slice a6 n6 c6] 81)
    obtain ⟨w7, hw7⟩ : ∃ w7, w6.alloc (.cells #[.slice a6 n6 c6] 81) = w7 := ⟨_, rfl⟩
    obtain ⟨vb, hvb⟩ : ∃ vb, w6.heap.size = vb := ⟨_, rfl⟩
    have hBlk : Blk w7 vb 1 (fun _ => (⟨a6, n6, c6⟩ : Sl).sv) 81 := by rw [← hw7, ← hvb]; exact Blk.fresh w6 #[.slice a6 n6 c6] 1 (fun _ => .slice a6 n6 c6) 81 rfl
    rw [hw7] at hdn
    have h57 := hb6.trans (hdn.mono hb6.size)
    have hA7 := hA5.trans (h57.mono hA5.size)
    have hP7 := HO5.out.down h57
    have hE7 : OwnE w7 B (⟨a6, n6, c6⟩ : Sl).sv h := (hO6.mono hB5).down hdn
    have HP7 := hide hP7
    have HE7 := hide hE7
    have HAP := hide (show ∀ p ∈ kp h ps, Apt p.1 (⟨a6, n6, c6⟩ : Sl).sv from fun p hp q h1 h3 => by
      have h4 := ((HO5.out.evs p hp).lt h1).2
      have h5 := (hO6.lt (g := q) h3).1
      omega)
    have hB7 := Nat.le_trans hB5 h57.size
    have hs7 := Nat.le_trans hs5 h57.size
    have hvl : w3.heap.size ≤ vb := by rw [← hvb]; exact Nat.le_trans h35 hb6.size
    have HINS := hide (ins_brs (.slice ar (kp h ps).length cr) (sls (kp h ps)) i vb B ⟨a6, n6, c6⟩ w7 hP7.row1 (by rw [sls_len]; exact hil) (by rw [sls_len]; omega) hB7 hBlk (fun e => by have := HR1.out vb e; omega))
    have Hw7 := hide hw7
    have Hvb := hide hvb
    clear hw7 hvb hBlk hdn h57 hP7 hE7 hO6 hb6 d5 HO5 HB5 hA5 hs5 hB5 h35 HR1
    go_wp2_with fail
    rw [Hw7.out, Hvb.out]
    refine HINS.out.mono ?_
    rintro e w8 ⟨⟨a8, n8, c8, rfl, hO8⟩, hg8⟩
    have HR := hide (HP7.out.ins HE7.out HAP.out hO8 hg8)
    have hA8 := hA7.grown hg8 (Nat.le_trans hAB hB7) (fun j hj => Nat.le_trans hAB (HP7.out.rowBlock hj).1)
    have hs8 := Nat.le_trans hs7 hg8.size
    have HBS := hide (show bsP ((kp h ps).take i ++ ((⟨a6, n6, c6⟩ : Sl).sv, h) :: (kp h ps).drop i) = add (bsP ps) h by rw [plc_ins, HLP.out, HN.out, HI.out])
    clear hO8 hg8 HINS HP7 HE7 HAP Hw7 Hvb hA7
    go_wp2
    go_ret
    exact ⟨⟨_, _, rfl, HR.out, HBS.out⟩, hA8, hs8⟩
set_option maxHeartbeats 2000000 in
theorem tellings_of (v : Value) (ps : Prs) (ok : Bool) (w : World) (ho : ∃ a c, v = .slice a ps.length c) (hk : ok = decide (ps.length ≤ 12)) :
    Calls Tryz.prog 116 #[v] w fun e w' => e = .returned (.tuple #[.agg #[if ok = true then v else .slice none 0 0], .bool ok]) ∧ Below w.heap.size w w' := by
  obtain ⟨a, c, rfl⟩ := ho
  by_cases h12 : ps.length ≤ 12
  · have hg : ¬ ((ps.length : Int) > 12) := by omega
    have hg2 : ¬ (12 < ps.length) := by omega
    have hok : ok = true := by rw [hk]; exact decide_eq_true h12
    subst hok
    clear hk h12
    go_enter Tryz.func116, Tryz.ntmps116
    go_wp2
    exact bodyPost_ret (v := .tuple #[.agg #[.slice a ps.length c], .bool true]) (by simp [results, Tryz.results116, go_sem]) rfl ⟨rfl, (Below.refl _ w).alloc (Nat.le_refl _) _⟩
  · have hg : (ps.length : Int) > 12 := by omega
    have hg2 : 12 < ps.length := by omega
    have hok : ok = false := by rw [hk]; exact decide_eq_false h12
    subst hok
    clear hk h12
    go_enter Tryz.func116, Tryz.ntmps116
    go_wp2
    exact bodyPost_ret (v := .tuple #[.agg #[.slice none 0 0], .bool false]) (by simp [results, Tryz.results116, go_sem]) rfl ⟨rfl, (Below.refl _ w).alloc (Nat.le_refl _) _⟩
end Go.Proofs.YtfkeokglifpkoaaGreatDoor

/-
  One history more, told by what may be turned: the row of the branches, and nothing else.
-/
namespace Go.Proofs.YtfkeokglifpkoaaGreatDoor
open Go.RowKit M
open Go.Sort (grow)
namespace M
theorem gbU_trans {a b c : World} {row : Option Nat} (h : a.grownBy b row) (h2 : b.grownBy c row) : a.grownBy c row :=
  ⟨h2.os.trans h.os, h2.tape.trans h.tape, h2.output.trans h.output, Nat.le_trans h.size h2.size, fun k hk hn => (h2.block k (Nat.lt_of_lt_of_le hk h.size) hn).trans (h.block k hk hn)⟩
theorem gbD {w w' : World} (h : Below w.heap.size w w') (row : Option Nat) : w.grownBy w' row := ⟨h.os, h.tape, h.output, h.size, fun k hk _ => h.block k hk⟩
end M
set_option maxRecDepth 20000 in
set_option maxHeartbeats 4000000 in
theorem put_branch2 (B Bu : Nat) (v u : Value) (ps : Prs) (h : Evs) (w : World) (ho : OwnP w B v ps) (hBw : B ≤ w.heap.size) (hu : OwnE w Bu u h) (hap : Apt v u) (hn : ps.length ≤ 1000) (hg : GdU (bsP ps)) (hh : Tl h) :
    Calls Tryz.prog 108 #[v, u] w fun e w' => (∃ r ps', e = .returned r ∧ OwnP w' B r ps' ∧ bsP ps' = add (bsP ps) h) ∧ w.grownBy w' v.ownBlock := by
  have hal := (Below.refl w.heap.size w).alloc (Nat.le_refl _) (.cells #[u] 69)
  obtain ⟨w1, hw1⟩ : ∃ w1, w.alloc (.cells #[u] 69) = w1 := ⟨_, rfl⟩
  have hb1 : M.One w1 w.heap.size u 69 := by rw [← hw1]; exact heap_alloc_new w _
  rw [hw1] at hal
  obtain ⟨row, hrow⟩ : ∃ row, v.ownBlock = row := ⟨_, rfl⟩
  have HUW := hide (show ∀ W, w.grownBy W row → SliceOf W u h from fun W hg => (hu.other hg (fun g h1 e => by rw [← hrow] at e; exact hap g e.symm h1)).slice)
  have G1 := gbD hal row
  have HRW := hide hrow
  have HO1 := hide (ho.down hal)
  have HB1 := hide hb1
  have HF := hide (hg.fine (by rw [bsP_len]; omega))
  have HG := hide hg
  have HH := hide hh
  have hB1 := Nat.le_trans hBw hal.size
  have HVB := hide (show ∀ g, v.ownBlock = some g → g < w.heap.size from fun g hg => (ho.rowBlock hg).2)
  have hsh := hh.short
  obtain ⟨av, cv, rfl⟩ := ho.form
  obtain ⟨au, cu, rfl⟩ := hu.slice.form
  have Hw1 := hide hw1
  have hws := hal.size
  obtain ⟨z, hz⟩ : ∃ z, told (bsP ps) h = z := ⟨_, rfl⟩
  have HZ := hide hz
  have d1 := hb1.cell
  rw [← hw1] at d1
  clear ho hu hap hg hh hw1 hz hb1 hal hrow
  go_enter Tryz.func108, Tryz.ntmps108
  go_wp2_with fail
  rw [Hw1.out]
  have hbrs := HO1.out.brs
  obtain ⟨hpl⟩ : Nonempty ((bsP ps).length = ps.length) := ⟨bsP_len ps⟩
  refine (is_told _ _ (bsP ps) h _ hbrs (HUW.out _ G1) HF.out (by omega) HH.out.pl (fun b hb => (HG.out.1 b hb).pl)).mono ?_
  rw [HZ.out]
  rintro e w2 ⟨rfl, hb2⟩
  have G2 := gbU_trans G1 (gbD hb2 row)
  have HO2 := hide (HO1.out.down hb2)
  have HB2 := hide (HB1.out.down hb2)
  have hs2 := Nat.le_trans hws hb2.size
  have hB2 := Nat.le_trans hB1 hb2.size
  clear hb2 HO1 HB1 d1 hbrs hpl Hw1 hB1 hws
  cases z
  case true =>
    have HN := hide (add_yes HZ.out)
    clear HF HG HZ
    go_wp2
    go_ret
    exact ⟨⟨_, ps, rfl, HO2.out, HN.out.symm⟩, by rw [HRW.out]; exact G2⟩
  case false =>
    have HN := hide (add_no HZ.out)
    have HLP := hide (kp_bs h ps)
    have HLG := hide (show GdU (lft (bsP ps) h) from ⟨fun b hb => HG.out.1 b (mem_lft.1 hb).1, lft_up h HG.out.2⟩)
    have HKL := hide (kp_le h ps)
    have d2 := HB2.out.cell
    go_wp2_with fail
    refine (del_func _ (.slice au h.length cu) ps h w.heap.size B _ HO2.out HB2.out.cell (HUW.out _ G2) (fun g hg => by have := HVB.out g hg; omega) (fun w' hg' => HUW.out _ (gbU_trans G2 (by rw [HRW.out] at hg'; exact hg'))) (by omega) HF.out (by omega) HH.out.pl (fun b hb => (HG.out.1 b hb).pl)).mono ?_
    rintro e w3 ⟨⟨r1, rfl, hO3, hrb⟩, hg3⟩
    have G3 := gbU_trans G2 (by rw [HRW.out] at hg3; exact hg3)
    have HRB := hide (hrb.trans HRW.out)
    have hb3 : M.One w3 w.heap.size (.slice au h.length cu) 69 := by
      unfold M.One
      rw [hg3.block w.heap.size HB2.out.lt (fun e => by have := HVB.out _ e.symm; omega)]
      exact HB2.out
    have hs3 := Nat.le_trans hs2 hg3.size
    have hB3 := Nat.le_trans hB2 hg3.size
    have HB3 := hide hb3
    have HO3 := hide hO3
    have HR1 := hide (show ∀ g, r1.ownBlock = some g → g < w3.heap.size from fun g hg => (hO3.rowBlock hg).2)
    have hbr : BrsOf w3 r1 (lft (bsP ps) h) := by have := hO3.brs; rwa [HLP.out] at this
    obtain ⟨ar, cr, rfl⟩ := hO3.form
    have HBR := hide hbr
    have hkl := HKL.out
    have HFL := hide (HLG.out.fine (by have := congrArg List.length HLP.out; rw [bsP_len] at this; omega))
    obtain ⟨i, hi⟩ : ∃ i, plc (lft (bsP ps) h) h = i := ⟨_, rfl⟩
    have hil : i ≤ (kp h ps).length := by
      have h1 := plc_le (lft (bsP ps) h) h
      have := congrArg List.length HLP.out
      rw [bsP_len] at this
      omega
    have HI := hide hi
    have HM := hide (show ∀ wx wy : World, wx.heap = w3.heap → Below wx.heap.size wx wy → wy.cell? ⟨w.heap.size, 0, none⟩ = some (.slice au h.length cu) from fun wx wy hh hb => by
      have h : M.One wx w.heap.size (.slice au h.length cu) 69 := by unfold M.One; rw [hh]; exact HB3.out
      exact (h.down hb).cell)
    clear hg3 hb3 hO3 hbr hrb d2 HO2 HB2 HVB hs2 hB2 hi HZ HG HF
    have d3 := HB3.out.cell
    go_wp2_with fail
    go_cut [5] from 13 (fun x wx => x = .int .i64 (i : Int) ∧ Hid (Below w3.heap.size w3 wx))
    case first =>
      go_region_with (first
        | (go_at_call 136; refine (in_events _ (lft (bsP ps) h) _ (HBR.out.below (Below.refl w3.heap.size w3).drew) HFL.out.1).mono ?_; rintro e w4 ⟨⟨q4, rfl, hq4⟩, hb4⟩; have HQ4 := hide hq4; obtain ⟨a4, c4, rfl⟩ := hq4.form; clear hq4; have m0 := HM.out w3.drew w4 rfl hb4)
        | (go_at_call 156; refine (place_among _ _ (lft (bsP ps) h) h _ HQ4.out (HUW.out _ (gbU_trans G3 (gbD ((Below.refl w3.heap.size w3).drew.trans hb4) row))) HFL.out (by omega)).mono ?_; rw [HI.out]; rintro e w5 ⟨rfl, hb5⟩))
      all_goals
        go_wp2_with fail
        go_meet
        exact ⟨rfl, hide (((Below.refl w3.heap.size w3).drew.trans hb4).trans (hb5.mono hb4.size))⟩
    case rest =>
    rename World => w5
    obtain ⟨rfl, HCC⟩ := hcut
    have G5 := gbU_trans G3 (gbD HCC.out row)
    have HO5 := hide (HO3.out.down HCC.out)
    have HB5 := hide (HB3.out.down HCC.out)
    have hs5 := Nat.le_trans hs3 HCC.out.size
    have h35 := HCC.out.size
    have hB5 := Nat.le_trans hB3 HCC.out.size
    clear HCC HO3 HB3 d3 HM HBR
    have d5 := HB5.out.cell
    go_wp2_with fail
    refine (copy_evs _ h _ (HUW.out _ G5) (by omega) HH.out.names).mono ?_
    rintro e w6 ⟨⟨a6, n6, c6, rfl, hO6⟩, hb6⟩
    have hdn := (Below.refl w6.heap.size w6).alloc (Nat.le_refl _) (.cells #[.slice a6 n6 c6] 81)
    obtain ⟨w7, hw7⟩ : ∃ w7, w6.alloc (.cells #[.slice a6 n6 c6] 81) = w7 := ⟨_, rfl⟩
    obtain ⟨vb, hvb⟩ : ∃ vb, w6.heap.size = vb := ⟨_, rfl⟩
    have hBlk : Blk w7 vb 1 (fun _ => (⟨a6, n6, c6⟩ : Sl).sv) 81 := by rw [← hw7, ← hvb]; exact Blk.fresh w6 #[.slice a6 n6 c6] 1 (fun _ => .slice a6 n6 c6) 81 rfl
    rw [hw7] at hdn
    have h57 := hb6.trans (hdn.mono hb6.size)
    have G7 := gbU_trans G5 (gbD h57 row)
    have hP7 := HO5.out.down h57
    have hE7 : OwnE w7 B (⟨a6, n6, c6⟩ : Sl).sv h := (hO6.mono hB5).down hdn
    have HP7 := hide hP7
    have HE7 := hide hE7
    have HAP := hide (show ∀ p ∈ kp h ps, Apt p.1 (⟨a6, n6, c6⟩ : Sl).sv from fun p hp q h1 h3 => by
      have h4 := ((HO5.out.evs p hp).lt h1).2
      have h5 := (hO6.lt (g := q) h3).1
      omega)
    have hB7 := Nat.le_trans hB5 h57.size
    have hs7 := Nat.le_trans hs5 h57.size
    have hvl : w3.heap.size ≤ vb := by rw [← hvb]; exact Nat.le_trans h35 hb6.size
    have HINS := hide (ins_brs (.slice ar (kp h ps).length cr) (sls (kp h ps)) i vb B ⟨a6, n6, c6⟩ w7 hP7.row1 (by rw [sls_len]; exact hil) (by rw [sls_len]; omega) hB7 hBlk (fun e => by have := HR1.out vb e; omega))
    have Hw7 := hide hw7
    have Hvb := hide hvb
    clear hw7 hvb hBlk hdn h57 hP7 hE7 hO6 hb6 d5 HO5 HB5 hs5 hB5 h35 HR1
    go_wp2_with fail
    rw [Hw7.out, Hvb.out]
    refine HINS.out.mono ?_
    rintro e w8 ⟨⟨a8, n8, c8, rfl, hO8⟩, hg8⟩
    have HR := hide (HP7.out.ins HE7.out HAP.out hO8 hg8)
    have G8 := gbU_trans G7 (by rw [HRB.out] at hg8; exact hg8)
    have HBS := hide (show bsP ((kp h ps).take i ++ ((⟨a6, n6, c6⟩ : Sl).sv, h) :: (kp h ps).drop i) = add (bsP ps) h by rw [plc_ins, HLP.out, HN.out, HI.out])
    clear hO8 hg8 HINS HP7 HE7 HAP Hw7 Hvb
    go_wp2
    go_ret
    exact ⟨⟨_, _, rfl, HR.out, HBS.out⟩, by rw [HRW.out]; exact G8⟩
end Go.Proofs.YtfkeokglifpkoaaGreatDoor

/-
  MayCome in both texts. Condition of the program's: the table knownKinds reads as its text lays it.
-/
namespace Go.Proofs.YtfkeokglifpkoaaGreatDoor
open Go.RowKit M
open Clk (upd upd_same upd_other)
open Go.Sort (grow)
namespace M
/-- What is asked ahead: a good state, a kind, a good name. -/
def MayG (s : St) (k : Int) (x : ByteArray) : Prop := GoodSt s ∧ inB k 1 6 = true ∧ gN x = true
def evM (s : St) (k : Int) (x : ByteArray) : Ev := ⟨s.nx, 0, k, x⟩
end M
set_option maxRecDepth 20000 in
set_option maxHeartbeats 4000000 in
theorem impl_may (v0 v1 : Value) (s : St) (k : Int) (x : ByteArray) (b b0 : Bool) (w : World) (hv : StC w v0 v1 s) (hs : ShortT s) (hn : NmT s) (hx : x.size ≤ maxLen) (hkk : KK w) (hb0 : BP b0 (MayG s k x)) (hb : BP b (MayG s k x ∧ May s (evM s k x))) :
    Calls Tryz.prog 105 #[stv v0 v1 s, .int .i64 k, .string x] w fun e w' => e = .returned (.tuple #[.bool b, .bool b0]) ∧ Below w.heap.size w w' := by
  obtain ⟨a0, c0, rfl⟩ := hv.1.1.form
  obtain ⟨a1, c1, rfl⟩ := hv.2.1.form
  have hbA := (Below.refl w.heap.size w).alloc (Nat.le_refl _) (.cells (sarr (.slice a0 s.sg.length c0) (.slice a1 s.tm.length c1) s) 60)
  have HBX := hide (show Blk (w.alloc (.cells (sarr (.slice a0 s.sg.length c0) (.slice a1 s.tm.length c1) s) 60)) w.heap.size 6 (sq (.slice a0 s.sg.length c0) (.slice a1 s.tm.length c1) s) 60 from new6 w _ _ _ _ _ _ 60)
  have HV := hide hv
  have HS := hide hs
  have HN := hide hn
  have HX := hide hx
  have HK := hide hkk
  have HB0 := hide hb0
  have HB := hide hb
  clear hv hs hn hx hkk hb0 hb
  obtain ⟨b1, hb1⟩ := bp_ex (GoodSt s)
  have HB1 := hide hb1
  clear hb1
  have no := fun (h : ¬ MayG s k x) => (show b0 = false ∧ b = false from ⟨HB0.out.no h, HB.out.no (fun hh => h hh.1)⟩)
  have NO := hide no
  clear no
  go_enter Tryz.func105, Tryz.ntmps105
  go_wp2_with fail
  refine (impl_goodSt _ _ s b1 _ (HV.out.below hbA) HS.out HN.out HB1.out).mono ?_
  rintro e' w1 ⟨rfl, hb⟩
  have hb1 := hbA.trans (hb.mono hbA.size)
  have HBX1 := hide (HBX.out.down hb)
  clear hb hbA HBX
  cases b1 with
  | false =>
    have HF := hide (NO.out (fun h => by have := HB1.out.2 h.1; cases this))
    clear HBX1
    go_wp2
    go_ret2
    exact ⟨by have h1 := HF.out.1; have h2 := HF.out.2; subst h1; subst h2; rfl, hb1⟩
  | true =>
  have HGS := hide (HB1.out.1 rfl)
  clear HB1
  go_wp2_with fail
  refine (impl_kind _ _ (HK.out.below hb1)).mono ?_
  rintro e' w1' ⟨rfl, hw1⟩
  subst w1'
  cases hk : inB k 1 6
  · have HF := hide (NO.out (fun h => by have := h.2.1; rw [hk] at this; cases this))
    clear HBX1
    go_wp2
    go_ret2
    exact ⟨by have h1 := HF.out.1; have h2 := HF.out.2; subst h1; subst h2; rfl, hb1⟩
  have HKI := hide hk
  clear hk
  go_wp2_with fail
  refine (impl_name _ _ HX.out).mono ?_
  rintro e' w1' ⟨rfl, hw1⟩
  subst w1'
  cases hg : goodName x.data.toList
  · have HF := hide (NO.out (fun h => by have : goodName x.data.toList = true := h.2.2; rw [hg] at this; cases this))
    clear HBX1
    go_wp2
    go_ret2
    exact ⟨by have h1 := HF.out.1; have h2 := HF.out.2; subst h1; subst h2; rfl, hb1⟩
  have HM := hide (show MayG s k x from ⟨HGS.out, HKI.out, hg⟩)
  have HY := hide (HB0.out.yes HM.out)
  clear hg
  obtain ⟨r, hr⟩ : ∃ r, (b = true → r = raw s (evM s k x)) ∧ (b = false → r = zst) := by
    cases b with
    | true => exact ⟨raw s (evM s k x), fun _ => rfl, fun h => (by cases h)⟩
    | false => exact ⟨zst, fun h => (by cases h), fun _ => rfl⟩
  have HRR := hide hr
  clear hr
  obtain ⟨⟨d0, d1, d2, d3, d4, d5⟩, -⟩ := HBX1.out.hex
  clear HBX1
  go_wp2_with fail
  refine (show Calls Tryz.prog 126 #[stv (.slice a0 s.sg.length c0) (.slice a1 s.tm.length c1) s, ev s.nx 0 k x] w1 _ from impl_apply _ _ s (evM s k x) b r _ (HV.out.below hb1) HS.out HN.out HX.out (HK.out.below hb1) ⟨fun h => ⟨HGS.out, (HB.out.1 h).2⟩, fun h => HB.out.2 ⟨HM.out, h.2⟩⟩ HRR.out).mono ?_
  rintro e' w2 ⟨⟨u0, u1, rfl, hA⟩, hb⟩
  obtain ⟨a3, c3, rfl⟩ := hA.o0.form
  obtain ⟨a4, c4, rfl⟩ := hA.o1.form
  have hb2 := hb1.trans (hb.mono hb1.size)
  have hb3 := hb2.alloc hb2.size (.cells (sarr (.slice a3 r.sg.length c3) (.slice a4 r.tm.length c4) r) 60)
  clear hb hb1 hb2 hA d0 d1 d2 d3 d4 d5 HRR HB HB0
  go_wp2
  go_ret2
  exact ⟨by have h1 := HY.out; subst h1; rfl, hb3⟩
end Go.Proofs.YtfkeokglifpkoaaGreatDoor

/-
  append onto a slice that has no room left, as one step of a region that draws its order: the row that is made, whatever the slice's address.
-/
namespace Go.Proofs.YtfkeokglifpkoaaGreatDoor
open Go.RowKit
namespace M
theorem step_append_grows {P : Program} (w : World) {ops : Array Oper} {o : Oper} {a : Act} {K : Act → World → Prop} {Q : Exit → Act → World → Prop} {E : Prop}
    (hg : o.guard = none) (s x : Operand) (t : TypeId) (hop : o.op = Op.call { callee := Callee.builtin Builtin.append, args := #[s, x], argTypes := #[t, t] })
    (e : TypeId) (i : TypeInfo) (z : Value) (size bytes : Nat) (h1 : P.underlying t = some (.slice e)) (h2 : P.info? e = some i) (h3 : i.zero = some z) (h4 : i.size = size) (h5 : i.bytes = bytes) (h6 : z.cells.size = size) (h7 : 0 < size)
    (ao : Option Addr) (n cap : Nat) (olds : List Value) (hs : a.eval s = .slice ao n cap) (hnone : ao = none → n = 0 ∧ cap = 0) (hlo : olds.length = n * size) (holds : ∀ b, ao = some b → ∀ j u, olds[j]? = some u → w.cell? (b.add j) = some u)
    (ad : Addr) (m c : Nat) (news : List Value) (hx : a.eval x = .slice (some ad) m c) (hn : news.length = m * size) (hc : ∀ j u, news[j]? = some u → w.cell? (ad.add j) = some u) (h1c : ∀ u ∈ news, u.oneCell' = true)
    (hfull : cap < n + m) (b1 : n + m ≤ maxLen) (b2 : (n + m) * bytes ≤ 140737488355328)
    (hK : ∀ v' w', w'.ownsRow w.heap.size e size v' (n + m) (olds ++ news) → w.grownBy w' none → K (a.put o.dst v') w') :
    if Region.wanted o (yielded ops a.tmps) = true then Oper.wp P o a w K Q else E := by
  have hw : Region.wanted o (yielded ops a.tmps) = true := by simp [Region.wanted, hg]
  rw [if_pos hw]
  cases ao with
  | some b =>
    obtain ⟨v', w', hrun, r1, r2⟩ := run_append_arg_grows (P := P) w t o.type e i z size bytes h1 h2 h3 h4 h5 h6 h7 b n cap olds hlo (holds b rfl) ad m c news hn hc hfull b1 b2
    unfold Oper.wp
    simp [execOp, hop, resolve, invoke, builtin, hs, hx, hrun, Result.andThen]
    exact hK v' w' r1 r2
  | none =>
    obtain ⟨rfl, rfl⟩ := hnone rfl
    obtain rfl : olds = [] := List.eq_nil_of_length_eq_zero (by simpa using hlo)
    obtain ⟨v', w', hrun, r1, r2, _⟩ := run_append_own (P := P) w w.heap.size t o.type e i z size bytes h1 h2 h3 h4 h5 h6 h7 (.slice none 0 0) 0 [] (World.ownsRow_nil w _ e size) ad m c news hn hc h1c b1 b2 (Nat.le_refl _)
    unfold Oper.wp
    simp [execOp, hop, resolve, invoke, builtin, hs, hx, hrun, Result.andThen]
    exact hK v' w' r1 r2
end M
end Go.Proofs.YtfkeokglifpkoaaGreatDoor

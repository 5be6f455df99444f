/-
  Texts that follow one another, joined: BrR, BrT.
-/
import Derived.Test.YtcbkeabfnldmhaaGreatDoorJoin33
import Derived.Deep.RegionWith
/-
  One history more, in the program's text: its place, putBranch, and branches copied. Condition: the table knownKinds reads as its text lays it.
-/
namespace Go.Proofs.YtcbkeabfnldmhaaGreatDoor
open Go.RowKit M
open Go.Sort (grow)
namespace M
theorem plc_go {bs : Brs} {h : Evs} {k : Nat} (hk : k ≤ bs.length) (h1 : ∀ i b, i < k → bs[i]? = some b → cL b h < 0) (h2 : k = bs.length ∨ ∃ b, bs[k]? = some b ∧ ¬ cL b h < 0) : plc bs h = k := by
  refine plc_eq hk h1 (fun b hb => ?_)
  rcases h2 with h2 | ⟨b', hb', hn⟩
  · rw [h2, List.getElem?_eq_none (Nat.le_refl _)] at hb; cases hb
  · rw [hb] at hb'; simp only [Option.some.injEq] at hb'; subst hb'; exact hn
/-- A row of slices behind the pairs. -/
def sls : Prs → List Sl
  | [] => []
  | p :: r => (match p.1 with | .slice a n c => ⟨a, n, c⟩ | _ => ⟨none, 0, 0⟩) :: sls r
theorem sls_len : ∀ ps : Prs, (sls ps).length = ps.length
  | [] => rfl
  | p :: r => by simp [sls, sls_len r]
theorem sls_vs {w : World} {B : Nat} : ∀ {ps : Prs}, (∀ p ∈ ps, OwnE w B p.1 p.2) → cellsB (sls ps) = vsP ps
  | [], _ => rfl
  | p :: r, h => by
    obtain ⟨a, c, hp⟩ := (h p (by simp)).slice.form
    have ih := sls_vs (ps := r) (fun q hq => h q (by simp [hq]))
    unfold cellsB vsP at ih ⊢
    simp only [sls, List.map_cons, ih, hp, Sl.sv]
theorem sls_cut {w : World} {B : Nat} {ps : Prs} (h : ∀ p ∈ ps, OwnE w B p.1 p.2) (i : Nat) (s : Sl) : cellsB ((sls ps).take i ++ s :: (sls ps).drop i) = (vsP ps).take i ++ s.sv :: (vsP ps).drop i := by
  rw [show s :: (sls ps).drop i = [s] ++ (sls ps).drop i from rfl, cellsB_app, cellsB_app, cellsB_take, cellsB_drop, sls_vs h]; rfl
theorem OwnP.row1 {w : World} {B : Nat} {v : Value} {ps : Prs} (h : OwnP w B v ps) : OwnB1 w B v (sls ps) := by
  unfold OwnB1
  rw [sls_len, sls_vs h.evs]; exact h.row
/-- One more put in at a place. -/
theorem OwnP.ins {w w' : World} {B i : Nat} {v r : Value} {ps : Prs} {s : Sl} {es : Evs} (h : OwnP w B v ps) (hu : OwnE w B s.sv es) (hap : ∀ p ∈ ps, Apt p.1 s.sv) (hr : OwnB1 w' B r ((sls ps).take i ++ s :: (sls ps).drop i)) (hg : w.grownBy w' v.ownBlock) : OwnP w' B r (ps.take i ++ (s.sv, es) :: ps.drop i) := by
  have hv : vsP (ps.take i ++ (s.sv, es) :: ps.drop i) = (vsP ps).take i ++ s.sv :: (vsP ps).drop i := by simp [vsP, List.map_take, List.map_drop]
  refine ⟨?_, fun p hp => ?_, ?_⟩
  · have := hr
    unfold OwnB1 at this
    rw [sls_cut h.evs] at this
    rw [hv]
    have e : ((sls ps).take i ++ s :: (sls ps).drop i).length = (ps.take i ++ (s.sv, es) :: ps.drop i).length := by simp [sls_len]
    rw [← e]; exact this
  · have hq : p ∈ ps ∨ p = (s.sv, es) := by
      rw [List.mem_append, List.mem_cons] at hp
      rcases hp with hp | hp | hp
      · exact .inl (List.mem_of_mem_take hp)
      · exact .inr hp
      · exact .inl (List.mem_of_mem_drop hp)
    rcases hq with hq | hq
    · exact (h.evs p hq).other hg (fun b hb e => by have := h.far hq; exact this b e.symm hb)
    · subst hq
      exact hu.other hg (fun b hb e => by have := owns_apart h.row hu (by decide) b e.symm; exact this hb.symm)
  · have hp : (ps.take i ++ (s.sv, es) :: ps.drop i).Perm ((s.sv, es) :: ps) := by
      have := List.perm_middle (a := (s.sv, es)) (l₁ := ps.take i) (l₂ := ps.drop i)
      rwa [List.take_append_drop] at this
    refine (hp.pairwise_iff (fun {x y} hxy => Apt.symm hxy)).2 ?_
    rw [List.pairwise_cons]
    exact ⟨fun q hq => (hap q hq).symm, h.ap⟩
end M
set_option maxRecDepth 20000 in
set_option maxHeartbeats 4000000 in
theorem place_among (v u : Value) (bs : Brs) (h : Evs) (w : World) (hv : StdOf 110 w v bs) (hu : SliceOf w u h) (hf : FineS bs) (s1 : h.length ≤ 1048576) :
    Calls Tryz.prog 85 #[v, .iface 110 (.agg #[u])] w fun e w' => e = .returned (.int .i64 ((plc bs h : Nat) : Int)) ∧ Below w.heap.size w w' := by
  have HV := hide hv
  have HU := hide hu
  have HF := hide hf
  have hn := hf.1
  obtain ⟨a, cap, rfl⟩ := hv.form
  obtain ⟨a2, c2, rfl⟩ := hu.form
  have hcm := fun u W => cm_ev u W
  clear hv hu hf
  go_enter Tryz.func85, Tryz.ntmps85
  go_wp2
  go_loopw [5] (fun i wr => ∃ k : Nat, k ≤ bs.length ∧ i = .int .i64 (k : Int) ∧ Hid (∀ j b, j < k → bs[j]? = some b → cL b h < 0) ∧ Below w.heap.size w wr) (fun i _ => bs.length - (intOf i).toNat)
  case atStart => exact ⟨0, Nat.zero_le _, rfl, hide (fun j b h => absurd h (Nat.not_lt_zero _)), Below.refl _ _⟩
  case round =>
    obtain ⟨k, hk, rfl, HP, hbw⟩ := hrel
    by_cases hlt : k < bs.length
    · obtain ⟨es, he⟩ : ∃ e, bs[k]? = some e := ⟨bs[k], List.getElem?_eq_getElem hlt⟩
      obtain ⟨g, off, rfl, hlg, a3, c3, hc, hs⟩ := HV.out.at he
      have hcw := (hbw.cell (p := ⟨g, off + k, none⟩) hlg).trans hc
      have hk0 : (0 : Int) ≤ (k : Int) := by omega
      have hk1 : (k : Int) < (bs.length : Int) := by omega
      have HH := hide (ahead_ev (.slice a3 es.length c3) (.slice a2 h.length c2) es h wr (hs.below hbw) (HU.out.below hbw) (HF.out.at he).1 s1)
      have HE := hide he
      clear hc hs he
      by_cases hz : cL es h < 0
      · have hzd : decide (cL es h < 0) = true := decide_eq_true hz
        rw [hzd] at HH
        have HP2 := hide (show ∀ j b, j < k + 1 → bs[j]? = some b → cL b h < 0 from fun j b hj hb => by
          by_cases c : j = k
          · subst c; rw [HE.out] at hb; simp only [Option.some.injEq] at hb; subst hb; exact hz
          · exact HP.out j b (by omega) hb)
        clear hz hzd HP
        go_wp2_with (go_at_call 79; refine HH.out.mono ?_; rintro e w2 ⟨rfl, hb2⟩; have hbw2 := hbw.trans (hb2.mono hbw.size))
        exact ⟨⟨k + 1, by omega, by go_num, HP2, hbw2⟩, by simp [intOf]; omega⟩
      · have hzd : decide (cL es h < 0) = false := decide_eq_false hz
        rw [hzd] at HH
        have HN := hide (plc_go hk HP.out (.inr ⟨es, HE.out, hz⟩))
        clear hz hzd HP
        go_wp2_with (go_at_call 79; refine HH.out.mono ?_; rintro e w2 ⟨rfl, hb2⟩; have hbw2 := hbw.trans (hb2.mono hbw.size))
        go_ret
        exact ⟨ret_int (by rw [HN.out]), hbw2⟩
    · obtain rfl : k = bs.length := by omega
      have HN := hide (plc_go hk HP.out (.inl rfl))
      clear HV HP
      go_wp2
      go_ret
      exact ⟨ret_int (by rw [HN.out]), hbw⟩
set_option maxRecDepth 20000 in
set_option maxHeartbeats 2000000 in
theorem copy_brs (v : Value) (bs : Brs) (w : World) (hv : BrsOf w v bs) (hf : FineS bs) (ht : ∀ b ∈ bs, Tl b) :
    Calls Tryz.prog 53 #[v] w fun e w' => (∃ r ps, e = .returned r ∧ OwnP w' w.heap.size r ps ∧ bsP ps = bs) ∧ Below w.heap.size w w' := by
  have HV := hide hv
  have HF := hide hf
  have HT := hide ht
  have hn := hf.1
  obtain ⟨a, cap, rfl⟩ := hv.form
  clear hv hf ht
  go_enter Tryz.func53, Tryz.ntmps53
  go_wp2
  go_loopw [3, 8] (fun x i wr => ∃ (k : Nat) (ps : Prs) (a' : Option Addr) (c' : Nat), k ≤ bs.length ∧ i = .int .i64 k ∧ x = .slice a' k c' ∧ Hid (OwnP wr w.heap.size (.slice a' k c') ps) ∧ Hid (bsP ps = bs.take k) ∧ Below w.heap.size w wr) (fun _ i _ => bs.length - (intOf i).toNat)
  case atStart => exact ⟨0, [], none, 0, Nat.zero_le _, rfl, rfl, hide (OwnP.nil _ _), hide rfl, Below.refl _ _⟩
  case round =>
    obtain ⟨k, ps, a', c', hk, rfl, rfl, HO, HB, hbw⟩ := hrel
    by_cases hlt : k < bs.length
    · obtain ⟨es, he⟩ : ∃ e, bs[k]? = some e := ⟨bs[k], List.getElem?_eq_getElem hlt⟩
      obtain ⟨b, off, rfl, hlb, a2, c2, hc, hs⟩ := HV.out.at he
      have hcw := (hbw.cell (p := ⟨b, off + k, none⟩) hlb).trans hc
      have hal := (Below.refl wr.heap.size wr).alloc (Nat.le_refl _) (.cells #[.slice a2 es.length c2] 55)
      have hbq := hbw.trans (hal.mono hbw.size)
      have HOQ := hide (HO.out.down hal)
      have HSQ := hide (hs.below hbq)
      have htl := HT.out es (List.mem_of_getElem? he)
      have HTL := hide htl
      have hsh := htl.short
      have HE := hide he
      have hpl : ps.length = k := by
        have := congrArg List.length HB.out
        rw [bsP_len, List.length_take] at this; omega
      have HPL := hide hpl
      have hgs := hbq.size
      clear hs he hal hc HO htl hpl
      go_wp2_with fail
      refine (copy_evs _ es _ HSQ.out (by omega) HTL.out.names).mono ?_
      rintro e w2 ⟨⟨a3, n3, c3, rfl, hO⟩, hb2⟩
      have hal2 := (Below.refl w2.heap.size w2).alloc (Nat.le_refl _) (.cells #[.slice a3 n3 c3] 55)
      have hb3 := hbq.trans ((hb2.trans (hal2.mono hb2.size)).mono hbq.size)
      have hP3 := (HOQ.out.down hb2).down hal2
      have hE3 := (hO.mono hgs).down hal2
      have HP3 := hide hP3
      have HE3 := hide hE3
      have HAP := hide (show ∀ p ∈ ps, Apt p.1 (.slice a3 n3 c3) from fun p hp q h1 h3 => by
        have h4 := ((HOQ.out.evs p hp).lt h1).2
        have h5 := (hO.lt h3).1
        omega)
      have HC := hide (one_new w2 (.slice a3 n3 c3) 55)
      have hgs3 := hb3.size
      clear hO hal2 hb2 hP3 hE3
      go_wp2_with (at_builtin; refine wpList_put1 _ rfl _ _ 28 55 _ 24 Tryz.underlying28 info_br rfl (by decide) rfl w.heap.size k (vsP ps) _ _ rfl (by have := HP3.out.row; rw [HPL.out] at this; exact this) _ _ _ rfl HC.out rfl (by omega) hgs3 ?_)
      intro a5 c5 w5 hO5 hg5 _
      have hb5 : Below w.heap.size w w5 := hb3.grown hg5 hgs3 (fun j hj => (own_lt HP3.out.row hj).1)
      have HP5 := hide (show OwnP w5 w.heap.size (.slice a5 (k + 1) c5) (ps ++ [(.slice a3 n3 c3, es)]) from by
        refine ⟨?_, fun p hp => ?_, ?_⟩
        · have e1 : (ps ++ [(Value.slice a3 n3 c3, es)]).length = k + 1 := by rw [List.length_append, HPL.out]; rfl
          rw [e1]
          have e2 : vsP (ps ++ [(Value.slice a3 n3 c3, es)]) = vsP ps ++ [.slice a3 n3 c3] := by simp [vsP]
          rw [e2]; exact hO5
        · rw [List.mem_append, List.mem_singleton] at hp
          rcases hp with hp | hp
          · exact (HP3.out.evs p hp).other hg5 (fun q hq e => HP3.out.far hp q e.symm hq)
          · subst hp
            exact HE3.out.other hg5 (fun q hq e => by have := owns_apart HP3.out.row HE3.out (by decide) q e.symm; exact this hq.symm)
        · rw [List.pairwise_append]
          refine ⟨HP3.out.ap, List.pairwise_singleton _ _, fun p hp q hq => ?_⟩
          rw [List.mem_singleton] at hq
          subst hq; exact HAP.out p hp)
      have HB5 := hide (show bsP (ps ++ [(Value.slice a3 n3 c3, es)]) = bs.take (k + 1) by rw [bsP_snoc, HB.out, take_snocB HE.out])
      clear hO5 hg5 HP3 HE3 HAP HC hb3 hgs3
      go_wp2
      exact ⟨⟨k + 1, _, a5, c5, by omega, by go_num, by go_num, HP5, HB5, hb5⟩, by simp [intOf]; omega⟩
    · obtain rfl : k = bs.length := by omega
      have HB2 := hide (show bsP ps = bs by rw [HB.out, List.take_length])
      clear HV HB
      go_wp2
      go_ret
      exact ⟨⟨_, ps, rfl, HO.out, HB2.out⟩, hbw⟩
end Go.Proofs.YtcbkeabfnldmhaaGreatDoor

/-
  AddBranch and MergeTellings in the program's text. Condition: the table knownKinds reads as its text lays it.
-/
namespace Go.Proofs.YtcbkeabfnldmhaaGreatDoor
open Go.RowKit M
open Go.Sort (grow)
namespace M
theorem GdU.fine {bs : Brs} (h : GdU bs) (hl : bs.length ≤ 1048576) : FineS bs := ⟨hl, fun b hb => ⟨by have := (h.1 b hb).short; omega, fun e he => by have := (h.1 b hb).names e he; unfold maxLen; omega⟩⟩
theorem plc_ins {ps : Prs} {h : Evs} {i : Nat} {u : Value} : bsP (ps.take i ++ (u, h) :: ps.drop i) = (bsP ps).take i ++ h :: (bsP ps).drop i := by simp [bsP, List.map_take, List.map_drop]
theorem add_no {bs : Brs} {h : Evs} (ht : told bs h = false) : add bs h = (lft bs h).take (plc (lft bs h) h) ++ h :: (lft bs h).drop (plc (lft bs h) h) := by unfold add; rw [ht]; simp
theorem add_yes {bs : Brs} {h : Evs} (ht : told bs h = true) : add bs h = bs := by unfold add; rw [if_pos ht]
/-- What tellings are answered: those, or none. -/
def TlA (w' : World) (B : Nat) (e : Ending) (ok : Bool) (l : Brs) : Prop := ∃ v ps, e = .returned (.tuple #[.agg #[v], .bool ok]) ∧ OwnP w' B v ps ∧ bsP ps = l
end M
set_option maxRecDepth 20000 in
set_option maxHeartbeats 4000000 in
theorem put_branch (A : World) (B : Nat) (v u : Value) (ps : Prs) (h : Evs) (w : World) (ho : OwnP w B v ps) (hA : Below A.heap.size A w) (hAB : A.heap.size ≤ B) (hBw : B ≤ w.heap.size) (hu : SliceOf A u h) (hn : ps.length ≤ 1000) (hg : GdU (bsP ps)) (hh : Tl h) :
    Calls Tryz.prog 52 #[v, u] w fun e w' => (∃ r ps', e = .returned r ∧ OwnP w' B r ps' ∧ bsP ps' = add (bsP ps) h) ∧ Below A.heap.size A w' ∧ w.heap.size ≤ w'.heap.size := by
  have hal := (Below.refl w.heap.size w).alloc (Nat.le_refl _) (.cells #[u] 34)
  obtain ⟨w1, hw1⟩ : ∃ w1, w.alloc (.cells #[u] 34) = w1 := ⟨_, rfl⟩
  have hb1 : M.One w1 w.heap.size u 34 := by rw [← hw1]; exact heap_alloc_new w _
  rw [hw1] at hal
  have hA1 := hA.trans (hal.mono hA.size)
  have HO1 := hide (ho.down hal)
  have HB1 := hide hb1
  have HU := hide hu
  have HF := hide (hg.fine (by rw [bsP_len]; omega))
  have HG := hide hg
  have HH := hide hh
  have hB1 := Nat.le_trans hBw hal.size
  have HVB := hide (show ∀ g, v.ownBlock = some g → g < w.heap.size from fun g hg => (ho.rowBlock hg).2)
  have hsh := hh.short
  obtain ⟨av, cv, rfl⟩ := ho.form
  obtain ⟨au, cu, rfl⟩ := hu.form
  have Hw1 := hide hw1
  have hws := hal.size
  obtain ⟨z, hz⟩ : ∃ z, told (bsP ps) h = z := ⟨_, rfl⟩
  have HZ := hide hz
  have d1 := hb1.cell
  rw [← hw1] at d1
  clear ho hA hu hg hh hw1 hz hb1 hal
  go_enter Tryz.func52, Tryz.ntmps52
  go_wp2_with fail
  rw [Hw1.out]
  have hbrs := HO1.out.brs
  obtain ⟨hpl⟩ : Nonempty ((bsP ps).length = ps.length) := ⟨bsP_len ps⟩
  refine (is_told _ _ (bsP ps) h _ hbrs (HU.out.below hA1) HF.out (by omega) HH.out.pl (fun b hb => (HG.out.1 b hb).pl)).mono ?_
  rw [HZ.out]
  rintro e w2 ⟨rfl, hb2⟩
  have hA2 := hA1.trans (hb2.mono hA1.size)
  have HO2 := hide (HO1.out.down hb2)
  have HB2 := hide (HB1.out.down hb2)
  have hs2 := Nat.le_trans hws hb2.size
  have hB2 := Nat.le_trans hB1 hb2.size
  clear hb2 HO1 HB1 d1 hbrs hpl Hw1 hB1 hA1 hws
  cases z
  case true =>
    have HN := hide (add_yes HZ.out)
    clear HF HG HZ
    go_wp2
    go_ret
    exact ⟨⟨_, ps, rfl, HO2.out, HN.out.symm⟩, hA2, hs2⟩
  case false =>
    have HN := hide (add_no HZ.out)
    have HLP := hide (kp_bs h ps)
    have HLG := hide (show GdU (lft (bsP ps) h) from ⟨fun b hb => HG.out.1 b (mem_lft.1 hb).1, lft_up h HG.out.2⟩)
    have HKL := hide (kp_le h ps)
    have d2 := HB2.out.cell
    go_wp2_with fail
    refine (del_func _ (.slice au h.length cu) ps h w.heap.size B _ HO2.out HB2.out.cell (HU.out.below hA2) (fun g hg => by have := HVB.out g hg; omega) (fun w' hg' => HU.out.below (hA2.grown hg' (Nat.le_trans hAB hB2) (fun j hj => Nat.le_trans hAB (HO2.out.rowBlock hj).1))) (by omega) HF.out (by omega) HH.out.pl (fun b hb => (HG.out.1 b hb).pl)).mono ?_
    rintro e w3 ⟨⟨r1, rfl, hO3, hrb⟩, hg3⟩
    have hA3 := hA2.grown hg3 (Nat.le_trans hAB hB2) (fun j hj => Nat.le_trans hAB (HO2.out.rowBlock hj).1)
    have hb3 : M.One w3 w.heap.size (.slice au h.length cu) 34 := by
      unfold M.One
      rw [hg3.block w.heap.size HB2.out.lt (fun e => by have := HVB.out _ e.symm; omega)]
      exact HB2.out
    have hs3 := Nat.le_trans hs2 hg3.size
    have hB3 := Nat.le_trans hB2 hg3.size
    have HB3 := hide hb3
    have HO3 := hide hO3
    have HR1 := hide (show ∀ g, r1.ownBlock = some g → g < w3.heap.size from fun g hg => (hO3.rowBlock hg).2)
    have hbr : BrsOf w3 r1 (lft (bsP ps) h) := by have := hO3.brs; rwa [HLP.out] at this
    obtain ⟨ar, cr, rfl⟩ := hO3.form
    have HBR := hide hbr
    have hkl := HKL.out
    have HFL := hide (HLG.out.fine (by have := congrArg List.length HLP.out; rw [bsP_len] at this; omega))
    obtain ⟨i, hi⟩ : ∃ i, plc (lft (bsP ps) h) h = i := ⟨_, rfl⟩
    have hil : i ≤ (kp h ps).length := by
      have h1 := plc_le (lft (bsP ps) h) h
      have := congrArg List.length HLP.out
      rw [bsP_len] at this
      omega
    have HI := hide hi
    have HM := hide (show ∀ wx wy : World, wx.heap = w3.heap → Below wx.heap.size wx wy → wy.cell? ⟨w.heap.size, 0, none⟩ = some (.slice au h.length cu) from fun wx wy hh hb => by
      have h : M.One wx w.heap.size (.slice au h.length cu) 34 := by unfold M.One; rw [hh]; exact HB3.out
      exact (h.down hb).cell)
    clear hg3 hb3 hO3 hbr hrb d2 HO2 HB2 HVB hA2 hs2 hB2 hi HZ HG HF
    have d3 := HB3.out.cell
    go_wp2_with fail
    go_cut [5] from 13 (fun x wx => x = .int .i64 (i : Int) ∧ Hid (Below w3.heap.size w3 wx))
    case first =>
      go_region_with (first
        | (go_at_call 66; refine (in_events _ (lft (bsP ps) h) _ (HBR.out.below (Below.refl w3.heap.size w3).drew) HFL.out.1).mono ?_; rintro e w4 ⟨⟨q4, rfl, hq4⟩, hb4⟩; have HQ4 := hide hq4; obtain ⟨a4, c4, rfl⟩ := hq4.form; clear hq4; have m0 := HM.out w3.drew w4 rfl hb4)
        | (go_at_call 85; refine (place_among _ _ (lft (bsP ps) h) h _ HQ4.out (HU.out.below (hA3.drew.trans (hb4.mono hA3.size))) HFL.out (by omega)).mono ?_; rw [HI.out]; rintro e w5 ⟨rfl, hb5⟩))
      all_goals
        go_wp2_with fail
        go_meet
        exact ⟨rfl, hide (((Below.refl w3.heap.size w3).drew.trans hb4).trans (hb5.mono hb4.size))⟩
    case rest =>
    rename World => w5
    obtain ⟨rfl, HCC⟩ := hcut
    have hA5 := hA3.trans (HCC.out.mono hA3.size)
    have HO5 := hide (HO3.out.down HCC.out)
    have HB5 := hide (HB3.out.down HCC.out)
    have hs5 := Nat.le_trans hs3 HCC.out.size
    have h35 := HCC.out.size
    have hB5 := Nat.le_trans hB3 HCC.out.size
    clear HCC HO3 HB3 d3 HM HBR hA3
    have d5 := HB5.out.cell
    go_wp2_with fail
    refine (copy_evs _ h _ (HU.out.below hA5) (by omega) HH.out.names).mono ?_
    rintro e w6 ⟨⟨a6, n6, c6, rfl, hO6⟩, hb6⟩
    have hdn := (Below.refl w6.heap.size w6).alloc (Nat.le_refl _) (.cells #[.slice a6 n6 c6] 55)
    obtain ⟨w7, hw7⟩ : ∃ w7, w6.alloc (.cells #[.slice a6 n6 c6] 55) = w7 := ⟨_, rfl⟩
    obtain ⟨vb, hvb⟩ : ∃ vb, w6.heap.size = vb := ⟨_, rfl⟩
    have hBlk : Blk w7 vb 1 (fun _ => (⟨a6, n6, c6⟩ : Sl).sv) 55 := by rw [← hw7, ← hvb]; exact Blk.fresh w6 #[.slice a6 n6 c6] 1 (fun _ => .slice a6 n6 c6) 55 rfl
    rw [hw7] at hdn
    have h57 := hb6.trans (hdn.mono hb6.size)
    have hA7 := hA5.trans (h57.mono hA5.size)
    have hP7 := HO5.out.down h57
    have hE7 : OwnE w7 B (⟨a6, n6, c6⟩ : Sl).sv h := (hO6.mono hB5).down hdn
    have HP7 := hide hP7
    have HE7 := hide hE7
    have HAP := hide (show ∀ p ∈ kp h ps, Apt p.1 (⟨a6, n6, c6⟩ : Sl).sv from fun p hp q h1 h3 => by
      have h4 := ((HO5.out.evs p hp).lt h1).2
      have h5 := (hO6.lt (g := q) h3).1
      omega)
    have hB7 := Nat.le_trans hB5 h57.size
    have hs7 := Nat.le_trans hs5 h57.size
    have hvl : w3.heap.size ≤ vb := by rw [← hvb]; exact Nat.le_trans h35 hb6.size
    have HINS := hide (ins_brs (.slice ar (kp h ps).length cr) (sls (kp h ps)) i vb B ⟨a6, n6, c6⟩ w7 hP7.row1 (by rw [sls_len]; exact hil) (by rw [sls_len]; omega) hB7 hBlk (fun e => by have := HR1.out vb e; omega))
    have Hw7 := hide hw7
    have Hvb := hide hvb
    clear hw7 hvb hBlk hdn h57 hP7 hE7 hO6 hb6 d5 HO5 HB5 hA5 hs5 hB5 h35 HR1
    go_wp2_with fail
    rw [Hw7.out, Hvb.out]
    refine HINS.out.mono ?_
    rintro e w8 ⟨⟨a8, n8, c8, rfl, hO8⟩, hg8⟩
    have HR := hide (HP7.out.ins HE7.out HAP.out hO8 hg8)
    have hA8 := hA7.grown hg8 (Nat.le_trans hAB hB7) (fun j hj => Nat.le_trans hAB (HP7.out.rowBlock hj).1)
    have hs8 := Nat.le_trans hs7 hg8.size
    have HBS := hide (show bsP ((kp h ps).take i ++ ((⟨a6, n6, c6⟩ : Sl).sv, h) :: (kp h ps).drop i) = add (bsP ps) h by rw [plc_ins, HLP.out, HN.out, HI.out])
    clear hO8 hg8 HINS HP7 HE7 HAP Hw7 Hvb hA7
    go_wp2
    go_ret
    exact ⟨⟨_, _, rfl, HR.out, HBS.out⟩, hA8, hs8⟩
set_option maxHeartbeats 2000000 in
theorem tellings_of (v : Value) (ps : Prs) (ok : Bool) (w : World) (ho : ∃ a c, v = .slice a ps.length c) (hk : ok = decide (ps.length ≤ 12)) :
    Calls Tryz.prog 51 #[v] w fun e w' => e = .returned (.tuple #[.agg #[if ok = true then v else .slice none 0 0], .bool ok]) ∧ Below w.heap.size w w' := by
  obtain ⟨a, c, rfl⟩ := ho
  by_cases h12 : ps.length ≤ 12
  · have hg : ¬ ((ps.length : Int) > 12) := by omega
    have hg2 : ¬ (12 < ps.length) := by omega
    have hok : ok = true := by rw [hk]; exact decide_eq_true h12
    subst hok
    clear hk h12
    go_enter Tryz.func51, Tryz.ntmps51
    go_wp2
    exact bodyPost_ret (v := .tuple #[.agg #[.slice a ps.length c], .bool true]) (by simp [results, Tryz.results51, go_sem]) rfl ⟨rfl, (Below.refl _ w).alloc (Nat.le_refl _) _⟩
  · have hg : (ps.length : Int) > 12 := by omega
    have hg2 : 12 < ps.length := by omega
    have hok : ok = false := by rw [hk]; exact decide_eq_false h12
    subst hok
    clear hk h12
    go_enter Tryz.func51, Tryz.ntmps51
    go_wp2
    exact bodyPost_ret (v := .tuple #[.agg #[.slice none 0 0], .bool false]) (by simp [results, Tryz.results51, go_sem]) rfl ⟨rfl, (Below.refl _ w).alloc (Nat.le_refl _) _⟩
end Go.Proofs.YtcbkeabfnldmhaaGreatDoor

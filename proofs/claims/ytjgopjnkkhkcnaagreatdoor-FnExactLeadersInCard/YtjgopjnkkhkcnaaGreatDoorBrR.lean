/-
  One history more, in the program's text: its place, putBranch, and branches copied. Condition: the table knownKinds reads as its text lays it.
-/
import Derived.Test.YtjgopjnkkhkcnaaGreatDoorBrQ
namespace Go.Proofs.YtjgopjnkkhkcnaaGreatDoor
open Go.RowKit M
open Go.Sort (grow)
namespace M
theorem plc_go {bs : Brs} {h : Evs} {k : Nat} (hk : k ≤ bs.length) (h1 : ∀ i b, i < k → bs[i]? = some b → cL b h < 0) (h2 : k = bs.length ∨ ∃ b, bs[k]? = some b ∧ ¬ cL b h < 0) : plc bs h = k := by
  refine plc_eq hk h1 (fun b hb => ?_)
  rcases h2 with h2 | ⟨b', hb', hn⟩
  · rw [h2, List.getElem?_eq_none (Nat.le_refl _)] at hb; cases hb
  · rw [hb] at hb'; simp only [Option.some.injEq] at hb'; subst hb'; exact hn
/-- A row of slices behind the pairs. -/
def sls : Prs → List Sl
  | [] => []
  | p :: r => (match p.1 with | .slice a n c => ⟨a, n, c⟩ | _ => ⟨none, 0, 0⟩) :: sls r
theorem sls_len : ∀ ps : Prs, (sls ps).length = ps.length
  | [] => rfl
  | p :: r => by simp [sls, sls_len r]
theorem sls_vs {w : World} {B : Nat} : ∀ {ps : Prs}, (∀ p ∈ ps, OwnE w B p.1 p.2) → cellsB (sls ps) = vsP ps
  | [], _ => rfl
  | p :: r, h => by
    obtain ⟨a, c, hp⟩ := (h p (by simp)).slice.form
    have ih := sls_vs (ps := r) (fun q hq => h q (by simp [hq]))
    unfold cellsB vsP at ih ⊢
    simp only [sls, List.map_cons, ih, hp, Sl.sv]
theorem sls_cut {w : World} {B : Nat} {ps : Prs} (h : ∀ p ∈ ps, OwnE w B p.1 p.2) (i : Nat) (s : Sl) : cellsB ((sls ps).take i ++ s :: (sls ps).drop i) = (vsP ps).take i ++ s.sv :: (vsP ps).drop i := by
  rw [show s :: (sls ps).drop i = [s] ++ (sls ps).drop i from rfl, cellsB_app, cellsB_app, cellsB_take, cellsB_drop, sls_vs h]; rfl
theorem OwnP.row1 {w : World} {B : Nat} {v : Value} {ps : Prs} (h : OwnP w B v ps) : OwnB1 w B v (sls ps) := by
  unfold OwnB1
  rw [sls_len, sls_vs h.evs]; exact h.row
/-- One more put in at a place. -/
theorem OwnP.ins {w w' : World} {B i : Nat} {v r : Value} {ps : Prs} {s : Sl} {es : Evs} (h : OwnP w B v ps) (hu : OwnE w B s.sv es) (hap : ∀ p ∈ ps, Apt p.1 s.sv) (hr : OwnB1 w' B r ((sls ps).take i ++ s :: (sls ps).drop i)) (hg : w.grownBy w' v.ownBlock) : OwnP w' B r (ps.take i ++ (s.sv, es) :: ps.drop i) := by
  have hv : vsP (ps.take i ++ (s.sv, es) :: ps.drop i) = (vsP ps).take i ++ s.sv :: (vsP ps).drop i := by simp [vsP, List.map_take, List.map_drop]
  refine ⟨?_, fun p hp => ?_, ?_⟩
  · have := hr
    unfold OwnB1 at this
    rw [sls_cut h.evs] at this
    rw [hv]
    have e : ((sls ps).take i ++ s :: (sls ps).drop i).length = (ps.take i ++ (s.sv, es) :: ps.drop i).length := by simp [sls_len]
    rw [← e]; exact this
  · have hq : p ∈ ps ∨ p = (s.sv, es) := by
      rw [List.mem_append, List.mem_cons] at hp
      rcases hp with hp | hp | hp
      · exact .inl (List.mem_of_mem_take hp)
      · exact .inr hp
      · exact .inl (List.mem_of_mem_drop hp)
    rcases hq with hq | hq
    · exact (h.evs p hq).other hg (fun b hb e => by have := h.far hq; exact this b e.symm hb)
    · subst hq
      exact hu.other hg (fun b hb e => by have := owns_apart h.row hu (by decide) b e.symm; exact this hb.symm)
  · have hp : (ps.take i ++ (s.sv, es) :: ps.drop i).Perm ((s.sv, es) :: ps) := by
      have := List.perm_middle (a := (s.sv, es)) (l₁ := ps.take i) (l₂ := ps.drop i)
      rwa [List.take_append_drop] at this
    refine (hp.pairwise_iff (fun {x y} hxy => Apt.symm hxy)).2 ?_
    rw [List.pairwise_cons]
    exact ⟨fun q hq => (hap q hq).symm, h.ap⟩
end M
set_option maxRecDepth 20000 in
set_option maxHeartbeats 4000000 in
theorem place_among (v u : Value) (bs : Brs) (h : Evs) (w : World) (hv : StdOf 226 w v bs) (hu : SliceOf w u h) (hf : FineS bs) (s1 : h.length ≤ 1048576) :
    Calls Tryz.prog 184 #[v, .iface 226 (.agg #[u])] w fun e w' => e = .returned (.int .i64 ((plc bs h : Nat) : Int)) ∧ Below w.heap.size w w' := by
  have HV := hide hv
  have HU := hide hu
  have HF := hide hf
  have hn := hf.1
  obtain ⟨a, cap, rfl⟩ := hv.form
  obtain ⟨a2, c2, rfl⟩ := hu.form
  have hcm := fun u W => cm_ev u W
  clear hv hu hf
  go_enter Tryz.func184, Tryz.ntmps184
  go_wp2
  go_loopw [5] (fun i wr => ∃ k : Nat, k ≤ bs.length ∧ i = .int .i64 (k : Int) ∧ Hid (∀ j b, j < k → bs[j]? = some b → cL b h < 0) ∧ Below w.heap.size w wr) (fun i _ => bs.length - (intOf i).toNat)
  case atStart => exact ⟨0, Nat.zero_le _, rfl, hide (fun j b h => absurd h (Nat.not_lt_zero _)), Below.refl _ _⟩
  case round =>
    obtain ⟨k, hk, rfl, HP, hbw⟩ := hrel
    by_cases hlt : k < bs.length
    · obtain ⟨es, he⟩ : ∃ e, bs[k]? = some e := ⟨bs[k], List.getElem?_eq_getElem hlt⟩
      obtain ⟨g, off, rfl, hlg, a3, c3, hc, hs⟩ := HV.out.at he
      have hcw := (hbw.cell (p := ⟨g, off + k, none⟩) hlg).trans hc
      have hk0 : (0 : Int) ≤ (k : Int) := by omega
      have hk1 : (k : Int) < (bs.length : Int) := by omega
      have HH := hide (ahead_ev (.slice a3 es.length c3) (.slice a2 h.length c2) es h wr (hs.below hbw) (HU.out.below hbw) (HF.out.at he).1 s1)
      have HE := hide he
      clear hc hs he
      by_cases hz : cL es h < 0
      · have hzd : decide (cL es h < 0) = true := decide_eq_true hz
        rw [hzd] at HH
        have HP2 := hide (show ∀ j b, j < k + 1 → bs[j]? = some b → cL b h < 0 from fun j b hj hb => by
          by_cases c : j = k
          · subst c; rw [HE.out] at hb; simp only [Option.some.injEq] at hb; subst hb; exact hz
          · exact HP.out j b (by omega) hb)
        clear hz hzd HP
        go_wp2_with (go_at_call 294; refine HH.out.mono ?_; rintro e w2 ⟨rfl, hb2⟩; have hbw2 := hbw.trans (hb2.mono hbw.size))
        exact ⟨⟨k + 1, by omega, by go_num, HP2, hbw2⟩, by simp [intOf]; omega⟩
      · have hzd : decide (cL es h < 0) = false := decide_eq_false hz
        rw [hzd] at HH
        have HN := hide (plc_go hk HP.out (.inr ⟨es, HE.out, hz⟩))
        clear hz hzd HP
        go_wp2_with (go_at_call 294; refine HH.out.mono ?_; rintro e w2 ⟨rfl, hb2⟩; have hbw2 := hbw.trans (hb2.mono hbw.size))
        go_ret
        exact ⟨ret_int (by rw [HN.out]), hbw2⟩
    · obtain rfl : k = bs.length := by omega
      have HN := hide (plc_go hk HP.out (.inl rfl))
      clear HV HP
      go_wp2
      go_ret
      exact ⟨ret_int (by rw [HN.out]), hbw⟩
set_option maxRecDepth 20000 in
set_option maxHeartbeats 2000000 in
theorem copy_brs (v : Value) (bs : Brs) (w : World) (hv : BrsOf w v bs) (hf : FineS bs) (ht : ∀ b ∈ bs, Tl b) :
    Calls Tryz.prog 171 #[v] w fun e w' => (∃ r ps, e = .returned r ∧ OwnP w' w.heap.size r ps ∧ bsP ps = bs) ∧ Below w.heap.size w w' := by
  have HV := hide hv
  have HF := hide hf
  have HT := hide ht
  have hn := hf.1
  obtain ⟨a, cap, rfl⟩ := hv.form
  clear hv hf ht
  go_enter Tryz.func171, Tryz.ntmps171
  go_wp2
  go_loopw [3, 8] (fun x i wr => ∃ (k : Nat) (ps : Prs) (a' : Option Addr) (c' : Nat), k ≤ bs.length ∧ i = .int .i64 k ∧ x = .slice a' k c' ∧ Hid (OwnP wr w.heap.size (.slice a' k c') ps) ∧ Hid (bsP ps = bs.take k) ∧ Below w.heap.size w wr) (fun _ i _ => bs.length - (intOf i).toNat)
  case atStart => exact ⟨0, [], none, 0, Nat.zero_le _, rfl, rfl, hide (OwnP.nil _ _), hide rfl, Below.refl _ _⟩
  case round =>
    obtain ⟨k, ps, a', c', hk, rfl, rfl, HO, HB, hbw⟩ := hrel
    by_cases hlt : k < bs.length
    · obtain ⟨es, he⟩ : ∃ e, bs[k]? = some e := ⟨bs[k], List.getElem?_eq_getElem hlt⟩
      obtain ⟨b, off, rfl, hlb, a2, c2, hc, hs⟩ := HV.out.at he
      have hcw := (hbw.cell (p := ⟨b, off + k, none⟩) hlb).trans hc
      have hal := (Below.refl wr.heap.size wr).alloc (Nat.le_refl _) (.cells #[.slice a2 es.length c2] 148)
      have hbq := hbw.trans (hal.mono hbw.size)
      have HOQ := hide (HO.out.down hal)
      have HSQ := hide (hs.below hbq)
      have htl := HT.out es (List.mem_of_getElem? he)
      have HTL := hide htl
      have hsh := htl.short
      have HE := hide he
      have hpl : ps.length = k := by
        have := congrArg List.length HB.out
        rw [bsP_len, List.length_take] at this; omega
      have HPL := hide hpl
      have hgs := hbq.size
      clear hs he hal hc HO htl hpl
      go_wp2_with fail
      refine (copy_evs _ es _ HSQ.out (by omega) HTL.out.names).mono ?_
      rintro e w2 ⟨⟨a3, n3, c3, rfl, hO⟩, hb2⟩
      have hal2 := (Below.refl w2.heap.size w2).alloc (Nat.le_refl _) (.cells #[.slice a3 n3 c3] 148)
      have hb3 := hbq.trans ((hb2.trans (hal2.mono hb2.size)).mono hbq.size)
      have hP3 := (HOQ.out.down hb2).down hal2
      have hE3 := (hO.mono hgs).down hal2
      have HP3 := hide hP3
      have HE3 := hide hE3
      have HAP := hide (show ∀ p ∈ ps, Apt p.1 (.slice a3 n3 c3) from fun p hp q h1 h3 => by
        have h4 := ((HOQ.out.evs p hp).lt h1).2
        have h5 := (hO.lt h3).1
        omega)
      have HC := hide (one_new w2 (.slice a3 n3 c3) 148)
      have hgs3 := hb3.size
      clear hO hal2 hb2 hP3 hE3
      go_wp2_with (at_builtin; refine wpList_put1 _ rfl _ _ 28 148 _ 24 Tryz.underlying28 info_br rfl (by decide) rfl w.heap.size k (vsP ps) _ _ rfl (by have := HP3.out.row; rw [HPL.out] at this; exact this) _ _ _ rfl HC.out rfl (by omega) hgs3 ?_)
      intro a5 c5 w5 hO5 hg5 _
      have hb5 : Below w.heap.size w w5 := hb3.grown hg5 hgs3 (fun j hj => (own_lt HP3.out.row hj).1)
      have HP5 := hide (show OwnP w5 w.heap.size (.slice a5 (k + 1) c5) (ps ++ [(.slice a3 n3 c3, es)]) from by
        refine ⟨?_, fun p hp => ?_, ?_⟩
        · have e1 : (ps ++ [(Value.slice a3 n3 c3, es)]).length = k + 1 := by rw [List.length_append, HPL.out]; rfl
          rw [e1]
          have e2 : vsP (ps ++ [(Value.slice a3 n3 c3, es)]) = vsP ps ++ [.slice a3 n3 c3] := by simp [vsP]
          rw [e2]; exact hO5
        · rw [List.mem_append, List.mem_singleton] at hp
          rcases hp with hp | hp
          · exact (HP3.out.evs p hp).other hg5 (fun q hq e => HP3.out.far hp q e.symm hq)
          · subst hp
            exact HE3.out.other hg5 (fun q hq e => by have := owns_apart HP3.out.row HE3.out (by decide) q e.symm; exact this hq.symm)
        · rw [List.pairwise_append]
          refine ⟨HP3.out.ap, List.pairwise_singleton _ _, fun p hp q hq => ?_⟩
          rw [List.mem_singleton] at hq
          subst hq; exact HAP.out p hp)
      have HB5 := hide (show bsP (ps ++ [(Value.slice a3 n3 c3, es)]) = bs.take (k + 1) by rw [bsP_snoc, HB.out, take_snocB HE.out])
      clear hO5 hg5 HP3 HE3 HAP HC hb3 hgs3
      go_wp2
      exact ⟨⟨k + 1, _, a5, c5, by omega, by go_num, by go_num, HP5, HB5, hb5⟩, by simp [intOf]; omega⟩
    · obtain rfl : k = bs.length := by omega
      have HB2 := hide (show bsP ps = bs by rw [HB.out, List.take_length])
      clear HV HB
      go_wp2
      go_ret
      exact ⟨⟨_, ps, rfl, HO.out, HB2.out⟩, hbw⟩
end Go.Proofs.YtjgopjnkkhkcnaaGreatDoor

/-
  Texts that follow one another, joined: BrY, BrYs.
-/
import Derived.Test.YtcbkeabfnldmhaaGreatDoorJoin41
import Derived.Test.YtcbkeabfnldmhaaGreatDoorJoin30
import Derived.Test.YtcbkeabfnldmhaaGreatDoorJoin42
import Derived.Deep.RegionWith
/-
  The history that counts: the last one in the order of weights, and the specification's way to it.
-/
namespace Go.Proofs.YtcbkeabfnldmhaaGreatDoor
open Go.RowKit M
open Go.Sort (grow)
set_option maxRecDepth 20000 in
set_option maxHeartbeats 2000000 in
/-- The places of branches in the order of weights. -/
theorem in_weight (v : Value) (bs : Brs) (w : World) (hv : BrsOf w v bs) (hn : bs.length ≤ 1048576) :
    Calls Tryz.prog 106 #[v] w fun e w' => (∃ r, e = .returned r ∧ StdOf 154 w' r bs) ∧ Below w.heap.size w w' := by
  have HV := hide hv
  obtain ⟨a, cap, rfl⟩ := hv.form
  clear hv
  go_enter Tryz.func106, Tryz.ntmps106
  go_wp2
  go_loopw [3, 8] (fun x i wr => ∃ (k : Nat) (us : List Value) (a' : Option Addr) (c' : Nat), k ≤ bs.length ∧ i = .int .i64 k ∧ x = .slice a' k c' ∧ Hid (us.length = k) ∧ Hid (wr.ownsRow w.heap.size 129 1 (.slice a' k c') k (stn 154 us)) ∧ Hid (Hds w us (bs.take k)) ∧ Below w.heap.size w wr) (fun _ i _ => bs.length - (intOf i).toNat)
  case atStart => exact ⟨0, [], none, 0, Nat.zero_le _, rfl, rfl, hide rfl, hide ⟨rfl, .inl ⟨rfl, rfl⟩⟩, hide (Hds.nil _), Below.refl _ _⟩
  case round =>
    obtain ⟨k, us, a', c', hk, rfl, rfl, HU, HO, HD, hbw⟩ := hrel
    by_cases hlt : k < bs.length
    · obtain ⟨es, he⟩ : ∃ e, bs[k]? = some e := ⟨bs[k], List.getElem?_eq_getElem hlt⟩
      obtain ⟨b, off, rfl, hlb, a2, c2, hc, hs⟩ := HV.out.at he
      have hcw := (hbw.cell (p := ⟨b, off + k, none⟩) hlb).trans hc
      have hal := (Below.refl wr.heap.size wr).alloc (Nat.le_refl _) (.cells #[.slice a2 es.length c2] 55)
      have hal2 := hal.alloc (by simp) (.cells #[.iface 154 (.agg #[.slice a2 es.length c2])] 129)
      have HO2 := hide (owns_below HO.out hal2)
      have HD2 := hide (show Hds w (us ++ [.slice a2 es.length c2]) (bs.take (k + 1)) by rw [take_snocB he]; exact HD.out.snoc hs)
      have HU2 := hide (show (us ++ [Value.slice a2 es.length c2]).length = k + 1 by rw [List.length_append, HU.out]; rfl)
      have hbw2 := hbw.trans (hal2.mono hbw.size)
      have hc1 : ((wr.alloc (.cells #[.slice a2 es.length c2] 55)).alloc (.cells #[.iface 154 (.agg #[.slice a2 es.length c2])] 129)).cell? ⟨wr.heap.size + 1, 0, none⟩ = some (.iface 154 (.agg #[.slice a2 es.length c2])) := by
        have := (one_new (wr.alloc (.cells #[.slice a2 es.length c2] 55)) (.iface 154 (.agg #[.slice a2 es.length c2])) 129)
        rw [World.size_alloc] at this; exact this
      have HC := hide hc1
      have hsz := hbw2.size
      clear hs he hal hal2 HO HD hc1 HU hc
      go_wp2_with (at_builtin; refine wpList_put1 _ rfl _ _ 97 129 .nilIface 16 Tryz.underlying97 info_std rfl (by decide) rfl w.heap.size k (stn 154 us) _ _ rfl HO2.out _ _ _ rfl HC.out rfl (by omega) hsz ?_)
      intro a3 c3 w3 hO3 hg3 _
      have hbw3 : Below w.heap.size w w3 := hbw2.grown hg3 hsz (fun j hj => (own_lt HO2.out hj).1)
      have HO3 := hide (show w3.ownsRow w.heap.size 129 1 (.slice a3 (k + 1) c3) (k + 1) (stn 154 (us ++ [.slice a2 es.length c2])) from by rw [stn_app]; exact hO3)
      clear hO3 hg3 HO2 HC hbw2 hsz
      go_wp2
      exact ⟨⟨k + 1, us ++ [.slice a2 es.length c2], a3, c3, by omega, by go_num, by go_num, HU2, HO3, HD2, hbw3⟩, by simp [intOf]; omega⟩
    · obtain rfl : k = bs.length := by omega
      have hd := HD.out.below hbw
      rw [List.take_length] at hd
      have ho := HO.out
      rw [← HU.out] at ho
      have HS := hide (show StdOf 154 wr (.slice a' bs.length c') bs by rw [← HU.out]; exact std_of ho hd)
      clear hd ho HV HO HD HU
      go_wp2
      go_ret
      exact ⟨⟨_, rfl, HS.out⟩, hbw⟩
set_option maxRecDepth 20000 in
set_option maxHeartbeats 4000000 in
theorem last_among (v : Value) (bs : Brs) (w : World) (hv : StdOf 154 w v bs) (hf : FineS bs) (hp : 0 < bs.length) (hg : GdT bs) :
    Calls Tryz.prog 105 #[v] w fun e w' => e = .returned (.int .i64 ((cur bs bs.length : Nat) : Int)) ∧ Below w.heap.size w w' := by
  have HV := hide hv
  have HF := hide hf
  have HG := hide hg
  have hn := hf.1
  obtain ⟨a, cap, rfl⟩ := hv.form
  have hcm := fun u W => cm_wt u W
  clear hv hf hg
  go_enter Tryz.func105, Tryz.ntmps105
  go_wp2
  go_loopw [3, 8] (fun x i wr => ∃ k q : Nat, k ≤ bs.length ∧ i = .int .i64 k ∧ x = .int .i64 q ∧ Hid (q = cur bs k) ∧ Below w.heap.size w wr) (fun _ i _ => bs.length - (intOf i).toNat)
  case atStart => exact ⟨0, 0, Nat.zero_le _, rfl, rfl, hide rfl, Below.refl _ _⟩
  case round =>
    obtain ⟨k, q, hk, rfl, rfl, HQ, hbw⟩ := hrel
    by_cases hlt : k < bs.length
    · obtain ⟨es, he⟩ : ∃ e, bs[k]? = some e := ⟨bs[k], List.getElem?_eq_getElem hlt⟩
      obtain ⟨o, ho⟩ := cur_at hk hp
      rw [← HQ.out] at ho
      obtain ⟨g, off, rfl, hlg, a2, c2, hc, hs⟩ := HV.out.at he
      obtain ⟨g', off', hgg, -, a3, c3, hc3, hs3⟩ := HV.out.at ho
      simp only [Option.some.injEq, Addr.mk.injEq, and_true] at hgg
      obtain ⟨rfl, rfl⟩ := hgg
      have d1 := (hbw.cell (p := ⟨g, off + k, none⟩) hlg).trans hc
      have d2 := (hbw.cell (p := ⟨g, off + q, none⟩) hlg).trans hc3
      have hql := (List.getElem?_eq_some_iff.1 ho).1
      have hi0 : (0 : Int) ≤ (q : Int) := by omega
      have hi1 : (q : Int) < (bs.length : Int) := by omega
      have hi2 : (0 : Int) ≤ (k : Int) := by omega
      have hi3 : (k : Int) < (bs.length : Int) := by omega
      have HST := hide (cur_step HG.out.2.2 he (by rw [← HQ.out]; exact ho) (by
        cases k with
        | zero => exact .inr rfl
        | succ k => have := cur_lt bs k; exact .inl (by omega)))
      have HE := hide (ahead_wt (.slice a3 o.length c3) (.slice a2 es.length c2) o es wr (hs3.below hbw) (hs.below hbw) (HF.out.at ho).1 (HF.out.at he).1 (HG.out.2.1 o (List.mem_of_getElem? ho)).pos (HG.out.2.1 es (List.mem_of_getElem? he)).pos)
      clear hc hs hc3 hs3 he ho
      cases hz : wgt o es
      · have HN := hide (show q = cur bs (k + 1) by rw [HST.out, hz, HQ.out]; simp)
        rw [hz] at HE
        clear hz HST
        go_wp2_with (go_at_call 193; refine HE.out.mono ?_; rintro e w2 ⟨rfl, hb2⟩; have hbw2 := hbw.trans (hb2.mono hbw.size))
        exact ⟨⟨k + 1, q, by omega, by go_num, rfl, HN, hbw2⟩, by simp [intOf]; omega⟩
      · have HN := hide (show k = cur bs (k + 1) by rw [HST.out, hz]; simp)
        rw [hz] at HE
        clear hz HST
        go_wp2_with (go_at_call 193; refine HE.out.mono ?_; rintro e w2 ⟨rfl, hb2⟩; have hbw2 := hbw.trans (hb2.mono hbw.size))
        exact ⟨⟨k + 1, k, by omega, by go_num, rfl, HN, hbw2⟩, by simp [intOf]; omega⟩
    · obtain rfl : k = bs.length := by omega
      have HQ2 := hide HQ.out
      clear HV HQ
      go_wp2
      go_ret
      exact ⟨ret_int (by rw [HQ2.out]), hbw⟩
set_option maxHeartbeats 2000000 in
theorem current_among (v : Value) (bs : Brs) (w : World) (hv : BrsOf w v bs) (hf : FineS bs) (hp : 0 < bs.length) (hg : GdT bs) :
    Calls Tryz.prog 74 #[.agg #[v]] w fun e w' => (∃ a c, e = .returned (.slice a (curB bs).length c) ∧ SliceOf w (.slice a (curB bs).length c) (curB bs) ∧ ∀ g off n cp, v = .slice (some ⟨g, off, none⟩) n cp → w.cell? ⟨g, off + cur bs bs.length, none⟩ = some (.slice a (curB bs).length c)) ∧ Below w.heap.size w w' := by
  have hal := (Below.refl w.heap.size w).alloc (Nat.le_refl _) (.cells #[v] 30)
  have HV := hide (hv.below hal)
  have HN := hide (show M.One (w.alloc (.cells #[v] 30)) w.heap.size v 30 from heap_alloc_new w _)
  have HF := hide hf
  have HG := hide hg
  obtain ⟨q, hq⟩ : ∃ q, cur bs bs.length = q := ⟨_, rfl⟩
  have hcb := cur_b hp
  rw [hq] at hcb
  obtain ⟨a, cap, rfl⟩ := hv.form
  obtain ⟨g, off, rfl, hlg, a2, c2, hc, hs⟩ := hv.at hcb
  have hql := (List.getElem?_eq_some_iff.1 hcb).1
  have hi0 : (0 : Int) ≤ (q : Int) := by omega
  have hi1 : (q : Int) < (bs.length : Int) := by omega
  have hne : ((bs.length : Int) == 0) = false := by simp; intro h; subst h; simp at hp
  have hne2 : (bs.length == 0) = false := by simp; intro h; subst h; simp at hp
  obtain ⟨W, hW⟩ : ∃ W, w.alloc (.cells #[.slice (some ⟨g, off, none⟩) bs.length cap] 30) = W := ⟨_, rfl⟩
  rw [hW] at HV HN hal
  have d0 := HN.out.cell
  have HMC := hide (show ∀ wy : World, Below W.drew.heap.size W.drew wy → wy.cell? ⟨w.heap.size, 0, none⟩ = some (.slice (some ⟨g, off, none⟩) bs.length cap) ∧ wy.cell? ⟨g, off + q, none⟩ = some (.slice a2 (curB bs).length c2) from fun wy hb => by
    have h1 : M.One W.drew w.heap.size (.slice (some ⟨g, off, none⟩) bs.length cap) 30 := HN.out
    have h2 : W.drew.cell? ⟨g, off + q, none⟩ = some (.slice a2 (curB bs).length c2) := (hal.cell (p := ⟨g, off + q, none⟩) hlg).trans hc
    exact ⟨(h1.down hb).cell, (hb.cell (p := ⟨g, off + q, none⟩) (Nat.lt_of_lt_of_le hlg hal.size)).trans h2⟩)
  have HW := hide hW
  have HQ := hide hq
  have HS := hide hs
  have HC := hide hc
  have HCC := hide (show ∀ g' off' n cp, (Value.slice (some ⟨g, off, none⟩) bs.length cap) = .slice (some ⟨g', off', none⟩) n cp → w.cell? ⟨g', off' + cur bs bs.length, none⟩ = some (.slice a2 (curB bs).length c2) from fun g' off' n cp e => by
    simp only [Value.slice.injEq, Option.some.injEq, Addr.mk.injEq, and_true] at e
    obtain ⟨⟨rfl, rfl⟩, -, -⟩ := e
    rw [hq]; exact hc)
  clear hv hf hg hq hcb hs hc hW
  go_enter Tryz.func74, Tryz.ntmps74
  go_upto_region 3 with fail
  rw [HW.out]
  go_region_with (first
    | (go_at_call 106; refine (in_weight _ bs _ (HV.out.below (Below.refl _ _).drew) HF.out.1).mono ?_; rintro e w2 ⟨⟨r, rfl, hr⟩, hb2⟩; have HR := hide hr; obtain ⟨a5, c5, rfl⟩ := hr.form; clear hr; obtain ⟨m0, m1⟩ := HMC.out w2 hb2)
    | (go_at_call 105; refine (last_among _ bs _ HR.out HF.out hp HG.out).mono ?_; rw [HQ.out]; rintro e w3 ⟨rfl, hb3⟩; obtain ⟨n0, n1⟩ := HMC.out w3 (hb2.trans (hb3.mono hb2.size))))
  all_goals
    have hbw := hal.trans (((Below.refl W.heap.size W).drew.trans (hb2.trans (hb3.mono hb2.size))).mono hal.size)
    clear hb2 hb3 HR hal
    go_wp2
    go_ret
    exact ⟨⟨_, _, rfl, HS.out, HCC.out⟩, hbw⟩
theorem current_none (a : Option Addr) (c : Nat) (w : World) :
    Calls Tryz.prog 74 #[.agg #[.slice a 0 c]] w fun e w' => e = .returned (.slice none 0 0) ∧ Below w.heap.size w w' := by
  have hal := (Below.refl w.heap.size w).alloc (Nat.le_refl _) (.cells #[.slice a 0 c] 30)
  have d0 := (show M.One (w.alloc (.cells #[.slice a 0 c] 30)) w.heap.size (.slice a 0 c) 30 from heap_alloc_new w _).cell
  go_enter Tryz.func74, Tryz.ntmps74
  go_wp2
  go_ret
  exact ⟨rfl, hal⟩
/-- The history that counts, of good tellings. -/
theorem impl_current (v : Value) (bs : Brs) (w : World) (hv : BrsOf w v bs) (hf : FineS bs) (hg : GdT bs) :
    Calls Tryz.prog 74 #[.agg #[v]] w fun e w' => (∃ a c, e = .returned (.slice a (cB bs).length c) ∧ SliceOf w' (.slice a (cB bs).length c) (cB bs)) ∧ Below w.heap.size w w' := by
  by_cases h0 : bs = []
  · subst h0
    obtain ⟨a1, c1, rfl⟩ := hv.form
    refine (current_none a1 c1 w).mono ?_
    rintro e w' ⟨rfl, hb⟩
    exact ⟨⟨none, 0, rfl, ⟨none, 0, rfl, fun h => absurd rfl h⟩⟩, hb⟩
  · have hp : 0 < bs.length := List.length_pos_iff.2 h0
    have hcb : cB bs = curB bs := if_neg h0
    rw [hcb]
    refine (current_among _ bs w hv hf hp hg).mono ?_
    rintro e w' ⟨⟨a, c, rfl, hs, -⟩, hb⟩
    exact ⟨⟨a, c, rfl, hs.below hb⟩, hb⟩
set_option maxHeartbeats 2000000 in
theorem impl_cur (v : Value) (bs : Brs) (b : Bool) (l : Evs) (w : World) (hv : BrsOf w v bs) (hf : FineS bs) (hkk : KK w) (hb : BP b (GdT bs ∧ bs ≠ [])) (hl : (b = true → l = curB bs) ∧ (b = false → l = [])) :
    Calls Tryz.prog 34 #[.agg #[v]] w fun e w' => (∃ a n c, e = .returned (.tuple #[.slice a n c, .bool b]) ∧ OwnE w' w.heap.size (.slice a n c) l) ∧ Below w.heap.size w w' := by
  have hal := (Below.refl w.heap.size w).alloc (Nat.le_refl _) (.cells #[v] 30)
  have HV := hide (hv.below hal)
  have HC := hide (show M.One (w.alloc (.cells #[v] 30)) w.heap.size v 30 from heap_alloc_new w _)
  have HF := hide hf
  have HB := hide hb
  have HL := hide hl
  have HK := hide (hkk.below hal)
  obtain ⟨a1, c1, rfl⟩ := hv.form
  have d0 := HC.out.cell
  obtain ⟨gb, hgb⟩ := bp_ex (GdT bs)
  have HGB := hide hgb
  clear hv hf hkk hb hl hgb
  cases gb
  · have HN := hide (show b = false from HB.out.no (fun h => by have := HGB.out.yes h.1; cases this))
    have HN2 := hide (HL.out.2 HN.out)
    go_enter Tryz.func34, Tryz.ntmps34
    go_wp2_with fail
    refine (impl_gt _ bs false _ HV.out HF.out HK.out HGB.out).mono ?_
    rintro e w2 ⟨rfl, hb2⟩
    have hbw := hal.trans (hb2.mono hal.size)
    go_wp2
    go_ret2
    exact ⟨⟨_, _, _, by rw [HN.out]; rfl, by rw [HN2.out]; exact OwnE.nil _ _⟩, hbw⟩
  · have HG := hide (HGB.out.1 rfl)
    by_cases h0 : bs.length = 0
    · have HN := hide (show b = false from HB.out.no (fun h => h.2 (List.eq_nil_of_length_eq_zero h0)))
      have HN2 := hide (HL.out.2 HN.out)
      have he : ((bs.length : Int) == 0) = true := by simp [h0]
      have he2 : (bs.length == 0) = true := by simp [h0]
      clear h0
      go_enter Tryz.func34, Tryz.ntmps34
      go_wp2_with fail
      refine (impl_gt _ bs true _ HV.out HF.out HK.out HGB.out).mono ?_
      rintro e w2 ⟨rfl, hb2⟩
      have hbw := hal.trans (hb2.mono hal.size)
      clear d0
      have d0 := (HC.out.down hb2).cell
      go_wp2
      go_ret2
      exact ⟨⟨_, _, _, by rw [HN.out]; rfl, by rw [HN2.out]; exact OwnE.nil _ _⟩, hbw⟩
    · have hp : 0 < bs.length := by omega
      have HN := hide (show b = true from HB.out.yes ⟨HG.out, fun h => by subst h; simp at h0⟩)
      have HN2 := hide (HL.out.1 HN.out)
      have he : ((bs.length : Int) == 0) = false := by simp; intro h; subst h; simp at h0
      have he2 : (bs.length == 0) = false := by simp; intro h; subst h; simp at h0
      have HT := hide (HG.out.2.1 (curB bs) (List.mem_of_getElem? (cur_b hp)))
      clear h0
      go_enter Tryz.func34, Tryz.ntmps34
      go_wp2_with fail
      refine (impl_gt _ bs true _ HV.out HF.out HK.out HGB.out).mono ?_
      rintro e w2 ⟨rfl, hb2⟩
      have hbw := hal.trans (hb2.mono hal.size)
      clear d0
      have d0 := (HC.out.down hb2).cell
      go_wp2_with fail
      refine (current_among _ bs _ (HV.out.below hb2) HF.out hp HG.out).mono ?_
      rintro e w3 ⟨⟨a6, c6, rfl, hs, -⟩, hb3⟩
      have HS := hide (hs.below hb3)
      have hbw3 := hbw.trans (hb3.mono hbw.size)
      clear hs hb3 hb2 hbw d0
      go_wp2_with fail
      refine (copy_evs _ (curB bs) _ HS.out (by have := HT.out.short; omega) HT.out.names).mono ?_
      rintro e w4 ⟨⟨a7, n7, c7, rfl, hO⟩, hb4⟩
      have HO := hide (hO.mono hbw3.size)
      have hbz := hbw3.trans (hb4.mono hbw3.size)
      clear hO hb4 hbw3
      go_wp2
      go_ret2
      exact ⟨⟨_, _, _, by rw [HN.out]; rfl, by rw [HN2.out]; exact HO.out⟩, hbz⟩
end Go.Proofs.YtcbkeabfnldmhaaGreatDoor

/-
  CurrentOf of the specification.
-/
namespace Go.Proofs.YtcbkeabfnldmhaaGreatDoor
open Go.RowKit M
open Go.Sort (grow)
namespace M
theorem btr_gt {b o : Evs} (h : lv o < lv b) : btr b o = true := by unfold btr; rw [decide_eq_true h]; rfl
theorem btr_eq {b o : Evs} (h : lv o = lv b) : btr b o = decide (o.length ≤ b.length) := by
  unfold btr; rw [decide_eq_false (by omega), decide_eq_true h]; simp
theorem btr_lt {b o : Evs} (h : lv b < lv o) : btr b o = false := by
  unfold btr; rw [decide_eq_false (by omega), decide_eq_false (by omega)]; rfl
theorem cur_btr {bs : Brs} {k : Nat} {o b : Evs} (hb : bs[k]? = some b) (ho : bs[cur bs k]? = some o) : cur bs (k + 1) = if btr b o = true then k else cur bs k := by
  rw [cur, getD_at hb, getD_at ho]
def curI (bs : Brs) (k : Nat) : Int := if k = 0 then -1 else (cur bs k : Int)
end M
set_option maxRecDepth 20000 in
set_option maxHeartbeats 4000000 in
theorem spec_current (v : Value) (bs : Brs) (w : World) (hv : BrsOf w v bs) (hf : FineS bs) (hg : GdT bs) :
    Calls Tryz.prog 75 #[v] w fun e w' => e = .returned (.int .i64 (curI bs bs.length)) ∧ Below w.heap.size w w' := by
  have HV := hide hv
  have HF := hide hf
  have HG := hide hg
  have hn := hf.1
  obtain ⟨a, cap, rfl⟩ := hv.form
  clear hv hf hg
  go_enter Tryz.func75, Tryz.ntmps75
  go_wp2
  go_loopw [3, 11] (fun x i wr => ∃ (k : Nat) (z : Int), k ≤ bs.length ∧ i = .int .i64 k ∧ x = .int .i64 z ∧ Hid (z = curI bs k) ∧ Below w.heap.size w wr) (fun _ i _ => bs.length - (intOf i).toNat)
  case atStart => exact ⟨0, -1, Nat.zero_le _, rfl, rfl, hide rfl, Below.refl _ _⟩
  case round =>
    obtain ⟨k, z, hk, rfl, rfl, HZ, hbw⟩ := hrel
    by_cases hlt : k < bs.length
    · obtain ⟨es, he⟩ : ∃ e, bs[k]? = some e := ⟨bs[k], List.getElem?_eq_getElem hlt⟩
      obtain ⟨g, off, rfl, hlg, a2, c2, hc, hs⟩ := HV.out.at he
      have hcw := (hbw.cell (p := ⟨g, off + k, none⟩) hlg).trans hc
      have hal := (Below.refl wr.heap.size wr).alloc (Nat.le_refl _) (.cells #[.slice a2 es.length c2] 55)
      have hbq := hbw.trans (hal.mono hbw.size)
      by_cases hk0 : k = 0
      · have hz := HZ.out
        unfold curI at hz
        rw [if_pos hk0] at hz
        have hzl : z < 0 := by omega
        have HN := hide (show (k : Int) = curI bs (k + 1) by unfold curI; rw [if_neg (by omega), hk0, cur_one])
        clear HZ hk0 hz hc hs he hal
        go_wp2
        exact ⟨⟨k + 1, k, by omega, by go_num, rfl, HN, hbq⟩, by simp [intOf]; omega⟩
      · have hz := HZ.out
        unfold curI at hz
        rw [if_neg hk0] at hz
        obtain ⟨q, hq⟩ : ∃ q, cur bs k = q := ⟨_, rfl⟩
        rw [hq] at hz
        subst hz
        obtain ⟨o, ho⟩ := cur_at hk (by omega)
        have HCB := hide (cur_btr he ho)
        rw [hq] at ho
        obtain ⟨g', off', hgg, -, a3, c3, hc3, hs3⟩ := HV.out.at ho
        simp only [Option.some.injEq, Addr.mk.injEq, and_true] at hgg
        obtain ⟨rfl, rfl⟩ := hgg
        have hql := (List.getElem?_eq_some_iff.1 ho).1
        have hzl : ¬ ((q : Int) < 0) := by omega
        have hi0 : (0 : Int) ≤ (q : Int) := by omega
        have hi1 : (q : Int) < (bs.length : Int) := by omega
        have q1 := (hbq.cell (p := ⟨g, off + q, none⟩) hlg).trans hc3
        have hpe := (HG.out.2.1 es (List.mem_of_getElem? he)).pos
        have hpo := (HG.out.2.1 o (List.mem_of_getElem? ho)).pos
        have hle := (HF.out.at he).1
        have hlo := (HF.out.at ho).1
        obtain ⟨je, hje⟩ : ∃ j, es.length - 1 = j := ⟨_, rfl⟩
        obtain ⟨jo, hjo⟩ : ∃ j, o.length - 1 = j := ⟨_, rfl⟩
        obtain ⟨x, hx⟩ : ∃ x, es[je]? = some x := ⟨es[je]'(by omega), List.getElem?_eq_getElem _⟩
        obtain ⟨y, hy⟩ : ∃ y, o[jo]? = some y := ⟨o[jo]'(by omega), List.getElem?_eq_getElem _⟩
        obtain ⟨a2', c2', hv2, hr2⟩ := hs
        obtain ⟨a3', c3', hv3, hr3⟩ := hs3
        simp only [Value.slice.injEq, true_and] at hv2 hv3
        obtain ⟨rfl, rfl⟩ := hv2
        obtain ⟨rfl, rfl⟩ := hv3
        obtain ⟨g1, o1, rfl, hl1, hrow1⟩ := hr2 (by intro h; subst h; simp at hpe)
        obtain ⟨g2, o2, rfl, hl2, hrow2⟩ := hr3 (by intro h; subst h; simp at hpo)
        have e1 := ((hrow1 je x hx).below hbq hl1).2.1
        have e2 := ((hrow2 jo y hy).below hbq hl2).2.1
        have hse : (es.length : Int) - 1 = (je : Int) := by omega
        have hso : (o.length : Int) - 1 = (jo : Int) := by omega
        have hj0 : (0 : Int) ≤ (je : Int) := by omega
        have hj1 : (je : Int) < (es.length : Int) := by omega
        have hj2 : (0 : Int) ≤ (jo : Int) := by omega
        have hj3 : (jo : Int) < (o.length : Int) := by omega
        have hlve := lv_at (show es[es.length - 1]? = some x by rw [hje]; exact hx)
        have hlvo := lv_at (show o[o.length - 1]? = some y by rw [hjo]; exact hy)
        have HQ := hide hq
        rcases (show y.ver < x.ver ∨ y.ver = x.ver ∨ x.ver < y.ver by omega) with h | h | h
        · have hg1 : x.ver > y.ver := h
          have HN := hide (show (k : Int) = curI bs (k + 1) by
            unfold curI
            rw [if_neg (by omega), HCB.out, btr_gt (by omega), if_pos rfl])
          clear HZ hk0 hc hc3 hr2 hr3 hrow1 hrow2 hx hy he ho hal hq hje hjo hlve hlvo HCB hpe hpo
          go_wp2
          exact ⟨⟨k + 1, k, by omega, by go_num, rfl, HN, hbq⟩, by simp [intOf]; omega⟩
        · have hg1 : ¬ x.ver > y.ver := by omega
          have hg2 : (x.ver == y.ver) = true := by simp [h]
          by_cases hll : o.length ≤ es.length
          · have hg3 : (es.length : Int) ≥ (o.length : Int) := by omega
            have HN := hide (show (k : Int) = curI bs (k + 1) by
              unfold curI
              rw [if_neg (by omega), HCB.out, btr_eq (by omega), decide_eq_true hll, if_pos rfl])
            clear HZ hk0 hc hc3 hr2 hr3 hrow1 hrow2 hx hy he ho hal hq hje hjo hlve hlvo HCB hpe hpo h
            go_wp2
            exact ⟨⟨k + 1, k, by omega, by go_num, rfl, HN, hbq⟩, by simp [intOf]; omega⟩
          · have hg3 : ¬ (es.length : Int) ≥ (o.length : Int) := by omega
            have HN := hide (show (q : Int) = curI bs (k + 1) by
              unfold curI
              rw [if_neg (by omega), HCB.out, btr_eq (by omega), decide_eq_false hll, if_neg (by simp), HQ.out])
            clear HZ hk0 hc hc3 hr2 hr3 hrow1 hrow2 hx hy he ho hal hq hje hjo hlve hlvo HCB hpe hpo h
            go_wp2
            exact ⟨⟨k + 1, q, by omega, by go_num, rfl, HN, hbq⟩, by simp [intOf]; omega⟩
        · have hg1 : ¬ x.ver > y.ver := by omega
          have hg2 : (x.ver == y.ver) = false := by simp; omega
          have HN := hide (show (q : Int) = curI bs (k + 1) by
            unfold curI
            rw [if_neg (by omega), HCB.out, btr_lt (by omega), if_neg (by simp), HQ.out])
          clear HZ hk0 hc hc3 hr2 hr3 hrow1 hrow2 hx hy he ho hal hq hje hjo hlve hlvo HCB hpe hpo h
          go_wp2
          exact ⟨⟨k + 1, q, by omega, by go_num, rfl, HN, hbq⟩, by simp [intOf]; omega⟩
    · obtain rfl : k = bs.length := by omega
      have HZ2 := hide HZ.out
      clear HV HZ
      go_wp2
      go_ret
      exact ⟨ret_int (by rw [HZ2.out]), hbw⟩
set_option maxHeartbeats 2000000 in
theorem spec_cur (v : Value) (bs : Brs) (b : Bool) (l : Evs) (w : World) (hv : BrsOf w v bs) (hf : FineS bs) (hco : CapOk v) (hb : BP b (GdT bs ∧ bs ≠ [])) (hl : (b = true → l = curB bs) ∧ (b = false → l = [])) :
    Calls Tryz.prog 35 #[.agg #[v]] w fun e w' => (∃ a n c, e = .returned (.tuple #[.slice a n c, .bool b]) ∧ OwnE w' w.heap.size (.slice a n c) l) ∧ Below w.heap.size w w' := by
  have hal := (Below.refl w.heap.size w).alloc (Nat.le_refl _) (.cells #[v] 30)
  have HV := hide (hv.below hal)
  have HC := hide (show M.One (w.alloc (.cells #[v] 30)) w.heap.size v 30 from heap_alloc_new w _)
  have HF := hide hf
  have HB := hide hb
  have HL := hide hl
  have HCO := hide hco
  obtain ⟨a1, c1, rfl⟩ := hv.form
  have d0 := HC.out.cell
  obtain ⟨gb, hgb⟩ := bp_ex (GdT bs)
  have HGB := hide hgb
  clear hv hf hco hb hl hgb
  cases gb
  · have HN := hide (show b = false from HB.out.no (fun h => by have := HGB.out.yes h.1; cases this))
    have HN2 := hide (HL.out.2 HN.out)
    go_enter Tryz.func35, Tryz.ntmps35
    go_wp2_with fail
    refine (spec_gt _ bs false _ HV.out HF.out HCO.out HGB.out).mono ?_
    rintro e w2 ⟨rfl, hb2⟩
    have hbw := hal.trans (hb2.mono hal.size)
    go_wp2
    go_ret2
    exact ⟨⟨_, _, _, by rw [HN.out]; rfl, by rw [HN2.out]; exact OwnE.nil _ _⟩, hbw⟩
  · have HG := hide (HGB.out.1 rfl)
    by_cases h0 : bs.length = 0
    · have HN := hide (show b = false from HB.out.no (fun h => h.2 (List.eq_nil_of_length_eq_zero h0)))
      have HN2 := hide (HL.out.2 HN.out)
      have HCI := hide (show curI bs bs.length = -1 by unfold curI; rw [if_pos h0])
      have hneg : (-1 : Int) < 0 := by decide
      clear h0
      go_enter Tryz.func35, Tryz.ntmps35
      go_wp2_with fail
      refine (spec_gt _ bs true _ HV.out HF.out HCO.out HGB.out).mono ?_
      rintro e w2 ⟨rfl, hb2⟩
      have hbw := hal.trans (hb2.mono hal.size)
      clear d0
      have d0 := (HC.out.down hb2).cell
      go_wp2_with fail
      refine (spec_current _ bs _ (HV.out.below hb2) HF.out HG.out).mono ?_
      rw [HCI.out]
      rintro e w3 ⟨rfl, hb3⟩
      have hbw3 := hbw.trans (hb3.mono hbw.size)
      clear hb3 hbw hb2 d0
      go_wp2
      go_ret2
      exact ⟨⟨_, _, _, by rw [HN.out]; rfl, by rw [HN2.out]; exact OwnE.nil _ _⟩, hbw3⟩
    · have hp : 0 < bs.length := by omega
      have HN := hide (show b = true from HB.out.yes ⟨HG.out, fun h => by subst h; simp at h0⟩)
      have HN2 := hide (HL.out.1 HN.out)
      obtain ⟨q, hq⟩ : ∃ q, cur bs bs.length = q := ⟨_, rfl⟩
      have HCI := hide (show curI bs bs.length = (q : Int) by unfold curI; rw [if_neg h0, hq])
      have hcb := cur_b hp
      rw [hq] at hcb
      obtain ⟨g, off, rfl, hlg, a2, c2, hc, hs⟩ := HV.out.at hcb
      have hql := (List.getElem?_eq_some_iff.1 hcb).1
      have hzl : ¬ ((q : Int) < 0) := by omega
      have hi0 : (0 : Int) ≤ (q : Int) := by omega
      have hi1 : (q : Int) < (bs.length : Int) := by omega
      have HT := hide (HG.out.2.1 (curB bs) (List.mem_of_getElem? (cur_b hp)))
      have HS := hide hs
      have HCE := hide hc
      clear h0 hq hcb hc hs
      go_enter Tryz.func35, Tryz.ntmps35
      go_wp2_with fail
      refine (spec_gt _ bs true _ HV.out HF.out HCO.out HGB.out).mono ?_
      rintro e w2 ⟨rfl, hb2⟩
      have hbw := hal.trans (hb2.mono hal.size)
      clear d0
      have d0 := (HC.out.down hb2).cell
      go_wp2_with fail
      refine (spec_current _ bs _ (HV.out.below hb2) HF.out HG.out).mono ?_
      rw [HCI.out]
      rintro e w3 ⟨rfl, hb3⟩
      have hbx := hb2.trans (hb3.mono hb2.size)
      have hbw3 := hal.trans (hbx.mono hal.size)
      clear d0 hb3 hbw hb2
      have d0 := (HC.out.down hbx).cell
      have d1 := (hbx.cell (p := ⟨g, off + q, none⟩) hlg).trans HCE.out
      go_wp2_with fail
      refine (own_evs _ (curB bs) _ (HS.out.below hbx) (by have := HT.out.short; omega) HT.out.1).mono ?_
      rintro e w4 ⟨⟨a7, n7, c7, rfl, hO⟩, hb4⟩
      have HO := hide (hO.mono hbw3.size)
      have hbz := hbw3.trans (hb4.mono hbw3.size)
      clear hO hb4 hbw3 hbx d0 d1
      go_wp2
      go_ret2
      exact ⟨⟨_, _, _, by rw [HN.out]; rfl, by rw [HN2.out]; exact HO.out⟩, hbz⟩
end Go.Proofs.YtcbkeabfnldmhaaGreatDoor

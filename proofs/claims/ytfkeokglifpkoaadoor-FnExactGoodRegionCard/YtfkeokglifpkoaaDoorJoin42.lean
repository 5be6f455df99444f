/-
  Texts that follow one another, joined: BrX, BrY, NxM.
-/
import Derived.Test.YtfkeokglifpkoaaDoorJoin40
import Derived.Lib.AppendZeros
import Derived.Test.YtfkeokglifpkoaaDoorJoin41
import Derived.Test.YtfkeokglifpkoaaDoorJoin5
import Derived.Deep.RegionWith
import Derived.Test.YtfkeokglifpkoaaDoorJoin2
/-
  Events copied into memory of a call's own: the program's way, one by one with their names, and the specification's, in one append.
-/
namespace Go.Proofs.YtfkeokglifpkoaaDoor
open Go.RowKit M
open Go.Sort (grow)
namespace M
theorem mod4 (j : Nat) : j % 4 = 0 ∨ j % 4 = 1 ∨ j % 4 = 2 ∨ j % 4 = 3 := by omega
/-- The cells of a row of events, read one by one. -/
theorem row_src {w : World} {b off : Nat} {es : Evs} (h : Row w b off es) : ∀ j u, (cellsE es)[j]? = some u → w.cell? ((⟨b, off, none⟩ : Addr).add j) = some u := by
  intro j u hj
  have ha : (⟨b, off, none⟩ : Addr).add j = ⟨b, off + j, none⟩ := by unfold Addr.add; split <;> simp_all
  rw [ha]
  have hl : j < es.length * 4 := by
    have := (List.getElem?_eq_some_iff.1 hj).1
    rw [cellsE_len] at this; exact this
  obtain ⟨e, he⟩ : ∃ e, es[j / 4]? = some e := ⟨es[j / 4]'(by omega), List.getElem?_eq_getElem _⟩
  obtain ⟨c0, c1, c2, c3⟩ := h (j / 4) e he
  obtain ⟨d0, d1, d2, d3⟩ := cellsE_at es (j / 4) e he
  rcases mod4 j with m | m | m | m
  · have e0 : j = j / 4 * 4 := by omega
    rw [e0, d0] at hj
    simp only [Option.some.injEq] at hj
    rw [← hj, e0]
    have : j / 4 * 4 / 4 = j / 4 := by omega
    exact c0
  · have e0 : j = j / 4 * 4 + 1 := by omega
    rw [e0, d1] at hj
    simp only [Option.some.injEq] at hj
    rw [← hj, e0]
    exact c1
  · have e0 : j = j / 4 * 4 + 2 := by omega
    rw [e0, d2] at hj
    simp only [Option.some.injEq] at hj
    rw [← hj, e0]
    exact c2
  · have e0 : j = j / 4 * 4 + 3 := by omega
    rw [e0, d3] at hj
    simp only [Option.some.injEq] at hj
    rw [← hj, e0]
    exact c3
theorem cellsE_one (es : Evs) : ∀ v ∈ cellsE es, v.oneCell' = true := by
  intro v hv
  obtain ⟨j, hj, he⟩ := List.mem_iff_getElem.1 hv
  rw [cellsE_len] at hj
  obtain ⟨e, hx⟩ : ∃ e, es[j / 4]? = some e := ⟨es[j / 4]'(by omega), List.getElem?_eq_getElem _⟩
  obtain ⟨d0, d1, d2, d3⟩ := cellsE_at es (j / 4) e hx
  have hg : (cellsE es)[j]? = some v := by rw [← he]; exact List.getElem?_eq_getElem _
  rcases mod4 j with m | m | m | m
  · rw [show j = j / 4 * 4 by omega, d0] at hg; simp only [Option.some.injEq] at hg; rw [← hg]; rfl
  · rw [show j = j / 4 * 4 + 1 by omega, d1] at hg; simp only [Option.some.injEq] at hg; rw [← hg]; rfl
  · rw [show j = j / 4 * 4 + 2 by omega, d2] at hg; simp only [Option.some.injEq] at hg; rw [← hg]; rfl
  · rw [show j = j / 4 * 4 + 3 by omega, d3] at hg; simp only [Option.some.injEq] at hg; rw [← hg]; rfl
theorem OwnE.form {w : World} {B : Nat} {v : Value} {es : Evs} (h : OwnE w B v es) : ∃ a c, v = .slice a es.length c := h.slice.form
theorem OwnE.lit0 (w : World) : OwnE (w.alloc (.cells #[] 45)) w.heap.size (.slice (some ⟨w.heap.size, 0, none⟩) 0 0) [] :=
  OwnE.of (rest := []) (Nat.le_refl _) rfl (Nat.le_refl _) (Nat.zero_le _) (by simp [cellsE]) (by have := heap_alloc_new w (.cells #[] 45); simpa [cellsE] using this)
/-- Events put behind events of a call's own. -/
theorem wpList_appE (w : World) {ops : Array Oper} {rest : List Oper} {o : Oper} {a : Act} {Q : Exit → Act → World → Prop} (hgd : o.guard = none) (s x : Operand)
    (ho : o.op = .call { callee := .builtin .append, args := #[s, x], argTypes := #[41, 41] }) (B : Nat) (l0 l : Evs) (v : Value) (hs : a.eval s = v) (hown : OwnE w B v l0)
    (b off cu : Nat) (hx : a.eval x = .slice (some ⟨b, off, none⟩) l.length cu) (hu : ∀ j u, (cellsE l)[j]? = some u → w.cell? ((⟨b, off, none⟩ : Addr).add j) = some u) (hl : l0.length + l.length ≤ 2097152) (hbase : B ≤ w.heap.size)
    (h : ∀ a' n' c' w', OwnE w' B (.slice a' n' c') (l0 ++ l) → w.grownBy w' v.ownBlock → ((Value.slice a' n' c').ownBlock = v.ownBlock ∨ (Value.slice a' n' c').ownBlock = some w.heap.size) → wpList Tryd.prog ops Q rest (a.put o.dst (.slice a' n' c')) w') : wpList Tryd.prog ops Q (o :: rest) a w := by
  obtain ⟨i0, hi, hz0, hz1, hz2⟩ := info_parts info_ev
  obtain ⟨v', w', hr, hown', hgr, -, hblk⟩ := run_append_own_at (P := Tryd.prog) (w := w) B 41 o.type 45 i0 _ 4 40 Tryd.underlying41 hi hz0 hz1 hz2 rfl (by decide) v _ _ hown ⟨b, off, none⟩ l.length cu (cellsE l) (cellsE_len l) hu (cellsE_one l) (by unfold maxLen; omega) (by omega) hbase
  have hO : OwnE w' B v' (l0 ++ l) := by
    unfold OwnE
    rw [List.length_append, cellsE_append]; exact hown'
  obtain ⟨a', c', rfl⟩ := hO.form
  exact Lib.wpList_append_run (P := Tryd.prog) w hgd s x 41 41 ho _ _ hs hx _ _ hr (h _ _ _ w' hO hgr hblk)
theorem Tl.names {es : Evs} (h : Tl es) : ∀ e ∈ es, e.name.size ≤ 12 := fun e he => by
  obtain ⟨i, hi, rfl⟩ := List.mem_iff_getElem.1 he
  have := (h.2.2.1.2.1 i _ hi (List.getElem?_eq_getElem hi)).1
  unfold Ev.gd goodB at this
  simp only [Bool.and_eq_true] at this
  exact gN_size this.2.2.2
theorem four_src (X : World) (e : Ev) : ∀ j u, (cellsE [e])[j]? = some u → (X.alloc (.cells (evarr e) 45)).cell? ((⟨X.heap.size, 0, none⟩ : Addr).add j) = some u := by
  obtain ⟨c0, c1, c2, c3⟩ := four_new X (.int .i64 e.id) (.int .i64 e.ver) (.int .i64 e.kind) (.string e.name) 45
  refine row_src (fun i x hx => ?_)
  cases i with
  | zero =>
    simp only [List.getElem?_cons_zero, Option.some.injEq] at hx
    subst hx
    exact ⟨c0, c1, c2, c3⟩
  | succ i => simp at hx
end M
theorem clone_n (s : ByteArray) (w : World) (hlim : s.size ≤ 281474976710656) :
    Calls Tryd.prog 75 #[.string s] w fun e w' => e = .returned (.string s) ∧ Below w.heap.size w w' := by
  go_enter Tryd.func75, Tryd.ntmps75
  go_wp2_with (go_at_call 81; refine (Tryd.stringslite_Clone _ _ hlim).mono ?_; rintro e w1 ⟨rfl, hb1⟩)
  go_ret
  exact ⟨rfl, hb1⟩
end Go.Proofs.YtfkeokglifpkoaaDoor

/-
  The history that counts: the last one in the order of weights, and the specification's way to it.
-/
namespace Go.Proofs.YtfkeokglifpkoaaDoor
open Go.RowKit M
open Go.Sort (grow)
set_option maxRecDepth 20000 in
set_option maxHeartbeats 2000000 in
/-- The places of branches in the order of weights. -/
theorem in_weight (v : Value) (bs : Brs) (w : World) (hv : BrsOf w v bs) (hn : bs.length ≤ 1048576) :
    Calls Tryd.prog 43 #[v] w fun e w' => (∃ r, e = .returned r ∧ StdOf 91 w' r bs) ∧ Below w.heap.size w w' := by
  have HV := hide hv
  obtain ⟨a, cap, rfl⟩ := hv.form
  clear hv
  go_enter Tryd.func43, Tryd.ntmps43
  go_wp2
  go_loopw [3, 8] (fun x i wr => ∃ (k : Nat) (us : List Value) (a' : Option Addr) (c' : Nat), k ≤ bs.length ∧ i = .int .i64 k ∧ x = .slice a' k c' ∧ Hid (us.length = k) ∧ Hid (wr.ownsRow w.heap.size 79 1 (.slice a' k c') k (stn 91 us)) ∧ Hid (Hds w us (bs.take k)) ∧ Below w.heap.size w wr) (fun _ i _ => bs.length - (intOf i).toNat)
  case atStart => exact ⟨0, [], none, 0, Nat.zero_le _, rfl, rfl, hide rfl, hide ⟨rfl, .inl ⟨rfl, rfl⟩⟩, hide (Hds.nil _), Below.refl _ _⟩
  case round =>
    obtain ⟨k, us, a', c', hk, rfl, rfl, HU, HO, HD, hbw⟩ := hrel
    by_cases hlt : k < bs.length
    · obtain ⟨es, he⟩ : ∃ e, bs[k]? = some e := ⟨bs[k], List.getElem?_eq_getElem hlt⟩
      obtain ⟨b, off, rfl, hlb, a2, c2, hc, hs⟩ := HV.out.at he
      have hcw := (hbw.cell (p := ⟨b, off + k, none⟩) hlb).trans hc
      have hal := (Below.refl wr.heap.size wr).alloc (Nat.le_refl _) (.cells #[.slice a2 es.length c2] 43)
      have hal2 := hal.alloc (by simp) (.cells #[.iface 91 (.agg #[.slice a2 es.length c2])] 79)
      have HO2 := hide (owns_below HO.out hal2)
      have HD2 := hide (show Hds w (us ++ [.slice a2 es.length c2]) (bs.take (k + 1)) by rw [take_snocB he]; exact HD.out.snoc hs)
      have HU2 := hide (show (us ++ [Value.slice a2 es.length c2]).length = k + 1 by rw [List.length_append, HU.out]; rfl)
      have hbw2 := hbw.trans (hal2.mono hbw.size)
      have hc1 : ((wr.alloc (.cells #[.slice a2 es.length c2] 43)).alloc (.cells #[.iface 91 (.agg #[.slice a2 es.length c2])] 79)).cell? ⟨wr.heap.size + 1, 0, none⟩ = some (.iface 91 (.agg #[.slice a2 es.length c2])) := by
        have := (one_new (wr.alloc (.cells #[.slice a2 es.length c2] 43)) (.iface 91 (.agg #[.slice a2 es.length c2])) 79)
        rw [World.size_alloc] at this; exact this
      have HC := hide hc1
      have hsz := hbw2.size
      clear hs he hal hal2 HO HD hc1 HU hc
      go_wp2_with (at_builtin; refine wpList_put1 _ rfl _ _ 66 79 .nilIface 16 Tryd.underlying66 info_std rfl (by decide) rfl w.heap.size k (stn 91 us) _ _ rfl HO2.out _ _ _ rfl HC.out rfl (by omega) hsz ?_)
      intro a3 c3 w3 hO3 hg3 _
      have hbw3 : Below w.heap.size w w3 := hbw2.grown hg3 hsz (fun j hj => (own_lt HO2.out hj).1)
      have HO3 := hide (show w3.ownsRow w.heap.size 79 1 (.slice a3 (k + 1) c3) (k + 1) (stn 91 (us ++ [.slice a2 es.length c2])) from by rw [stn_app]; exact hO3)
      clear hO3 hg3 HO2 HC hbw2 hsz
      go_wp2
      exact ⟨⟨k + 1, us ++ [.slice a2 es.length c2], a3, c3, by omega, by go_num, by go_num, HU2, HO3, HD2, hbw3⟩, by simp [intOf]; omega⟩
    · obtain rfl : k = bs.length := by omega
      have hd := HD.out.below hbw
      rw [List.take_length] at hd
      have ho := HO.out
      rw [← HU.out] at ho
      have HS := hide (show StdOf 91 wr (.slice a' bs.length c') bs by rw [← HU.out]; exact std_of ho hd)
      clear hd ho HV HO HD HU
      go_wp2
      go_ret
      exact ⟨⟨_, rfl, HS.out⟩, hbw⟩
set_option maxRecDepth 20000 in
set_option maxHeartbeats 4000000 in
theorem last_among (v : Value) (bs : Brs) (w : World) (hv : StdOf 91 w v bs) (hf : FineS bs) (hp : 0 < bs.length) (hg : GdT bs) :
    Calls Tryd.prog 42 #[v] w fun e w' => e = .returned (.int .i64 ((cur bs bs.length : Nat) : Int)) ∧ Below w.heap.size w w' := by
  have HV := hide hv
  have HF := hide hf
  have HG := hide hg
  have hn := hf.1
  obtain ⟨a, cap, rfl⟩ := hv.form
  have hcm := fun u W => cm_wt u W
  clear hv hf hg
  go_enter Tryd.func42, Tryd.ntmps42
  go_wp2
  go_loopw [3, 8] (fun x i wr => ∃ k q : Nat, k ≤ bs.length ∧ i = .int .i64 k ∧ x = .int .i64 q ∧ Hid (q = cur bs k) ∧ Below w.heap.size w wr) (fun _ i _ => bs.length - (intOf i).toNat)
  case atStart => exact ⟨0, 0, Nat.zero_le _, rfl, rfl, hide rfl, Below.refl _ _⟩
  case round =>
    obtain ⟨k, q, hk, rfl, rfl, HQ, hbw⟩ := hrel
    by_cases hlt : k < bs.length
    · obtain ⟨es, he⟩ : ∃ e, bs[k]? = some e := ⟨bs[k], List.getElem?_eq_getElem hlt⟩
      obtain ⟨o, ho⟩ := cur_at hk hp
      rw [← HQ.out] at ho
      obtain ⟨g, off, rfl, hlg, a2, c2, hc, hs⟩ := HV.out.at he
      obtain ⟨g', off', hgg, -, a3, c3, hc3, hs3⟩ := HV.out.at ho
      simp only [Option.some.injEq, Addr.mk.injEq, and_true] at hgg
      obtain ⟨rfl, rfl⟩ := hgg
      have d1 := (hbw.cell (p := ⟨g, off + k, none⟩) hlg).trans hc
      have d2 := (hbw.cell (p := ⟨g, off + q, none⟩) hlg).trans hc3
      have hql := (List.getElem?_eq_some_iff.1 ho).1
      have hi0 : (0 : Int) ≤ (q : Int) := by omega
      have hi1 : (q : Int) < (bs.length : Int) := by omega
      have hi2 : (0 : Int) ≤ (k : Int) := by omega
      have hi3 : (k : Int) < (bs.length : Int) := by omega
      have HST := hide (cur_step HG.out.2.2 he (by rw [← HQ.out]; exact ho) (by
        cases k with
        | zero => exact .inr rfl
        | succ k => have := cur_lt bs k; exact .inl (by omega)))
      have HE := hide (ahead_wt (.slice a3 o.length c3) (.slice a2 es.length c2) o es wr (hs3.below hbw) (hs.below hbw) (HF.out.at ho).1 (HF.out.at he).1 (HG.out.2.1 o (List.mem_of_getElem? ho)).pos (HG.out.2.1 es (List.mem_of_getElem? he)).pos)
      clear hc hs hc3 hs3 he ho
      cases hz : wgt o es
      · have HN := hide (show q = cur bs (k + 1) by rw [HST.out, hz, HQ.out]; simp)
        rw [hz] at HE
        clear hz HST
        go_wp2_with (go_at_call 112; refine HE.out.mono ?_; rintro e w2 ⟨rfl, hb2⟩; have hbw2 := hbw.trans (hb2.mono hbw.size))
        exact ⟨⟨k + 1, q, by omega, by go_num, rfl, HN, hbw2⟩, by simp [intOf]; omega⟩
      · have HN := hide (show k = cur bs (k + 1) by rw [HST.out, hz]; simp)
        rw [hz] at HE
        clear hz HST
        go_wp2_with (go_at_call 112; refine HE.out.mono ?_; rintro e w2 ⟨rfl, hb2⟩; have hbw2 := hbw.trans (hb2.mono hbw.size))
        exact ⟨⟨k + 1, k, by omega, by go_num, rfl, HN, hbw2⟩, by simp [intOf]; omega⟩
    · obtain rfl : k = bs.length := by omega
      have HQ2 := hide HQ.out
      clear HV HQ
      go_wp2
      go_ret
      exact ⟨ret_int (by rw [HQ2.out]), hbw⟩
set_option maxHeartbeats 2000000 in
theorem current_among (v : Value) (bs : Brs) (w : World) (hv : BrsOf w v bs) (hf : FineS bs) (hp : 0 < bs.length) (hg : GdT bs) :
    Calls Tryd.prog 35 #[.agg #[v]] w fun e w' => (∃ a c, e = .returned (.slice a (curB bs).length c) ∧ SliceOf w (.slice a (curB bs).length c) (curB bs) ∧ ∀ g off n cp, v = .slice (some ⟨g, off, none⟩) n cp → w.cell? ⟨g, off + cur bs bs.length, none⟩ = some (.slice a (curB bs).length c)) ∧ Below w.heap.size w w' := by
  have hal := (Below.refl w.heap.size w).alloc (Nat.le_refl _) (.cells #[v] 31)
  have HV := hide (hv.below hal)
  have HN := hide (show M.One (w.alloc (.cells #[v] 31)) w.heap.size v 31 from heap_alloc_new w _)
  have HF := hide hf
  have HG := hide hg
  obtain ⟨q, hq⟩ : ∃ q, cur bs bs.length = q := ⟨_, rfl⟩
  have hcb := cur_b hp
  rw [hq] at hcb
  obtain ⟨a, cap, rfl⟩ := hv.form
  obtain ⟨g, off, rfl, hlg, a2, c2, hc, hs⟩ := hv.at hcb
  have hql := (List.getElem?_eq_some_iff.1 hcb).1
  have hi0 : (0 : Int) ≤ (q : Int) := by omega
  have hi1 : (q : Int) < (bs.length : Int) := by omega
  have hne : ((bs.length : Int) == 0) = false := by simp; intro h; subst h; simp at hp
  have hne2 : (bs.length == 0) = false := by simp; intro h; subst h; simp at hp
  obtain ⟨W, hW⟩ : ∃ W, w.alloc (.cells #[.slice (some ⟨g, off, none⟩) bs.length cap] 31) = W := ⟨_, rfl⟩
  rw [hW] at HV HN hal
  have d0 := HN.out.cell
  have HMC := hide (show ∀ wy : World, Below W.drew.heap.size W.drew wy → wy.cell? ⟨w.heap.size, 0, none⟩ = some (.slice (some ⟨g, off, none⟩) bs.length cap) ∧ wy.cell? ⟨g, off + q, none⟩ = some (.slice a2 (curB bs).length c2) from fun wy hb => by
    have h1 : M.One W.drew w.heap.size (.slice (some ⟨g, off, none⟩) bs.length cap) 31 := HN.out
    have h2 : W.drew.cell? ⟨g, off + q, none⟩ = some (.slice a2 (curB bs).length c2) := (hal.cell (p := ⟨g, off + q, none⟩) hlg).trans hc
    exact ⟨(h1.down hb).cell, (hb.cell (p := ⟨g, off + q, none⟩) (Nat.lt_of_lt_of_le hlg hal.size)).trans h2⟩)
  have HW := hide hW
  have HQ := hide hq
  have HS := hide hs
  have HC := hide hc
  have HCC := hide (show ∀ g' off' n cp, (Value.slice (some ⟨g, off, none⟩) bs.length cap) = .slice (some ⟨g', off', none⟩) n cp → w.cell? ⟨g', off' + cur bs bs.length, none⟩ = some (.slice a2 (curB bs).length c2) from fun g' off' n cp e => by
    simp only [Value.slice.injEq, Option.some.injEq, Addr.mk.injEq, and_true] at e
    obtain ⟨⟨rfl, rfl⟩, -, -⟩ := e
    rw [hq]; exact hc)
  clear hv hf hg hq hcb hs hc hW
  go_enter Tryd.func35, Tryd.ntmps35
  go_upto_region 3 with fail
  rw [HW.out]
  go_region_with (first
    | (go_at_call 43; refine (in_weight _ bs _ (HV.out.below (Below.refl _ _).drew) HF.out.1).mono ?_; rintro e w2 ⟨⟨r, rfl, hr⟩, hb2⟩; have HR := hide hr; obtain ⟨a5, c5, rfl⟩ := hr.form; clear hr; obtain ⟨m0, m1⟩ := HMC.out w2 hb2)
    | (go_at_call 42; refine (last_among _ bs _ HR.out HF.out hp HG.out).mono ?_; rw [HQ.out]; rintro e w3 ⟨rfl, hb3⟩; obtain ⟨n0, n1⟩ := HMC.out w3 (hb2.trans (hb3.mono hb2.size))))
  all_goals
    have hbw := hal.trans (((Below.refl W.heap.size W).drew.trans (hb2.trans (hb3.mono hb2.size))).mono hal.size)
    clear hb2 hb3 HR hal
    go_wp2
    go_ret
    exact ⟨⟨_, _, rfl, HS.out, HCC.out⟩, hbw⟩
theorem current_none (a : Option Addr) (c : Nat) (w : World) :
    Calls Tryd.prog 35 #[.agg #[.slice a 0 c]] w fun e w' => e = .returned (.slice none 0 0) ∧ Below w.heap.size w w' := by
  have hal := (Below.refl w.heap.size w).alloc (Nat.le_refl _) (.cells #[.slice a 0 c] 31)
  have d0 := (show M.One (w.alloc (.cells #[.slice a 0 c] 31)) w.heap.size (.slice a 0 c) 31 from heap_alloc_new w _).cell
  go_enter Tryd.func35, Tryd.ntmps35
  go_wp2
  go_ret
  exact ⟨rfl, hal⟩
/-- The history that counts, of good tellings. -/
theorem impl_current (v : Value) (bs : Brs) (w : World) (hv : BrsOf w v bs) (hf : FineS bs) (hg : GdT bs) :
    Calls Tryd.prog 35 #[.agg #[v]] w fun e w' => (∃ a c, e = .returned (.slice a (cB bs).length c) ∧ SliceOf w' (.slice a (cB bs).length c) (cB bs)) ∧ Below w.heap.size w w' := by
  by_cases h0 : bs = []
  · subst h0
    obtain ⟨a1, c1, rfl⟩ := hv.form
    refine (current_none a1 c1 w).mono ?_
    rintro e w' ⟨rfl, hb⟩
    exact ⟨⟨none, 0, rfl, ⟨none, 0, rfl, fun h => absurd rfl h⟩⟩, hb⟩
  · have hp : 0 < bs.length := List.length_pos_iff.2 h0
    have hcb : cB bs = curB bs := if_neg h0
    rw [hcb]
    refine (current_among _ bs w hv hf hp hg).mono ?_
    rintro e w' ⟨⟨a, c, rfl, hs, -⟩, hb⟩
    exact ⟨⟨a, c, rfl, hs.below hb⟩, hb⟩
end Go.Proofs.YtfkeokglifpkoaaDoor

/-
  The next version: plain mathematics.
-/
namespace Go.Proofs.YtfkeokglifpkoaaDoor
open Go.RowKit M
namespace M
def nx (v r : Int) : Int := if v - v % 10 + r ≤ v then v - v % 10 + r + 10 else v - v % 10 + r
theorem nx_gt {v r : Int} (hr : 0 ≤ r) (hr2 : r ≤ 9) : v < nx v r ∧ nx v r ≤ v + 10 := by
  unfold nx; split <;> omega
end M
end Go.Proofs.YtfkeokglifpkoaaDoor

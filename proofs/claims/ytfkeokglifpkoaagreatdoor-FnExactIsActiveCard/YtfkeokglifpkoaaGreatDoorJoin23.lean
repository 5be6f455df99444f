/-
  Texts that follow one another, joined: BrX, BrY, NxM, Vs.
-/
import Derived.Test.YtfkeokglifpkoaaGreatDoorJoin21
import Derived.Lib.AppendZeros
import Derived.Test.YtfkeokglifpkoaaGreatDoorJoin22
import Derived.Test.YtfkeokglifpkoaaGreatDoorJoin4
import Derived.Deep.RegionWith
import Derived.Test.YtfkeokglifpkoaaGreatDoorJoin2
/-
  Events copied into memory of a call's own: the program's way, one by one with their names, and the specification's, in one append.
-/
namespace Go.Proofs.YtfkeokglifpkoaaGreatDoor
open Go.RowKit M
open Go.Sort (grow)
namespace M
theorem mod4 (j : Nat) : j % 4 = 0 ∨ j % 4 = 1 ∨ j % 4 = 2 ∨ j % 4 = 3 := by omega
/-- The cells of a row of events, read one by one. -/
theorem row_src {w : World} {b off : Nat} {es : Evs} (h : Row w b off es) : ∀ j u, (cellsE es)[j]? = some u → w.cell? ((⟨b, off, none⟩ : Addr).add j) = some u := by
  intro j u hj
  have ha : (⟨b, off, none⟩ : Addr).add j = ⟨b, off + j, none⟩ := by unfold Addr.add; split <;> simp_all
  rw [ha]
  have hl : j < es.length * 4 := by
    have := (List.getElem?_eq_some_iff.1 hj).1
    rw [cellsE_len] at this; exact this
  obtain ⟨e, he⟩ : ∃ e, es[j / 4]? = some e := ⟨es[j / 4]'(by omega), List.getElem?_eq_getElem _⟩
  obtain ⟨c0, c1, c2, c3⟩ := h (j / 4) e he
  obtain ⟨d0, d1, d2, d3⟩ := cellsE_at es (j / 4) e he
  rcases mod4 j with m | m | m | m
  · have e0 : j = j / 4 * 4 := by omega
    rw [e0, d0] at hj
    simp only [Option.some.injEq] at hj
    rw [← hj, e0]
    have : j / 4 * 4 / 4 = j / 4 := by omega
    exact c0
  · have e0 : j = j / 4 * 4 + 1 := by omega
    rw [e0, d1] at hj
    simp only [Option.some.injEq] at hj
    rw [← hj, e0]
    exact c1
  · have e0 : j = j / 4 * 4 + 2 := by omega
    rw [e0, d2] at hj
    simp only [Option.some.injEq] at hj
    rw [← hj, e0]
    exact c2
  · have e0 : j = j / 4 * 4 + 3 := by omega
    rw [e0, d3] at hj
    simp only [Option.some.injEq] at hj
    rw [← hj, e0]
    exact c3
theorem cellsE_one (es : Evs) : ∀ v ∈ cellsE es, v.oneCell' = true := by
  intro v hv
  obtain ⟨j, hj, he⟩ := List.mem_iff_getElem.1 hv
  rw [cellsE_len] at hj
  obtain ⟨e, hx⟩ : ∃ e, es[j / 4]? = some e := ⟨es[j / 4]'(by omega), List.getElem?_eq_getElem _⟩
  obtain ⟨d0, d1, d2, d3⟩ := cellsE_at es (j / 4) e hx
  have hg : (cellsE es)[j]? = some v := by rw [← he]; exact List.getElem?_eq_getElem _
  rcases mod4 j with m | m | m | m
  · rw [show j = j / 4 * 4 by omega, d0] at hg; simp only [Option.some.injEq] at hg; rw [← hg]; rfl
  · rw [show j = j / 4 * 4 + 1 by omega, d1] at hg; simp only [Option.some.injEq] at hg; rw [← hg]; rfl
  · rw [show j = j / 4 * 4 + 2 by omega, d2] at hg; simp only [Option.some.injEq] at hg; rw [← hg]; rfl
  · rw [show j = j / 4 * 4 + 3 by omega, d3] at hg; simp only [Option.some.injEq] at hg; rw [← hg]; rfl
theorem OwnE.form {w : World} {B : Nat} {v : Value} {es : Evs} (h : OwnE w B v es) : ∃ a c, v = .slice a es.length c := h.slice.form
theorem OwnE.lit0 (w : World) : OwnE (w.alloc (.cells #[] 74)) w.heap.size (.slice (some ⟨w.heap.size, 0, none⟩) 0 0) [] :=
  OwnE.of (rest := []) (Nat.le_refl _) rfl (Nat.le_refl _) (Nat.zero_le _) (by simp [cellsE]) (by have := heap_alloc_new w (.cells #[] 74); simpa [cellsE] using this)
/-- Events put behind events of a call's own. -/
theorem wpList_appE (w : World) {ops : Array Oper} {rest : List Oper} {o : Oper} {a : Act} {Q : Exit → Act → World → Prop} (hgd : o.guard = none) (s x : Operand)
    (ho : o.op = .call { callee := .builtin .append, args := #[s, x], argTypes := #[69, 69] }) (B : Nat) (l0 l : Evs) (v : Value) (hs : a.eval s = v) (hown : OwnE w B v l0)
    (b off cu : Nat) (hx : a.eval x = .slice (some ⟨b, off, none⟩) l.length cu) (hu : ∀ j u, (cellsE l)[j]? = some u → w.cell? ((⟨b, off, none⟩ : Addr).add j) = some u) (hl : l0.length + l.length ≤ 2097152) (hbase : B ≤ w.heap.size)
    (h : ∀ a' n' c' w', OwnE w' B (.slice a' n' c') (l0 ++ l) → w.grownBy w' v.ownBlock → ((Value.slice a' n' c').ownBlock = v.ownBlock ∨ (Value.slice a' n' c').ownBlock = some w.heap.size) → wpList Tryz.prog ops Q rest (a.put o.dst (.slice a' n' c')) w') : wpList Tryz.prog ops Q (o :: rest) a w := by
  obtain ⟨i0, hi, hz0, hz1, hz2⟩ := info_parts info_ev
  obtain ⟨v', w', hr, hown', hgr, -, hblk⟩ := run_append_own_at (P := Tryz.prog) (w := w) B 69 o.type 74 i0 _ 4 40 Tryz.underlying69 hi hz0 hz1 hz2 rfl (by decide) v _ _ hown ⟨b, off, none⟩ l.length cu (cellsE l) (cellsE_len l) hu (cellsE_one l) (by unfold maxLen; omega) (by omega) hbase
  have hO : OwnE w' B v' (l0 ++ l) := by
    unfold OwnE
    rw [List.length_append, cellsE_append]; exact hown'
  obtain ⟨a', c', rfl⟩ := hO.form
  exact Lib.wpList_append_run (P := Tryz.prog) w hgd s x 69 69 ho _ _ hs hx _ _ hr (h _ _ _ w' hO hgr hblk)
theorem Tl.names {es : Evs} (h : Tl es) : ∀ e ∈ es, e.name.size ≤ 12 := fun e he => by
  obtain ⟨i, hi, rfl⟩ := List.mem_iff_getElem.1 he
  have := (h.2.2.1.2.1 i _ hi (List.getElem?_eq_getElem hi)).1
  unfold Ev.gd goodB at this
  simp only [Bool.and_eq_true] at this
  exact gN_size this.2.2.2
theorem four_src (X : World) (e : Ev) : ∀ j u, (cellsE [e])[j]? = some u → (X.alloc (.cells (evarr e) 74)).cell? ((⟨X.heap.size, 0, none⟩ : Addr).add j) = some u := by
  obtain ⟨c0, c1, c2, c3⟩ := four_new X (.int .i64 e.id) (.int .i64 e.ver) (.int .i64 e.kind) (.string e.name) 74
  refine row_src (fun i x hx => ?_)
  cases i with
  | zero =>
    simp only [List.getElem?_cons_zero, Option.some.injEq] at hx
    subst hx
    exact ⟨c0, c1, c2, c3⟩
  | succ i => simp at hx
end M
theorem clone_n (s : ByteArray) (w : World) (hlim : s.size ≤ 281474976710656) :
    Calls Tryz.prog 137 #[.string s] w fun e w' => e = .returned (.string s) ∧ Below w.heap.size w w' := by
  go_enter Tryz.func137, Tryz.ntmps137
  go_wp2_with (go_at_call 169; refine (Tryz.stringslite_Clone _ _ hlim).mono ?_; rintro e w1 ⟨rfl, hb1⟩)
  go_ret
  exact ⟨rfl, hb1⟩
set_option maxRecDepth 20000 in
set_option maxHeartbeats 4000000 in
theorem copy_evs (v : Value) (es : Evs) (w : World) (hv : SliceOf w v es) (hlen : es.length ≤ 1048576) (hnm : ∀ e ∈ es, e.name.size ≤ 12) :
    Calls Tryz.prog 88 #[v] w fun e w' => (∃ a n c, e = .returned (.slice a n c) ∧ OwnE w' w.heap.size (.slice a n c) es) ∧ Below w.heap.size w w' := by
  have HN := hide hnm
  obtain ⟨a, cap, rfl, hr⟩ := hv
  have HR := hide hr
  clear hr hnm
  go_enter Tryz.func88, Tryz.ntmps88
  go_wp2
  go_loopw [3, 8] (fun x i wr => ∃ (k n' c' : Nat) (a' : Option Addr), k ≤ es.length ∧ i = .int .i64 k ∧ x = .slice a' n' c' ∧ Hid (OwnE wr w.heap.size (.slice a' n' c') (es.take k)) ∧ Below w.heap.size w wr) (fun _ i _ => es.length - (intOf i).toNat)
  case atStart => exact ⟨0, 0, 0, none, Nat.zero_le _, rfl, rfl, hide (OwnE.nil _ _), Below.refl _ _⟩
  case round =>
    obtain ⟨k, n', c', a', hk, rfl, rfl, HO, hbw⟩ := hrel
    by_cases hlt : k < es.length
    · obtain ⟨e, he⟩ : ∃ e, es[k]? = some e := ⟨es[k], List.getElem?_eq_getElem hlt⟩
      obtain ⟨b, off, rfl, hlb, hrow⟩ := HR.out (by intro h; subst h; simp at hlt)
      obtain ⟨c0, c1, c2, c3⟩ := (hrow k e he).below hbw hlb
      have hnm := HN.out e (List.mem_of_getElem? he)
      have HLT := hide (fun g hg => (HO.out.lt (g := g) hg).2)
      have hws := hbw.size
      obtain ⟨wq, hwq⟩ : ∃ wq, wr.alloc (.cells (evarr e) 74) = wq := ⟨_, rfl⟩
      have hrq : Below wr.heap.size wr wq := by rw [← hwq]; exact (Below.refl _ _).alloc (Nat.le_refl _) _
      have hbq := hbw.trans (hrq.mono hbw.size)
      have HBX := hide (show wq.heap[wr.heap.size]? = some (.cells (evarr e) 74 (0, 0)) by rw [← hwq]; exact heap_alloc_new wr _)
      have HOQ := hide (HO.out.down hrq)
      have n3 : (wr.alloc (.cells (evarr e) 74)).cell? ⟨wr.heap.size, 3, none⟩ = some (.string e.name) := (four_new wr _ _ _ _ _).2.2.2
      have HWQ := hide hwq
      have HE := hide he
      clear hrow he hwq hrq HO hbw
      go_wp2_with fail
      rw [HWQ.out]
      refine (clone_n e.name wq (by omega)).mono ?_
      rintro e' w2 ⟨rfl, hb2⟩
      have hbx := blk_below HBX.out hb2
      have d3 : w2.cell? ⟨wr.heap.size, 3, none⟩ = some (.string e.name) := by simp [World.cell?, hbx]
      have f3 : w2.frozen? ⟨wr.heap.size, 3, none⟩ = false := by simp [World.frozen?, hbx]
      obtain ⟨w3, hw3⟩ : ∃ w3, w2.setCell ⟨wr.heap.size, 3, none⟩ (.string e.name) = w3 := ⟨_, rfl⟩
      have hs3 := heap_setCell_same w2 wr.heap.size 3 (evarr e) 74 (.string e.name) hbx
      rw [hw3] at hs3
      have g0 : w3.cell? ⟨wr.heap.size, 0, none⟩ = some (.int .i64 e.id) := by simp [World.cell?, hs3]
      have g1 : w3.cell? ⟨wr.heap.size, 1, none⟩ = some (.int .i64 e.ver) := by simp [World.cell?, hs3]
      have g2 : w3.cell? ⟨wr.heap.size, 2, none⟩ = some (.int .i64 e.kind) := by simp [World.cell?, hs3]
      have g3 : w3.cell? ⟨wr.heap.size, 3, none⟩ = some (.string e.name) := by simp [World.cell?, hs3]
      have hb3 : Below w.heap.size w w3 := by rw [← hw3]; exact (hbq.trans (hb2.mono hbq.size)).setCell (p := ⟨wr.heap.size, 3, none⟩) hws _
      have hO3 : OwnE w3 w.heap.size (.slice a' n' c') (es.take k) := by
        rw [← hw3]
        exact (HOQ.out.down hb2).other (gbT_set (gbT_refl w2 (some wr.heap.size))) (fun g hg e' => by simp only [Option.some.injEq] at e'; subst e'; exact absurd (HLT.out _ hg) (Nat.lt_irrefl _))
      have hal := (Below.refl w3.heap.size w3).alloc (Nat.le_refl _) (.cells (evarr e) 74)
      have HO3 := hide (hO3.down hal)
      have hb4 := hb3.trans (hal.mono hb3.size)
      have hb4s := hb4.size
      have HW3 := hide hw3
      have HSRC := hide (four_src w3 e)
      have HTK := hide (take_snocB HE.out)
      clear hbx hs3 hw3 hO3 hb3 hal hb2 hbq HLT HOQ HBX HWQ c0 c1 c2 c3 n3
      go_upto_region 6 with fail
      rw [HW3.out]
      clear d3 f3 HW3
      go_wp2_with (at_builtin; refine wpList_appE _ rfl _ _ rfl w.heap.size (es.take k) [e] _ rfl HO3.out _ _ _ rfl HSRC.out (by rw [List.length_take]; simp; omega) hb4s ?_)
      intro a5 n5 c5 w5 hO5 hg5 _
      have hb5 : Below w.heap.size w w5 := hb4.grown hg5 hb4s (fun j hj => (HO3.out.lt hj).1)
      have HO5 := hide (show OwnE w5 w.heap.size (.slice a5 n5 c5) (es.take (k + 1)) by rw [HTK.out]; exact hO5)
      clear hO5 hg5 hb4 hb4s HO3 HSRC g0 g1 g2 g3
      go_wp2
      exact ⟨⟨k + 1, n5, c5, a5, by omega, by go_num, rfl, HO5, hb5⟩, by simp [intOf]; omega⟩
    · obtain rfl : k = es.length := by omega
      have HO2 := hide (show OwnE wr w.heap.size (.slice a' n' c') es by have := HO.out; rwa [List.take_length] at this)
      clear HO HR
      go_wp2
      go_ret
      exact ⟨⟨_, _, _, rfl, HO2.out⟩, hbw⟩
set_option maxHeartbeats 2000000 in
theorem own_evs (v : Value) (es : Evs) (w : World) (hv : SliceOf w v es) (hlen : es.length ≤ 1048576) (h0 : es ≠ []) :
    Calls Tryz.prog 103 #[v] w fun e w' => (∃ a n c, e = .returned (.slice a n c) ∧ OwnE w' w.heap.size (.slice a n c) es) ∧ Below w.heap.size w w' := by
  obtain ⟨a, cap, rfl, hr⟩ := hv
  obtain ⟨b, off, rfl, hlb, hrow⟩ := hr h0
  have hal := (Below.refl w.heap.size w).alloc (Nat.le_refl _) (.cells #[] 74)
  have HO := hide (OwnE.lit0 w)
  have HS := hide (row_src (fun i e he => (hrow i e he).below hal hlb))
  clear hr hrow
  go_enter Tryz.func103, Tryz.ntmps103
  go_wp2_with (at_builtin; refine wpList_appE _ rfl _ _ rfl w.heap.size [] es _ rfl HO.out b off cap rfl HS.out (by simp; omega) (by simp) ?_)
  intro a4 n4 c4 w4 hO4 hg4 _
  have hbw : Below w.heap.size w w4 := hal.grown hg4 (by simp) (fun j hj => (HO.out.lt hj).1)
  have HO4 := hide hO4
  clear hO4 hg4
  go_wp2
  go_ret
  exact ⟨⟨_, _, _, rfl, HO4.out⟩, hbw⟩
end Go.Proofs.YtfkeokglifpkoaaGreatDoor

/-
  The history that counts: the last one in the order of weights, and the specification's way to it.
-/
namespace Go.Proofs.YtfkeokglifpkoaaGreatDoor
open Go.RowKit M
open Go.Sort (grow)
set_option maxRecDepth 20000 in
set_option maxHeartbeats 2000000 in
/-- The places of branches in the order of weights. -/
theorem in_weight (v : Value) (bs : Brs) (w : World) (hv : BrsOf w v bs) (hn : bs.length ≤ 1048576) :
    Calls Tryz.prog 128 #[v] w fun e w' => (∃ r, e = .returned r ∧ StdOf 199 w' r bs) ∧ Below w.heap.size w w' := by
  have HV := hide hv
  obtain ⟨a, cap, rfl⟩ := hv.form
  clear hv
  go_enter Tryz.func128, Tryz.ntmps128
  go_wp2
  go_loopw [3, 8] (fun x i wr => ∃ (k : Nat) (us : List Value) (a' : Option Addr) (c' : Nat), k ≤ bs.length ∧ i = .int .i64 k ∧ x = .slice a' k c' ∧ Hid (us.length = k) ∧ Hid (wr.ownsRow w.heap.size 197 1 (.slice a' k c') k (stn 199 us)) ∧ Hid (Hds w us (bs.take k)) ∧ Below w.heap.size w wr) (fun _ i _ => bs.length - (intOf i).toNat)
  case atStart => exact ⟨0, [], none, 0, Nat.zero_le _, rfl, rfl, hide rfl, hide ⟨rfl, .inl ⟨rfl, rfl⟩⟩, hide (Hds.nil _), Below.refl _ _⟩
  case round =>
    obtain ⟨k, us, a', c', hk, rfl, rfl, HU, HO, HD, hbw⟩ := hrel
    by_cases hlt : k < bs.length
    · obtain ⟨es, he⟩ : ∃ e, bs[k]? = some e := ⟨bs[k], List.getElem?_eq_getElem hlt⟩
      obtain ⟨b, off, rfl, hlb, a2, c2, hc, hs⟩ := HV.out.at he
      have hcw := (hbw.cell (p := ⟨b, off + k, none⟩) hlb).trans hc
      have hal := (Below.refl wr.heap.size wr).alloc (Nat.le_refl _) (.cells #[.slice a2 es.length c2] 81)
      have hal2 := hal.alloc (by simp) (.cells #[.iface 199 (.agg #[.slice a2 es.length c2])] 197)
      have HO2 := hide (owns_below HO.out hal2)
      have HD2 := hide (show Hds w (us ++ [.slice a2 es.length c2]) (bs.take (k + 1)) by rw [take_snocB he]; exact HD.out.snoc hs)
      have HU2 := hide (show (us ++ [Value.slice a2 es.length c2]).length = k + 1 by rw [List.length_append, HU.out]; rfl)
      have hbw2 := hbw.trans (hal2.mono hbw.size)
      have hc1 : ((wr.alloc (.cells #[.slice a2 es.length c2] 81)).alloc (.cells #[.iface 199 (.agg #[.slice a2 es.length c2])] 197)).cell? ⟨wr.heap.size + 1, 0, none⟩ = some (.iface 199 (.agg #[.slice a2 es.length c2])) := by
        have := (one_new (wr.alloc (.cells #[.slice a2 es.length c2] 81)) (.iface 199 (.agg #[.slice a2 es.length c2])) 197)
        rw [World.size_alloc] at this; exact this
      have HC := hide hc1
      have hsz := hbw2.size
      clear hs he hal hal2 HO HD hc1 HU hc
      go_wp2_with (at_builtin; refine wpList_put1 _ rfl _ _ 158 197 .nilIface 16 Tryz.underlying158 info_std rfl (by decide) rfl w.heap.size k (stn 199 us) _ _ rfl HO2.out _ _ _ rfl HC.out rfl (by omega) hsz ?_)
      intro a3 c3 w3 hO3 hg3 _
      have hbw3 : Below w.heap.size w w3 := hbw2.grown hg3 hsz (fun j hj => (own_lt HO2.out hj).1)
      have HO3 := hide (show w3.ownsRow w.heap.size 197 1 (.slice a3 (k + 1) c3) (k + 1) (stn 199 (us ++ [.slice a2 es.length c2])) from by rw [stn_app]; exact hO3)
      clear hO3 hg3 HO2 HC hbw2 hsz
      go_wp2
      exact ⟨⟨k + 1, us ++ [.slice a2 es.length c2], a3, c3, by omega, by go_num, by go_num, HU2, HO3, HD2, hbw3⟩, by simp [intOf]; omega⟩
    · obtain rfl : k = bs.length := by omega
      have hd := HD.out.below hbw
      rw [List.take_length] at hd
      have ho := HO.out
      rw [← HU.out] at ho
      have HS := hide (show StdOf 199 wr (.slice a' bs.length c') bs by rw [← HU.out]; exact std_of ho hd)
      clear hd ho HV HO HD HU
      go_wp2
      go_ret
      exact ⟨⟨_, rfl, HS.out⟩, hbw⟩
set_option maxRecDepth 20000 in
set_option maxHeartbeats 4000000 in
theorem last_among (v : Value) (bs : Brs) (w : World) (hv : StdOf 199 w v bs) (hf : FineS bs) (hp : 0 < bs.length) (hg : GdT bs) :
    Calls Tryz.prog 127 #[v] w fun e w' => e = .returned (.int .i64 ((cur bs bs.length : Nat) : Int)) ∧ Below w.heap.size w w' := by
  have HV := hide hv
  have HF := hide hf
  have HG := hide hg
  have hn := hf.1
  obtain ⟨a, cap, rfl⟩ := hv.form
  have hcm := fun u W => cm_wt u W
  clear hv hf hg
  go_enter Tryz.func127, Tryz.ntmps127
  go_wp2
  go_loopw [3, 8] (fun x i wr => ∃ k q : Nat, k ≤ bs.length ∧ i = .int .i64 k ∧ x = .int .i64 q ∧ Hid (q = cur bs k) ∧ Below w.heap.size w wr) (fun _ i _ => bs.length - (intOf i).toNat)
  case atStart => exact ⟨0, 0, Nat.zero_le _, rfl, rfl, hide rfl, Below.refl _ _⟩
  case round =>
    obtain ⟨k, q, hk, rfl, rfl, HQ, hbw⟩ := hrel
    by_cases hlt : k < bs.length
    · obtain ⟨es, he⟩ : ∃ e, bs[k]? = some e := ⟨bs[k], List.getElem?_eq_getElem hlt⟩
      obtain ⟨o, ho⟩ := cur_at hk hp
      rw [← HQ.out] at ho
      obtain ⟨g, off, rfl, hlg, a2, c2, hc, hs⟩ := HV.out.at he
      obtain ⟨g', off', hgg, -, a3, c3, hc3, hs3⟩ := HV.out.at ho
      simp only [Option.some.injEq, Addr.mk.injEq, and_true] at hgg
      obtain ⟨rfl, rfl⟩ := hgg
      have d1 := (hbw.cell (p := ⟨g, off + k, none⟩) hlg).trans hc
      have d2 := (hbw.cell (p := ⟨g, off + q, none⟩) hlg).trans hc3
      have hql := (List.getElem?_eq_some_iff.1 ho).1
      have hi0 : (0 : Int) ≤ (q : Int) := by omega
      have hi1 : (q : Int) < (bs.length : Int) := by omega
      have hi2 : (0 : Int) ≤ (k : Int) := by omega
      have hi3 : (k : Int) < (bs.length : Int) := by omega
      have HST := hide (cur_step HG.out.2.2 he (by rw [← HQ.out]; exact ho) (by
        cases k with
        | zero => exact .inr rfl
        | succ k => have := cur_lt bs k; exact .inl (by omega)))
      have HE := hide (ahead_wt (.slice a3 o.length c3) (.slice a2 es.length c2) o es wr (hs3.below hbw) (hs.below hbw) (HF.out.at ho).1 (HF.out.at he).1 (HG.out.2.1 o (List.mem_of_getElem? ho)).pos (HG.out.2.1 es (List.mem_of_getElem? he)).pos)
      clear hc hs hc3 hs3 he ho
      cases hz : wgt o es
      · have HN := hide (show q = cur bs (k + 1) by rw [HST.out, hz, HQ.out]; simp)
        rw [hz] at HE
        clear hz HST
        go_wp2_with (go_at_call 241; refine HE.out.mono ?_; rintro e w2 ⟨rfl, hb2⟩; have hbw2 := hbw.trans (hb2.mono hbw.size))
        exact ⟨⟨k + 1, q, by omega, by go_num, rfl, HN, hbw2⟩, by simp [intOf]; omega⟩
      · have HN := hide (show k = cur bs (k + 1) by rw [HST.out, hz]; simp)
        rw [hz] at HE
        clear hz HST
        go_wp2_with (go_at_call 241; refine HE.out.mono ?_; rintro e w2 ⟨rfl, hb2⟩; have hbw2 := hbw.trans (hb2.mono hbw.size))
        exact ⟨⟨k + 1, k, by omega, by go_num, rfl, HN, hbw2⟩, by simp [intOf]; omega⟩
    · obtain rfl : k = bs.length := by omega
      have HQ2 := hide HQ.out
      clear HV HQ
      go_wp2
      go_ret
      exact ⟨ret_int (by rw [HQ2.out]), hbw⟩
set_option maxHeartbeats 2000000 in
theorem current_among (v : Value) (bs : Brs) (w : World) (hv : BrsOf w v bs) (hf : FineS bs) (hp : 0 < bs.length) (hg : GdT bs) :
    Calls Tryz.prog 77 #[.agg #[v]] w fun e w' => (∃ a c, e = .returned (.slice a (curB bs).length c) ∧ SliceOf w (.slice a (curB bs).length c) (curB bs) ∧ ∀ g off n cp, v = .slice (some ⟨g, off, none⟩) n cp → w.cell? ⟨g, off + cur bs bs.length, none⟩ = some (.slice a (curB bs).length c)) ∧ Below w.heap.size w w' := by
  have hal := (Below.refl w.heap.size w).alloc (Nat.le_refl _) (.cells #[v] 32)
  have HV := hide (hv.below hal)
  have HN := hide (show M.One (w.alloc (.cells #[v] 32)) w.heap.size v 32 from heap_alloc_new w _)
  have HF := hide hf
  have HG := hide hg
  obtain ⟨q, hq⟩ : ∃ q, cur bs bs.length = q := ⟨_, rfl⟩
  have hcb := cur_b hp
  rw [hq] at hcb
  obtain ⟨a, cap, rfl⟩ := hv.form
  obtain ⟨g, off, rfl, hlg, a2, c2, hc, hs⟩ := hv.at hcb
  have hql := (List.getElem?_eq_some_iff.1 hcb).1
  have hi0 : (0 : Int) ≤ (q : Int) := by omega
  have hi1 : (q : Int) < (bs.length : Int) := by omega
  have hne : ((bs.length : Int) == 0) = false := by simp; intro h; subst h; simp at hp
  have hne2 : (bs.length == 0) = false := by simp; intro h; subst h; simp at hp
  obtain ⟨W, hW⟩ : ∃ W, w.alloc (.cells #[.slice (some ⟨g, off, none⟩) bs.length cap] 32) = W := ⟨_, rfl⟩
  rw [hW] at HV HN hal
  have d0 := HN.out.cell
  have HMC := hide (show ∀ wy : World, Below W.drew.heap.size W.drew wy → wy.cell? ⟨w.heap.size, 0, none⟩ = some (.slice (some ⟨g, off, none⟩) bs.length cap) ∧ wy.cell? ⟨g, off + q, none⟩ = some (.slice a2 (curB bs).length c2) from fun wy hb => by
    have h1 : M.One W.drew w.heap.size (.slice (some ⟨g, off, none⟩) bs.length cap) 32 := HN.out
    have h2 : W.drew.cell? ⟨g, off + q, none⟩ = some (.slice a2 (curB bs).length c2) := (hal.cell (p := ⟨g, off + q, none⟩) hlg).trans hc
    exact ⟨(h1.down hb).cell, (hb.cell (p := ⟨g, off + q, none⟩) (Nat.lt_of_lt_of_le hlg hal.size)).trans h2⟩)
  have HW := hide hW
  have HQ := hide hq
  have HS := hide hs
  have HC := hide hc
  have HCC := hide (show ∀ g' off' n cp, (Value.slice (some ⟨g, off, none⟩) bs.length cap) = .slice (some ⟨g', off', none⟩) n cp → w.cell? ⟨g', off' + cur bs bs.length, none⟩ = some (.slice a2 (curB bs).length c2) from fun g' off' n cp e => by
    simp only [Value.slice.injEq, Option.some.injEq, Addr.mk.injEq, and_true] at e
    obtain ⟨⟨rfl, rfl⟩, -, -⟩ := e
    rw [hq]; exact hc)
  clear hv hf hg hq hcb hs hc hW
  go_enter Tryz.func77, Tryz.ntmps77
  go_upto_region 3 with fail
  rw [HW.out]
  go_region_with (first
    | (go_at_call 128; refine (in_weight _ bs _ (HV.out.below (Below.refl _ _).drew) HF.out.1).mono ?_; rintro e w2 ⟨⟨r, rfl, hr⟩, hb2⟩; have HR := hide hr; obtain ⟨a5, c5, rfl⟩ := hr.form; clear hr; obtain ⟨m0, m1⟩ := HMC.out w2 hb2)
    | (go_at_call 127; refine (last_among _ bs _ HR.out HF.out hp HG.out).mono ?_; rw [HQ.out]; rintro e w3 ⟨rfl, hb3⟩; obtain ⟨n0, n1⟩ := HMC.out w3 (hb2.trans (hb3.mono hb2.size))))
  all_goals
    have hbw := hal.trans (((Below.refl W.heap.size W).drew.trans (hb2.trans (hb3.mono hb2.size))).mono hal.size)
    clear hb2 hb3 HR hal
    go_wp2
    go_ret
    exact ⟨⟨_, _, rfl, HS.out, HCC.out⟩, hbw⟩
theorem current_none (a : Option Addr) (c : Nat) (w : World) :
    Calls Tryz.prog 77 #[.agg #[.slice a 0 c]] w fun e w' => e = .returned (.slice none 0 0) ∧ Below w.heap.size w w' := by
  have hal := (Below.refl w.heap.size w).alloc (Nat.le_refl _) (.cells #[.slice a 0 c] 32)
  have d0 := (show M.One (w.alloc (.cells #[.slice a 0 c] 32)) w.heap.size (.slice a 0 c) 32 from heap_alloc_new w _).cell
  go_enter Tryz.func77, Tryz.ntmps77
  go_wp2
  go_ret
  exact ⟨rfl, hal⟩
/-- The history that counts, of good tellings. -/
theorem impl_current (v : Value) (bs : Brs) (w : World) (hv : BrsOf w v bs) (hf : FineS bs) (hg : GdT bs) :
    Calls Tryz.prog 77 #[.agg #[v]] w fun e w' => (∃ a c, e = .returned (.slice a (cB bs).length c) ∧ SliceOf w' (.slice a (cB bs).length c) (cB bs)) ∧ Below w.heap.size w w' := by
  by_cases h0 : bs = []
  · subst h0
    obtain ⟨a1, c1, rfl⟩ := hv.form
    refine (current_none a1 c1 w).mono ?_
    rintro e w' ⟨rfl, hb⟩
    exact ⟨⟨none, 0, rfl, ⟨none, 0, rfl, fun h => absurd rfl h⟩⟩, hb⟩
  · have hp : 0 < bs.length := List.length_pos_iff.2 h0
    have hcb : cB bs = curB bs := if_neg h0
    rw [hcb]
    refine (current_among _ bs w hv hf hp hg).mono ?_
    rintro e w' ⟨⟨a, c, rfl, hs, -⟩, hb⟩
    exact ⟨⟨a, c, rfl, hs.below hb⟩, hb⟩
set_option maxHeartbeats 2000000 in
theorem impl_cur (v : Value) (bs : Brs) (b : Bool) (l : Evs) (w : World) (hv : BrsOf w v bs) (hf : FineS bs) (hkk : KK w) (hb : BP b (GdT bs ∧ bs ≠ [])) (hl : (b = true → l = curB bs) ∧ (b = false → l = [])) :
    Calls Tryz.prog 42 #[.agg #[v]] w fun e w' => (∃ a n c, e = .returned (.tuple #[.slice a n c, .bool b]) ∧ OwnE w' w.heap.size (.slice a n c) l) ∧ Below w.heap.size w w' := by
  have hal := (Below.refl w.heap.size w).alloc (Nat.le_refl _) (.cells #[v] 32)
  have HV := hide (hv.below hal)
  have HC := hide (show M.One (w.alloc (.cells #[v] 32)) w.heap.size v 32 from heap_alloc_new w _)
  have HF := hide hf
  have HB := hide hb
  have HL := hide hl
  have HK := hide (hkk.below hal)
  obtain ⟨a1, c1, rfl⟩ := hv.form
  have d0 := HC.out.cell
  obtain ⟨gb, hgb⟩ := bp_ex (GdT bs)
  have HGB := hide hgb
  clear hv hf hkk hb hl hgb
  cases gb
  · have HN := hide (show b = false from HB.out.no (fun h => by have := HGB.out.yes h.1; cases this))
    have HN2 := hide (HL.out.2 HN.out)
    go_enter Tryz.func42, Tryz.ntmps42
    go_wp2_with fail
    refine (impl_gt _ bs false _ HV.out HF.out HK.out HGB.out).mono ?_
    rintro e w2 ⟨rfl, hb2⟩
    have hbw := hal.trans (hb2.mono hal.size)
    go_wp2
    go_ret2
    exact ⟨⟨_, _, _, by rw [HN.out]; rfl, by rw [HN2.out]; exact OwnE.nil _ _⟩, hbw⟩
  · have HG := hide (HGB.out.1 rfl)
    by_cases h0 : bs.length = 0
    · have HN := hide (show b = false from HB.out.no (fun h => h.2 (List.eq_nil_of_length_eq_zero h0)))
      have HN2 := hide (HL.out.2 HN.out)
      have he : ((bs.length : Int) == 0) = true := by simp [h0]
      have he2 : (bs.length == 0) = true := by simp [h0]
      clear h0
      go_enter Tryz.func42, Tryz.ntmps42
      go_wp2_with fail
      refine (impl_gt _ bs true _ HV.out HF.out HK.out HGB.out).mono ?_
      rintro e w2 ⟨rfl, hb2⟩
      have hbw := hal.trans (hb2.mono hal.size)
      clear d0
      have d0 := (HC.out.down hb2).cell
      go_wp2
      go_ret2
      exact ⟨⟨_, _, _, by rw [HN.out]; rfl, by rw [HN2.out]; exact OwnE.nil _ _⟩, hbw⟩
    · have hp : 0 < bs.length := by omega
      have HN := hide (show b = true from HB.out.yes ⟨HG.out, fun h => by subst h; simp at h0⟩)
      have HN2 := hide (HL.out.1 HN.out)
      have he : ((bs.length : Int) == 0) = false := by simp; intro h; subst h; simp at h0
      have he2 : (bs.length == 0) = false := by simp; intro h; subst h; simp at h0
      have HT := hide (HG.out.2.1 (curB bs) (List.mem_of_getElem? (cur_b hp)))
      clear h0
      go_enter Tryz.func42, Tryz.ntmps42
      go_wp2_with fail
      refine (impl_gt _ bs true _ HV.out HF.out HK.out HGB.out).mono ?_
      rintro e w2 ⟨rfl, hb2⟩
      have hbw := hal.trans (hb2.mono hal.size)
      clear d0
      have d0 := (HC.out.down hb2).cell
      go_wp2_with fail
      refine (current_among _ bs _ (HV.out.below hb2) HF.out hp HG.out).mono ?_
      rintro e w3 ⟨⟨a6, c6, rfl, hs, -⟩, hb3⟩
      have HS := hide (hs.below hb3)
      have hbw3 := hbw.trans (hb3.mono hbw.size)
      clear hs hb3 hb2 hbw d0
      go_wp2_with fail
      refine (copy_evs _ (curB bs) _ HS.out (by have := HT.out.short; omega) HT.out.names).mono ?_
      rintro e w4 ⟨⟨a7, n7, c7, rfl, hO⟩, hb4⟩
      have HO := hide (hO.mono hbw3.size)
      have hbz := hbw3.trans (hb4.mono hbw3.size)
      clear hO hb4 hbw3
      go_wp2
      go_ret2
      exact ⟨⟨_, _, _, by rw [HN.out]; rfl, by rw [HN2.out]; exact HO.out⟩, hbz⟩
end Go.Proofs.YtfkeokglifpkoaaGreatDoor

/-
  The next version: plain mathematics.
-/
namespace Go.Proofs.YtfkeokglifpkoaaGreatDoor
open Go.RowKit M
namespace M
def nx (v r : Int) : Int := if v - v % 10 + r ≤ v then v - v % 10 + r + 10 else v - v % 10 + r
theorem nx_gt {v r : Int} (hr : 0 ≤ r) (hr2 : r ≤ 9) : v < nx v r ∧ nx v r ≤ v + 10 := by
  unfold nx; split <;> omega
end M
end Go.Proofs.YtfkeokglifpkoaaGreatDoor

/-
  Versions: RegionOf, NextVersion and IsGraceful in both texts, and their laws.
-/
namespace Go.Proofs.YtfkeokglifpkoaaGreatDoor
open Go.RowKit M
namespace M
def rgv (v : Int) : Int := if inB v 0 1000000 = true then v % 10 else 0
def nxb (v r : Int) : Bool := inB v 0 1000000 && (inB r 0 9 && inB (nx v r) 0 1000000)
def nxa (v r : Int) : Int := if nxb v r = true then nx v r else 0
def grb (f t : Int) : Bool := inB f 0 1000000 && inB t 0 1000000
def gra (f t : Int) : Bool := grb f t && (t == nx f (t % 10) && (t % 10 != f % 10))
theorem inB_iff {n lo hi : Int} : inB n lo hi = true ↔ lo ≤ n ∧ n ≤ hi := by unfold inB; simp
theorem inB_no {n lo hi : Int} : inB n lo hi = false ↔ ¬ (lo ≤ n ∧ n ≤ hi) := by rw [← inB_iff]; simp
theorem rgv_yes {v : Int} (h : inB v 0 1000000 = true) : rgv v = v % 10 := by unfold rgv; rw [if_pos h]
theorem rgv_no {v : Int} (h : inB v 0 1000000 = false) : rgv v = 0 := by unfold rgv; rw [if_neg (by rw [h]; simp)]
theorem nxb_iff {v r : Int} : nxb v r = true ↔ (0 ≤ v ∧ v ≤ 1000000) ∧ (0 ≤ r ∧ r ≤ 9) ∧ nx v r ≤ 1000000 := by
  unfold nxb
  rw [Bool.and_eq_true, Bool.and_eq_true, inB_iff, inB_iff, inB_iff]
  constructor
  · rintro ⟨h1, h2, h3⟩; exact ⟨h1, h2, h3.2⟩
  · rintro ⟨h1, h2, h3⟩; exact ⟨h1, h2, by have := nx_gt (v := v) h2.1 h2.2; omega, h3⟩
theorem nxa_yes {v r : Int} (h : nxb v r = true) : nxa v r = nx v r := by unfold nxa; rw [if_pos h]
theorem nxa_no {v r : Int} (h : nxb v r = false) : nxa v r = 0 := by unfold nxa; rw [if_neg (by rw [h]; simp)]
end M
theorem spec_ver (n : Int) (w : World) :
    Calls Tryz.prog 94 #[.int .i64 n] w fun e w' => e = .returned (.bool (inB n 0 1000000)) ∧ w' = w := by
  go_enter Tryz.func94, Tryz.ntmps94
  go_wp2_with (go_at_call 93; refine (spec_in _ _ _ _).mono ?_; rintro e w' ⟨rfl, rfl⟩)
  go_ret
  exact ⟨rfl, rfl⟩
theorem impl_ver (n : Int) (w : World) :
    Calls Tryz.prog 112 #[.int .i64 n] w fun e w' => e = .returned (.bool (inB n 0 1000000)) ∧ w' = w := by
  go_enter Tryz.func112, Tryz.ntmps112
  go_wp2_with (go_at_call 133; refine (impl_in _ _ _ _).mono ?_; rintro e w' ⟨rfl, rfl⟩)
  go_ret
  exact ⟨rfl, rfl⟩
theorem impl_rid (n : Int) (w : World) :
    Calls Tryz.prog 86 #[.int .i64 n] w fun e w' => e = .returned (.bool (inB n 0 9)) ∧ w' = w := by
  go_enter Tryz.func86, Tryz.ntmps86
  go_wp2_with (go_at_call 133; refine (impl_in _ _ _ _).mono ?_; rintro e w' ⟨rfl, rfl⟩)
  go_ret
  exact ⟨rfl, rfl⟩
theorem impl_region (v : Int) (w : World) :
    Calls Tryz.prog 97 #[.int .i64 v] w fun e w' => e = .returned (.tuple #[.int .i64 (rgv v), .bool (inB v 0 1000000)]) ∧ w' = w := by
  cases h : inB v 0 1000000
  · rw [rgv_no h]
    go_enter Tryz.func97, Tryz.ntmps97
    go_wp2_with (go_at_call 112; refine (impl_ver _ _).mono ?_; rintro e w' ⟨rfl, rfl⟩; rw [h])
    go_ret2
    exact ⟨rfl, rfl⟩
  · rw [rgv_yes h]
    obtain ⟨h0, h1⟩ := inB_iff.1 h
    go_enter Tryz.func97, Tryz.ntmps97
    go_wp2_with (go_at_call 112; refine (impl_ver _ _).mono ?_; rintro e w' ⟨rfl, rfl⟩; rw [h])
    go_ret2
    exact ⟨rfl, rfl⟩
theorem spec_nx (v r : Int) (w : World) (h0 : 0 ≤ v) (h1 : v ≤ 1000000) (h2 : 0 ≤ r) (h3 : r ≤ 9) :
    Calls Tryz.prog 111 #[.int .i64 v, .int .i64 r] w fun e w' => e = .returned (.int .i64 (nx v r)) ∧ w' = w := by
  have ha : 0 ≤ v % 10 := by omega
  have hb : v % 10 ≤ v := by omega
  by_cases h : v - v % 10 + r ≤ v
  · have e : nx v r = v - v % 10 + r + 10 := by unfold nx; rw [if_pos h]
    rw [e]
    clear e
    go_enter Tryz.func111, Tryz.ntmps111
    go_wp2
    go_ret
    exact ⟨rfl, rfl⟩
  · have e : nx v r = v - v % 10 + r := by unfold nx; rw [if_neg h]
    rw [e]
    clear e
    go_enter Tryz.func111, Tryz.ntmps111
    go_wp2
    go_ret
    exact ⟨rfl, rfl⟩
set_option maxHeartbeats 400000 in
theorem spec_next (v r : Int) (w : World) :
    Calls Tryz.prog 63 #[.int .i64 v, .int .i64 r] w fun e w' => e = .returned (.tuple #[.int .i64 (nxa v r), .bool (nxb v r)]) ∧ w' = w := by
  cases h : inB v 0 1000000
  · have hb : nxb v r = false := by unfold nxb; rw [h]; rfl
    rw [nxa_no hb, hb]
    go_enter Tryz.func63, Tryz.ntmps63
    go_wp2_with (first | (go_at_call 94; refine (spec_ver _ _).mono ?_; rintro e w' ⟨rfl, rfl⟩; rw [h]))
    go_ret2
    exact ⟨rfl, rfl⟩
  cases h2 : inB r 0 9
  · have hb : nxb v r = false := by unfold nxb; rw [h, h2]; rfl
    rw [nxa_no hb, hb]
    go_enter Tryz.func63, Tryz.ntmps63
    go_wp2_with (first | (go_at_call 94; refine (spec_ver _ _).mono ?_; rintro e w' ⟨rfl, rfl⟩; rw [h]) | (go_at_call 93; refine (spec_in _ _ _ _).mono ?_; rintro e w' ⟨rfl, rfl⟩; rw [h2]))
    go_ret2
    exact ⟨rfl, rfl⟩
  obtain ⟨g0, g1⟩ := inB_iff.1 h
  obtain ⟨g2, g3⟩ := inB_iff.1 h2
  have HX := hide (fun w => spec_nx v r w g0 g1 g2 g3)
  obtain ⟨z, hz⟩ : ∃ z, nx v r = z := ⟨_, rfl⟩
  cases h3 : inB z 0 1000000
  · have hb : nxb v r = false := by unfold nxb; rw [h, h2, hz, h3]; rfl
    rw [nxa_no hb, hb]
    rw [hz] at HX
    clear hb hz
    go_enter Tryz.func63, Tryz.ntmps63
    go_wp2_with (first | (go_at_call 94; refine (spec_ver _ _).mono ?_; rintro e w' ⟨rfl, rfl⟩; first | rw [h] | rw [h3]) | (go_at_call 93; refine (spec_in _ _ _ _).mono ?_; rintro e w' ⟨rfl, rfl⟩; rw [h2]) | (go_at_call 111; refine (HX.out _).mono ?_; rintro e w' ⟨rfl, rfl⟩))
    go_ret2
    exact ⟨rfl, rfl⟩
  · have hb : nxb v r = true := by unfold nxb; rw [h, h2, hz, h3]; rfl
    rw [nxa_yes hb, hb, hz]
    rw [hz] at HX
    clear hb hz
    go_enter Tryz.func63, Tryz.ntmps63
    go_wp2_with (first | (go_at_call 94; refine (spec_ver _ _).mono ?_; rintro e w' ⟨rfl, rfl⟩; first | rw [h] | rw [h3]) | (go_at_call 93; refine (spec_in _ _ _ _).mono ?_; rintro e w' ⟨rfl, rfl⟩; rw [h2]) | (go_at_call 111; refine (HX.out _).mono ?_; rintro e w' ⟨rfl, rfl⟩))
    go_ret2
    exact ⟨rfl, rfl⟩
set_option maxHeartbeats 800000 in
theorem impl_next (v r : Int) (w : World) :
    Calls Tryz.prog 64 #[.int .i64 v, .int .i64 r] w fun e w' => e = .returned (.tuple #[.int .i64 (nxa v r), .bool (nxb v r)]) ∧ w' = w := by
  cases h : inB v 0 1000000
  · have hb : nxb v r = false := by unfold nxb; rw [h]; rfl
    rw [nxa_no hb, hb]
    have hr := rgv_no h
    go_enter Tryz.func64, Tryz.ntmps64
    go_wp2_with (first | (go_at_call 97; refine (impl_region _ _).mono ?_; rintro e w' ⟨rfl, rfl⟩; rw [h, hr]))
    go_ret2
    exact ⟨rfl, rfl⟩
  have hr := rgv_yes h
  cases h2 : inB r 0 9
  · have hb : nxb v r = false := by unfold nxb; rw [h, h2]; rfl
    rw [nxa_no hb, hb]
    go_enter Tryz.func64, Tryz.ntmps64
    go_wp2_with (first | (go_at_call 97; refine (impl_region _ _).mono ?_; rintro e w' ⟨rfl, rfl⟩; rw [h, hr]) | (go_at_call 86; refine (impl_rid _ _).mono ?_; rintro e w' ⟨rfl, rfl⟩; rw [h2]))
    go_ret2
    exact ⟨rfl, rfl⟩
  obtain ⟨g0, g1⟩ := inB_iff.1 h
  obtain ⟨g2, g3⟩ := inB_iff.1 h2
  have ha : 0 ≤ v % 10 := by omega
  have hbb : v % 10 ≤ v := by omega
  have ha9 : v % 10 ≤ 9 := by omega
  obtain ⟨z, hz⟩ : ∃ z, nx v r = z := ⟨_, rfl⟩
  by_cases hc : v - v % 10 + r ≤ v
  · have e : nx v r = v - v % 10 + r + 10 := by unfold nx; rw [if_pos hc]
    cases h3 : inB z 0 1000000
    · have hb : nxb v r = false := by unfold nxb; rw [h, h2, hz, h3]; rfl
      rw [nxa_no hb, hb]
      rw [hz] at e
      subst e
      clear hb hz
      go_enter Tryz.func64, Tryz.ntmps64
      go_wp2_with (first | (go_at_call 97; refine (impl_region _ _).mono ?_; rintro e w' ⟨rfl, rfl⟩; rw [h, hr]) | (go_at_call 86; refine (impl_rid _ _).mono ?_; rintro e w' ⟨rfl, rfl⟩; rw [h2]) | (go_at_call 112; refine (impl_ver _ _).mono ?_; rintro e w' ⟨rfl, rfl⟩; rw [h3]))
      go_ret2
      exact ⟨rfl, rfl⟩
    · have hb : nxb v r = true := by unfold nxb; rw [h, h2, hz, h3]; rfl
      rw [nxa_yes hb, hb, hz]
      rw [hz] at e
      subst e
      clear hb hz
      go_enter Tryz.func64, Tryz.ntmps64
      go_wp2_with (first | (go_at_call 97; refine (impl_region _ _).mono ?_; rintro e w' ⟨rfl, rfl⟩; rw [h, hr]) | (go_at_call 86; refine (impl_rid _ _).mono ?_; rintro e w' ⟨rfl, rfl⟩; rw [h2]) | (go_at_call 112; refine (impl_ver _ _).mono ?_; rintro e w' ⟨rfl, rfl⟩; rw [h3]))
      go_ret2
      exact ⟨rfl, rfl⟩
  · have e : nx v r = v - v % 10 + r := by unfold nx; rw [if_neg hc]
    cases h3 : inB z 0 1000000
    · have hb : nxb v r = false := by unfold nxb; rw [h, h2, hz, h3]; rfl
      rw [nxa_no hb, hb]
      rw [hz] at e
      subst e
      clear hb hz
      go_enter Tryz.func64, Tryz.ntmps64
      go_wp2_with (first | (go_at_call 97; refine (impl_region _ _).mono ?_; rintro e w' ⟨rfl, rfl⟩; rw [h, hr]) | (go_at_call 86; refine (impl_rid _ _).mono ?_; rintro e w' ⟨rfl, rfl⟩; rw [h2]) | (go_at_call 112; refine (impl_ver _ _).mono ?_; rintro e w' ⟨rfl, rfl⟩; rw [h3]))
      go_ret2
      exact ⟨rfl, rfl⟩
    · have hb : nxb v r = true := by unfold nxb; rw [h, h2, hz, h3]; rfl
      rw [nxa_yes hb, hb, hz]
      rw [hz] at e
      subst e
      clear hb hz
      go_enter Tryz.func64, Tryz.ntmps64
      go_wp2_with (first | (go_at_call 97; refine (impl_region _ _).mono ?_; rintro e w' ⟨rfl, rfl⟩; rw [h, hr]) | (go_at_call 86; refine (impl_rid _ _).mono ?_; rintro e w' ⟨rfl, rfl⟩; rw [h2]) | (go_at_call 112; refine (impl_ver _ _).mono ?_; rintro e w' ⟨rfl, rfl⟩; rw [h3]))
      go_ret2
      exact ⟨rfl, rfl⟩
namespace M
theorem gra_iff {f t : Int} (h : grb f t = true) : gra f t = true ↔ t = nx f (t % 10) ∧ t % 10 ≠ f % 10 := by
  unfold gra; rw [h]; simp
end M
end Go.Proofs.YtfkeokglifpkoaaGreatDoor

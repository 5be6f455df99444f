/-
  Events copied into memory of a call's own: the program's way, one by one with their names, and the specification's, in one append.
-/
import Derived.Test.YtcbkeabfnldmhaaGreatDoorJoin29
import Derived.Lib.AppendZeros
namespace Go.Proofs.YtcbkeabfnldmhaaGreatDoor
open Go.RowKit M
open Go.Sort (grow)
namespace M
theorem mod4 (j : Nat) : j % 4 = 0 ∨ j % 4 = 1 ∨ j % 4 = 2 ∨ j % 4 = 3 := by omega
/-- The cells of a row of events, read one by one. -/
theorem row_src {w : World} {b off : Nat} {es : Evs} (h : Row w b off es) : ∀ j u, (cellsE es)[j]? = some u → w.cell? ((⟨b, off, none⟩ : Addr).add j) = some u := by
  intro j u hj
  have ha : (⟨b, off, none⟩ : Addr).add j = ⟨b, off + j, none⟩ := by unfold Addr.add; split <;> simp_all
  rw [ha]
  have hl : j < es.length * 4 := by
    have := (List.getElem?_eq_some_iff.1 hj).1
    rw [cellsE_len] at this; exact this
  obtain ⟨e, he⟩ : ∃ e, es[j / 4]? = some e := ⟨es[j / 4]'(by omega), List.getElem?_eq_getElem _⟩
  obtain ⟨c0, c1, c2, c3⟩ := h (j / 4) e he
  obtain ⟨d0, d1, d2, d3⟩ := cellsE_at es (j / 4) e he
  rcases mod4 j with m | m | m | m
  · have e0 : j = j / 4 * 4 := by omega
    rw [e0, d0] at hj
    simp only [Option.some.injEq] at hj
    rw [← hj, e0]
    have : j / 4 * 4 / 4 = j / 4 := by omega
    exact c0
  · have e0 : j = j / 4 * 4 + 1 := by omega
    rw [e0, d1] at hj
    simp only [Option.some.injEq] at hj
    rw [← hj, e0]
    exact c1
  · have e0 : j = j / 4 * 4 + 2 := by omega
    rw [e0, d2] at hj
    simp only [Option.some.injEq] at hj
    rw [← hj, e0]
    exact c2
  · have e0 : j = j / 4 * 4 + 3 := by omega
    rw [e0, d3] at hj
    simp only [Option.some.injEq] at hj
    rw [← hj, e0]
    exact c3
theorem cellsE_one (es : Evs) : ∀ v ∈ cellsE es, v.oneCell' = true := by
  intro v hv
  obtain ⟨j, hj, he⟩ := List.mem_iff_getElem.1 hv
  rw [cellsE_len] at hj
  obtain ⟨e, hx⟩ : ∃ e, es[j / 4]? = some e := ⟨es[j / 4]'(by omega), List.getElem?_eq_getElem _⟩
  obtain ⟨d0, d1, d2, d3⟩ := cellsE_at es (j / 4) e hx
  have hg : (cellsE es)[j]? = some v := by rw [← he]; exact List.getElem?_eq_getElem _
  rcases mod4 j with m | m | m | m
  · rw [show j = j / 4 * 4 by omega, d0] at hg; simp only [Option.some.injEq] at hg; rw [← hg]; rfl
  · rw [show j = j / 4 * 4 + 1 by omega, d1] at hg; simp only [Option.some.injEq] at hg; rw [← hg]; rfl
  · rw [show j = j / 4 * 4 + 2 by omega, d2] at hg; simp only [Option.some.injEq] at hg; rw [← hg]; rfl
  · rw [show j = j / 4 * 4 + 3 by omega, d3] at hg; simp only [Option.some.injEq] at hg; rw [← hg]; rfl
theorem OwnE.form {w : World} {B : Nat} {v : Value} {es : Evs} (h : OwnE w B v es) : ∃ a c, v = .slice a es.length c := h.slice.form
theorem OwnE.lit0 (w : World) : OwnE (w.alloc (.cells #[] 68)) w.heap.size (.slice (some ⟨w.heap.size, 0, none⟩) 0 0) [] :=
  OwnE.of (rest := []) (Nat.le_refl _) rfl (Nat.le_refl _) (Nat.zero_le _) (by simp [cellsE]) (by have := heap_alloc_new w (.cells #[] 68); simpa [cellsE] using this)
/-- Events put behind events of a call's own. -/
theorem wpList_appE (w : World) {ops : Array Oper} {rest : List Oper} {o : Oper} {a : Act} {Q : Exit → Act → World → Prop} (hgd : o.guard = none) (s x : Operand)
    (ho : o.op = .call { callee := .builtin .append, args := #[s, x], argTypes := #[34, 34] }) (B : Nat) (l0 l : Evs) (v : Value) (hs : a.eval s = v) (hown : OwnE w B v l0)
    (b off cu : Nat) (hx : a.eval x = .slice (some ⟨b, off, none⟩) l.length cu) (hu : ∀ j u, (cellsE l)[j]? = some u → w.cell? ((⟨b, off, none⟩ : Addr).add j) = some u) (hl : l0.length + l.length ≤ 2097152) (hbase : B ≤ w.heap.size)
    (h : ∀ a' n' c' w', OwnE w' B (.slice a' n' c') (l0 ++ l) → w.grownBy w' v.ownBlock → ((Value.slice a' n' c').ownBlock = v.ownBlock ∨ (Value.slice a' n' c').ownBlock = some w.heap.size) → wpList Tryz.prog ops Q rest (a.put o.dst (.slice a' n' c')) w') : wpList Tryz.prog ops Q (o :: rest) a w := by
  obtain ⟨i0, hi, hz0, hz1, hz2⟩ := info_parts info_ev
  obtain ⟨v', w', hr, hown', hgr, -, hblk⟩ := run_append_own_at (P := Tryz.prog) (w := w) B 34 o.type 68 i0 _ 4 40 Tryz.underlying34 hi hz0 hz1 hz2 rfl (by decide) v _ _ hown ⟨b, off, none⟩ l.length cu (cellsE l) (cellsE_len l) hu (cellsE_one l) (by unfold maxLen; omega) (by omega) hbase
  have hO : OwnE w' B v' (l0 ++ l) := by
    unfold OwnE
    rw [List.length_append, cellsE_append]; exact hown'
  obtain ⟨a', c', rfl⟩ := hO.form
  exact Lib.wpList_append_run (P := Tryz.prog) w hgd s x 34 34 ho _ _ hs hx _ _ hr (h _ _ _ w' hO hgr hblk)
theorem Tl.names {es : Evs} (h : Tl es) : ∀ e ∈ es, e.name.size ≤ 12 := fun e he => by
  obtain ⟨i, hi, rfl⟩ := List.mem_iff_getElem.1 he
  have := (h.2.2.1.2.1 i _ hi (List.getElem?_eq_getElem hi)).1
  unfold Ev.gd goodB at this
  simp only [Bool.and_eq_true] at this
  exact gN_size this.2.2.2
theorem four_src (X : World) (e : Ev) : ∀ j u, (cellsE [e])[j]? = some u → (X.alloc (.cells (evarr e) 68)).cell? ((⟨X.heap.size, 0, none⟩ : Addr).add j) = some u := by
  obtain ⟨c0, c1, c2, c3⟩ := four_new X (.int .i64 e.id) (.int .i64 e.ver) (.int .i64 e.kind) (.string e.name) 68
  refine row_src (fun i x hx => ?_)
  cases i with
  | zero =>
    simp only [List.getElem?_cons_zero, Option.some.injEq] at hx
    subst hx
    exact ⟨c0, c1, c2, c3⟩
  | succ i => simp at hx
end M
theorem clone_n (s : ByteArray) (w : World) (hlim : s.size ≤ 281474976710656) :
    Calls Tryz.prog 104 #[.string s] w fun e w' => e = .returned (.string s) ∧ Below w.heap.size w w' := by
  go_enter Tryz.func104, Tryz.ntmps104
  go_wp2_with (go_at_call 126; refine (Tryz.stringslite_Clone _ _ hlim).mono ?_; rintro e w1 ⟨rfl, hb1⟩)
  go_ret
  exact ⟨rfl, hb1⟩
set_option maxRecDepth 20000 in
set_option maxHeartbeats 4000000 in
theorem copy_evs (v : Value) (es : Evs) (w : World) (hv : SliceOf w v es) (hlen : es.length ≤ 1048576) (hnm : ∀ e ∈ es, e.name.size ≤ 12) :
    Calls Tryz.prog 73 #[v] w fun e w' => (∃ a n c, e = .returned (.slice a n c) ∧ OwnE w' w.heap.size (.slice a n c) es) ∧ Below w.heap.size w w' := by
  have HN := hide hnm
  obtain ⟨a, cap, rfl, hr⟩ := hv
  have HR := hide hr
  clear hr hnm
  go_enter Tryz.func73, Tryz.ntmps73
  go_wp2
  go_loopw [3, 8] (fun x i wr => ∃ (k n' c' : Nat) (a' : Option Addr), k ≤ es.length ∧ i = .int .i64 k ∧ x = .slice a' n' c' ∧ Hid (OwnE wr w.heap.size (.slice a' n' c') (es.take k)) ∧ Below w.heap.size w wr) (fun _ i _ => es.length - (intOf i).toNat)
  case atStart => exact ⟨0, 0, 0, none, Nat.zero_le _, rfl, rfl, hide (OwnE.nil _ _), Below.refl _ _⟩
  case round =>
    obtain ⟨k, n', c', a', hk, rfl, rfl, HO, hbw⟩ := hrel
    by_cases hlt : k < es.length
    · obtain ⟨e, he⟩ : ∃ e, es[k]? = some e := ⟨es[k], List.getElem?_eq_getElem hlt⟩
      obtain ⟨b, off, rfl, hlb, hrow⟩ := HR.out (by intro h; subst h; simp at hlt)
      obtain ⟨c0, c1, c2, c3⟩ := (hrow k e he).below hbw hlb
      have hnm := HN.out e (List.mem_of_getElem? he)
      have HLT := hide (fun g hg => (HO.out.lt (g := g) hg).2)
      have hws := hbw.size
      obtain ⟨wq, hwq⟩ : ∃ wq, wr.alloc (.cells (evarr e) 68) = wq := ⟨_, rfl⟩
      have hrq : Below wr.heap.size wr wq := by rw [← hwq]; exact (Below.refl _ _).alloc (Nat.le_refl _) _
      have hbq := hbw.trans (hrq.mono hbw.size)
      have HBX := hide (show wq.heap[wr.heap.size]? = some (.cells (evarr e) 68 (0, 0)) by rw [← hwq]; exact heap_alloc_new wr _)
      have HOQ := hide (HO.out.down hrq)
      have n3 : (wr.alloc (.cells (evarr e) 68)).cell? ⟨wr.heap.size, 3, none⟩ = some (.string e.name) := (four_new wr _ _ _ _ _).2.2.2
      have HWQ := hide hwq
      have HE := hide he
      clear hrow he hwq hrq HO hbw
      go_wp2_with fail
      rw [HWQ.out]
      refine (clone_n e.name wq (by omega)).mono ?_
      rintro e' w2 ⟨rfl, hb2⟩
      have hbx := blk_below HBX.out hb2
      have d3 : w2.cell? ⟨wr.heap.size, 3, none⟩ = some (.string e.name) := by simp [World.cell?, hbx]
      have f3 : w2.frozen? ⟨wr.heap.size, 3, none⟩ = false := by simp [World.frozen?, hbx]
      obtain ⟨w3, hw3⟩ : ∃ w3, w2.setCell ⟨wr.heap.size, 3, none⟩ (.string e.name) = w3 := ⟨_, rfl⟩
      have hs3 := heap_setCell_same w2 wr.heap.size 3 (evarr e) 68 (.string e.name) hbx
      rw [hw3] at hs3
      have g0 : w3.cell? ⟨wr.heap.size, 0, none⟩ = some (.int .i64 e.id) := by simp [World.cell?, hs3]
      have g1 : w3.cell? ⟨wr.heap.size, 1, none⟩ = some (.int .i64 e.ver) := by simp [World.cell?, hs3]
      have g2 : w3.cell? ⟨wr.heap.size, 2, none⟩ = some (.int .i64 e.kind) := by simp [World.cell?, hs3]
      have g3 : w3.cell? ⟨wr.heap.size, 3, none⟩ = some (.string e.name) := by simp [World.cell?, hs3]
      have hb3 : Below w.heap.size w w3 := by rw [← hw3]; exact (hbq.trans (hb2.mono hbq.size)).setCell (p := ⟨wr.heap.size, 3, none⟩) hws _
      have hO3 : OwnE w3 w.heap.size (.slice a' n' c') (es.take k) := by
        rw [← hw3]
        exact (HOQ.out.down hb2).other (gbT_set (gbT_refl w2 (some wr.heap.size))) (fun g hg e' => by simp only [Option.some.injEq] at e'; subst e'; exact absurd (HLT.out _ hg) (Nat.lt_irrefl _))
      have hal := (Below.refl w3.heap.size w3).alloc (Nat.le_refl _) (.cells (evarr e) 68)
      have HO3 := hide (hO3.down hal)
      have hb4 := hb3.trans (hal.mono hb3.size)
      have hb4s := hb4.size
      have HW3 := hide hw3
      have HSRC := hide (four_src w3 e)
      have HTK := hide (take_snocB HE.out)
      clear hbx hs3 hw3 hO3 hb3 hal hb2 hbq HLT HOQ HBX HWQ c0 c1 c2 c3 n3
      go_upto_region 6 with fail
      rw [HW3.out]
      clear d3 f3 HW3
      go_wp2_with (at_builtin; refine wpList_appE _ rfl _ _ rfl w.heap.size (es.take k) [e] _ rfl HO3.out _ _ _ rfl HSRC.out (by rw [List.length_take]; simp; omega) hb4s ?_)
      intro a5 n5 c5 w5 hO5 hg5 _
      have hb5 : Below w.heap.size w w5 := hb4.grown hg5 hb4s (fun j hj => (HO3.out.lt hj).1)
      have HO5 := hide (show OwnE w5 w.heap.size (.slice a5 n5 c5) (es.take (k + 1)) by rw [HTK.out]; exact hO5)
      clear hO5 hg5 hb4 hb4s HO3 HSRC g0 g1 g2 g3
      go_wp2
      exact ⟨⟨k + 1, n5, c5, a5, by omega, by go_num, rfl, HO5, hb5⟩, by simp [intOf]; omega⟩
    · obtain rfl : k = es.length := by omega
      have HO2 := hide (show OwnE wr w.heap.size (.slice a' n' c') es by have := HO.out; rwa [List.take_length] at this)
      clear HO HR
      go_wp2
      go_ret
      exact ⟨⟨_, _, _, rfl, HO2.out⟩, hbw⟩
set_option maxHeartbeats 2000000 in
theorem own_evs (v : Value) (es : Evs) (w : World) (hv : SliceOf w v es) (hlen : es.length ≤ 1048576) (h0 : es ≠ []) :
    Calls Tryz.prog 76 #[v] w fun e w' => (∃ a n c, e = .returned (.slice a n c) ∧ OwnE w' w.heap.size (.slice a n c) es) ∧ Below w.heap.size w w' := by
  obtain ⟨a, cap, rfl, hr⟩ := hv
  obtain ⟨b, off, rfl, hlb, hrow⟩ := hr h0
  have hal := (Below.refl w.heap.size w).alloc (Nat.le_refl _) (.cells #[] 68)
  have HO := hide (OwnE.lit0 w)
  have HS := hide (row_src (fun i e he => (hrow i e he).below hal hlb))
  clear hr hrow
  go_enter Tryz.func76, Tryz.ntmps76
  go_wp2_with (at_builtin; refine wpList_appE _ rfl _ _ rfl w.heap.size [] es _ rfl HO.out b off cap rfl HS.out (by simp; omega) (by simp) ?_)
  intro a4 n4 c4 w4 hO4 hg4 _
  have hbw : Below w.heap.size w w4 := hal.grown hg4 (by simp) (fun j hj => (HO.out.lt hj).1)
  have HO4 := hide hO4
  clear hO4 hg4
  go_wp2
  go_ret
  exact ⟨⟨_, _, _, rfl, HO4.out⟩, hbw⟩
end Go.Proofs.YtcbkeabfnldmhaaGreatDoor

/-
  Texts that follow one another, joined: RgG3, RgC5, OpenEvs, BrO, RgO.
-/
import Derived.Test.YtfkeokglifpkoaaGreatDoorJoin34
import Derived.Test.YtfkeokglifpkoaaGreatDoorJoin35
import Derived.Test.YtfkeokglifpkoaaGreatDoorJoin22
import Derived.Test.YtfkeokglifpkoaaGreatDoorJoin32
import Derived.Test.YtfkeokglifpkoaaGreatDoorJoin2
import Derived.Deep.Slices
import Derived.Lib.SmallJoins
import Derived.ProofKit
import Derived.Test.YtfkeokglifpkoaaGreatDoorJoin8
import Derived.Deep.SlicePairs
import Derived.OpenShut
import Derived.Test.YtfkeokglifpkoaaGreatDoorJoin9
/-
  TakeCall in the specification's text.
-/
namespace Go.Proofs.YtfkeokglifpkoaaGreatDoor
open Go.RowKit M
open Go.Sort (grow)
theorem spec_l16 (my : St → Ev → Bool) (hmy : ∀ s e, BP (my s e) (May s e)) (id ver : Int) (v : Value) (ps : Prs) (k : Int) (x : ByteArray) (B : Nat) (w : World) (ho : OwnP w B v ps) (hB : B ≤ w.heap.size) (hg : GdR ⟨id, ver, bsP ps⟩) (hx : x.size ≤ maxLen) :
    Calls Tryz.prog 56 #[rv id ver v, .int .i64 k, .string x] w fun e w' => (∃ u ps', e = .returned (.tuple #[rv id ver u, .int .i64 (tkc my ⟨id, ver, bsP ps⟩ k x)]) ∧ OwnP w' B u ps' ∧ bsP ps' = tkb my ⟨id, ver, bsP ps⟩ k x) ∧ Below w.heap.size w w' := by
  have hk0 : tkc my ⟨id, ver, bsP ps⟩ k x ≠ 0 → tkb my ⟨id, ver, bsP ps⟩ k x = bsP ps := fun h => by unfold tkb; rw [if_neg h]
  cases hc : okC k x
  · have h := tkc_bad (my := my) (r := ⟨id, ver, bsP ps⟩) hc
    rw [hk0 (by rw [h]; decide), h]
    exact spec_call_bad my hmy id ver v ps k x B w ho hB hg hx hc
  by_cases ha : ver % 10 = id
  case neg =>
    have h := tkc_passive (my := my) (r := ⟨id, ver, bsP ps⟩) hc ha
    rw [hk0 (by rw [h]; decide), h]
    exact spec_call_passive my hmy id ver v ps k x B w ho hB hg hx hc ha
  by_cases hk : k = 2
  case neg => exact spec_call_last0 my hmy id ver v ps k x B w ho hB hg hx hc ha hk
  by_cases hin : x ∈ (stB (bsP ps)).sg
  · have h := tkc_again (my := my) (r := ⟨id, ver, bsP ps⟩) hc ha ⟨hk, has_iff.2 hin⟩
    rw [hk0 (by rw [h]; decide), h]
    exact spec_call_again my hmy id ver v ps k x B w ho hB hg hx hc ha hk hin
  · exact spec_call_last1 my hmy id ver v ps k x B w ho hB hg hx hc ha hk hin
set_option maxRecDepth 20000 in
set_option maxHeartbeats 4000000 in
theorem spec_take_no (id ver : Int) (v : Value) (bs : Brs) (k : Int) (x : ByteArray) (w : World) (hv : BrsOf w v bs) (hf : FineS bs) (hco : CapOk v) (hb : BP false (GdR ⟨id, ver, bs⟩)) :
    Calls Tryz.prog 17 #[rv id ver v, .int .i64 k, .string x] w fun e w' => (∃ v ps, e = .returned (.tuple #[rv 0 0 v, .int .i64 1]) ∧ OwnP w' w.heap.size v ps ∧ bsP ps = []) ∧ Below w.heap.size w w' := by
  have HF := hide hf
  have HB := hide hb
  have HCO := hide hco
  obtain ⟨a1, c1, rfl⟩ := hv.form
  obtain ⟨W, hW⟩ : ∃ W, (w.alloc (.cells #[.int .i64 id, .int .i64 ver, .slice a1 bs.length c1] 34)).alloc (.cells #[.int .i64 0, .int .i64 0, .slice none 0 0] 34) = W := ⟨_, rfl⟩
  have HR := hide (show R2 w W id ver (.slice a1 bs.length c1) from by rw [← hW]; exact R2.new w _ _ _)
  have HV := hide (hv.below HR.out.low)
  have HW := hide hW
  obtain ⟨⟨d0, d1, d2⟩, -⟩ := HR.out.arg.tri
  rw [← hW] at d0 d1 d2
  clear hv hf hb hco hW
  have HBX := hide HB.out
  go_enter Tryz.func17, Tryz.ntmps17
  go_wp2_with fail
  rw [HW.out]
  clear HW d0 d1 d2
  refine (spec_goodR id ver _ bs false _ HV.out HF.out HCO.out HBX.out).mono ?_
  rintro e w1 ⟨rfl, hb1⟩
  have HR1 := hide (HR.out.down hb1)
  obtain ⟨WZ, hWZ⟩ : ∃ WZ, ((w1.setCell ⟨w.heap.size + 1, 0, none⟩ (.int .i64 0)).setCell ⟨w.heap.size + 1, 1, none⟩ (.int .i64 0)).setCell ⟨w.heap.size + 1, 2, none⟩ (.slice none 0 0) = WZ := ⟨_, rfl⟩
  obtain ⟨hz, hzb, -⟩ := HR1.out.fin (.int .i64 0) (.int .i64 0) (.slice none 0 0) WZ hWZ
  obtain ⟨⟨e0, e1, e2⟩, f0, f1, f2⟩ := HR1.out.res.tri
  have HWZ := hide hWZ
  have HZ := hide hz
  clear hz hWZ
  go_wp2
  rw [HWZ.out]
  clear e0 e1 e2 f0 f1 f2
  obtain ⟨⟨e0, e1, e2⟩, -⟩ := HZ.out.tri
  exact bodyPost_ret (v := .tuple #[rv 0 0 (.slice none 0 0), .int .i64 1]) (by simp [results, Tryz.results17, go_sem, e0, e1, e2]) rfl ⟨⟨_, [], rfl, OwnP.nil _ _, rfl⟩, hzb⟩
set_option maxRecDepth 20000 in
set_option maxHeartbeats 4000000 in
theorem spec_take_ok (my : St → Ev → Bool) (hmy : ∀ s e, BP (my s e) (May s e)) (id ver : Int) (v : Value) (bs : Brs) (k : Int) (x : ByteArray) (w : World) (hv : BrsOf w v bs) (hf : FineS bs) (hco : CapOk v) (hb : GdR ⟨id, ver, bs⟩) (hx : x.size ≤ maxLen) :
    Calls Tryz.prog 17 #[rv id ver v, .int .i64 k, .string x] w fun e w' => (∃ v ps, e = .returned (.tuple #[rv id ver v, .int .i64 (tkc my ⟨id, ver, bs⟩ k x)]) ∧ OwnP w' w.heap.size v ps ∧ bsP ps = tkb my ⟨id, ver, bs⟩ k x) ∧ Below w.heap.size w w' := by
  have HF := hide hf
  have HB := hide hb
  have HCO := hide hco
  obtain ⟨a1, c1, rfl⟩ := hv.form
  obtain ⟨W, hW⟩ : ∃ W, (w.alloc (.cells #[.int .i64 id, .int .i64 ver, .slice a1 bs.length c1] 34)).alloc (.cells #[.int .i64 0, .int .i64 0, .slice none 0 0] 34) = W := ⟨_, rfl⟩
  have HR := hide (show R2 w W id ver (.slice a1 bs.length c1) from by rw [← hW]; exact R2.new w _ _ _)
  have HV := hide (hv.below HR.out.low)
  have HW := hide hW
  obtain ⟨⟨d0, d1, d2⟩, -⟩ := HR.out.arg.tri
  rw [← hW] at d0 d1 d2
  clear hv hf hb hco hW
  have HBX := hide (show BP true (GdR ⟨id, ver, bs⟩) from ⟨fun _ => HB.out, fun _ => rfl⟩)
  have HMY := hide hmy
  clear hmy
  go_enter Tryz.func17, Tryz.ntmps17
  go_wp2_with fail
  rw [HW.out]
  clear HW d0 d1 d2
  refine (spec_goodR id ver _ bs true _ HV.out HF.out HCO.out HBX.out).mono ?_
  rintro e w1 ⟨rfl, hb1⟩
  have HR1 := hide (HR.out.down hb1)
  have HV1 := hide (HV.out.below hb1)
  obtain ⟨⟨d0, d1, d2⟩, -⟩ := HR1.out.arg.tri
  clear hb1 HR HV
  go_wp2_with fail
  refine (spec_own16 id ver _ bs _ HV1.out HB.out.2.2.1).mono ?_
  rintro e w4 ⟨⟨r, ps, rfl, hO, hps⟩, hb4⟩
  subst hps
  have HR4 := hide (HR1.out.down hb4)
  have HO4 := hide hO
  have HB1 := hide HR1.out.big
  have hs4 := hb4.size
  clear hO hb4 HR1 d0 d1 d2
  go_wp2_with fail
  refine (spec_l16 my HMY.out id ver r ps k x w1.heap.size _ HO4.out hs4 HB.out hx).mono ?_
  rintro e w5 ⟨⟨u, ps5, rfl, hO5, hps5⟩, hb5⟩
  obtain ⟨au, cu, rfl⟩ := hO5.form
  have HR5 := hide (HR4.out.down hb5)
  have HPS := hide hps5
  obtain ⟨WZ, hWZ⟩ : ∃ WZ, ((w5.setCell ⟨w.heap.size + 1, 0, none⟩ (.int .i64 id)).setCell ⟨w.heap.size + 1, 1, none⟩ (.int .i64 ver)).setCell ⟨w.heap.size + 1, 2, none⟩ (.slice au ps5.length cu) = WZ := ⟨_, rfl⟩
  obtain ⟨hz, hzb, hzo⟩ := HR5.out.fin (.int .i64 id) (.int .i64 ver) (.slice au ps5.length cu) WZ hWZ
  have HZO := hide (hzo _ _ _ hO5 HB1.out)
  obtain ⟨⟨e0, e1, e2⟩, f0, f1, f2⟩ := HR5.out.res.tri
  have HWZ := hide hWZ
  have HZ := hide hz
  clear hz hWZ hzo hb5 hO5 hps5 HR4 HR5
  go_wp2
  rw [HWZ.out]
  clear e0 e1 e2 f0 f1 f2
  obtain ⟨⟨e0, e1, e2⟩, -⟩ := HZ.out.tri
  exact bodyPost_ret (v := .tuple #[rv id ver (.slice au ps5.length cu), .int .i64 (tkc my ⟨id, ver, bsP ps⟩ k x)]) (by simp [results, Tryz.results17, go_sem, e0, e1, e2]) rfl ⟨⟨_, ps5, rfl, HZO.out, HPS.out⟩, hzb⟩
end Go.Proofs.YtfkeokglifpkoaaGreatDoor

/-
  The law of TakeCall: both texts tell the same. Condition: the table knownKinds reads as the program's text lays it.
-/
namespace Go.Proofs.YtfkeokglifpkoaaGreatDoor
open Go.RowKit M
set_option maxRecDepth 20000 in
theorem law_takeCall (id ver : Int) (v : Value) (bs : Brs) (kd : Int) (xn : ByteArray) (w : World) (hv : BrsOf w v bs) (hf : Fine bs) (hx : xn.size ≤ maxLen) (hkk : KK w) :
    Calls Tryz.prog 4 #[rv id ver v, .int .i64 kd, .string xn] w fun e w' => e = .returned (.bool true) ∧ Below w.heap.size w w' := by
  by_cases hsn : xn.size ≤ 1048576
  case neg =>
    have hgt : (1048576 : Int) < (xn.size : Int) := by omega
    have hyt := hx
    unfold maxLen at hyt
    obtain ⟨a, c, rfl⟩ := hv.form
    have hb0 := low1 w (.cells #[.int .i64 id, .int .i64 ver, .slice a bs.length c] 26)
    clear hv hf hkk
    go_enter Tryz.func4, Tryz.ntmps4
    go_wp2
    go_ret
    exact ⟨rfl, hb0⟩
  refine law_TakeCall_run id ver v bs kd xn w hv hf hkk hsn (fun hs => ?_)
  obtain ⟨my, hmy⟩ : ∃ my : St → Ev → Bool, ∀ s e, BP (my s e) (May s e) :=
    ⟨fun s e => Classical.choose (bp_ex (May s e)), fun s e => Classical.choose_spec (bp_ex (May s e))⟩
  obtain ⟨b, hb⟩ := bp_ex (GdR ⟨id, ver, bs⟩)
  cases b
  · exact ⟨0, 0, [], 1, by simp, fun v w h hco => spec_take_no id ver v bs kd xn w h hs hco hb, fun v w h hk => impl_call_no id ver v bs kd xn w h hs hk hb⟩
  · have hg : GdR ⟨id, ver, bs⟩ := hb.1 rfl
    have hg2 : GdR ⟨id, ver, tkb my ⟨id, ver, bs⟩ kd xn⟩ := tkb_good hmy hg
    exact ⟨id, ver, tkb my ⟨id, ver, bs⟩ kd xn, tkc my ⟨id, ver, bs⟩ kd xn, ⟨hg2.2.2.1.1, fun b hb' => ⟨(hg2.2.2.1.2.1 b hb').short, (hg2.2.2.1.2.1 b hb').names⟩⟩, fun v w h hco => spec_take_ok my hmy id ver v bs kd xn w h hs hco hg hx, fun v w h hk => impl_call_ok my hmy id ver v bs kd xn w h hs hk hg hx⟩
end Go.Proofs.YtfkeokglifpkoaaGreatDoor

/-
  A slice of the law's events that came in, read as data, is a slice of events in memory.
-/
namespace Go.Proofs.YtfkeokglifpkoaaGreatDoor
open Go.ChangeShapes Go.WideShapes Go.ChangeAt Go.RowKit Go.Joins Go.Deep
open M

theorem cellsLawEv : Tryz.prog.cellsOf 235 = 4 := by kernel_rfl
theorem cellsInt : Tryz.prog.cellsOf 3 = 1 := by kernel_rfl
theorem cellsStr : Tryz.prog.cellsOf 9 = 1 := by kernel_rfl

theorem rows_of {W : World} {b off : Nat} {Pn : Ev → Prop} : ∀ n : Nat, (∀ i, i < n → ∃ e : Ev, EvAt W b (off + i * 4) e ∧ Pn e) → ∃ es : List Ev, es.length = n ∧ Row W b off es ∧ ∀ e ∈ es, Pn e
  | 0, _ => ⟨[], rfl, fun i e h => by simp at h, fun e h => by simp at h⟩
  | n + 1, h => by
    obtain ⟨es, hl, hr, hp⟩ := rows_of n (fun i hi => h i (by omega))
    obtain ⟨e, he, hpe⟩ := h n (by omega)
    refine ⟨es ++ [e], by simp [hl], ?_, ?_⟩
    · intro i x hi
      by_cases hin : i < n
      · exact hr i x (by rw [List.getElem?_append_left (by omega)] at hi; exact hi)
      · rw [List.getElem?_append_right (by omega)] at hi
        have : i = n := by
          rcases Nat.eq_zero_or_pos (i - es.length) with h0 | h0
          · omega
          · rw [List.getElem?_eq_none (by simp; omega)] at hi; cases hi
        subst this
        rw [hl, Nat.sub_self] at hi
        simp at hi
        subst hi
        exact he
    · intro x hx
      rcases List.mem_append.1 hx with hx | hx
      · exact hp x hx
      · simp at hx; subst hx; exact hpe

set_option maxRecDepth 100000 in
theorem open_evs {H : Type} {enc : TypeId × Value → H} {W : World} {b0 : Nat} {v : Value} {d : DataW H} {p : List MemPlace}
    (hv : Value.okWide Tryz.prog W .any b0 169 v) (h : DataW.Trod enc Tryz.prog W 0 (fun _ => true) true 169 v d p) :
    ∃ es : List Ev, SliceOf W v es ∧ es.length ≤ maxLen ∧ ∀ e ∈ es, e.name.size ≤ maxLen := by
  obtain ⟨a0, len0, cap0, rfl⟩ := okWide_slice Tryz.underlying169 hv
  obtain ⟨fuel, hf⟩ := h
  rcases open_slice Tryz.underlying169 hf with ⟨hcs, _⟩ | ⟨a, len, cap, m, n, D, Pl, hcs, _, hl, hm, hmm, _, hx⟩
  · simp [Value.cells] at hcs
    obtain ⟨rfl, rfl, rfl⟩ := hcs
    exact ⟨[], ⟨none, 0, rfl, fun h => absurd rfl h⟩, Nat.zero_le _, fun e h => by simp at h⟩
  · simp [Value.cells] at hcs
    obtain ⟨rfl, rfl, rfl⟩ := hcs
    simp only [if_true] at hmm
    subst hmm
    by_cases h0 : len0 = 0
    · subst h0
      exact ⟨[], ⟨some a, _, rfl, fun h => absurd rfl h⟩, Nat.zero_le _, fun e h => by simp at h⟩
    · obtain ⟨b, off, spot⟩ := a
      have hspot : spot = none := by
        obtain ⟨cs', h1, _⟩ := hx 0 (by omega)
        rw [cellsLawEv] at h1
        obtain ⟨_, hlen, hcell⟩ := World.cells?_some h1
        have q := hcell 0 (by omega)
        have hs : ∃ c, W.cell? (((⟨b, off, spot⟩ : Addr).add (0 * 4)).add 0) = some c := by
          rw [q]
          match cs', hlen with
          | [c0, c1, c2, c3], _ => exact ⟨c0, rfl⟩
        obtain ⟨c, hc⟩ := hs
        have := World.cell?_spot hc
        simpa [Addr.add] using this
      subst hspot
      have ha : ∀ n, (⟨b, off, none⟩ : Addr).add n = ⟨b, off + n, none⟩ := fun n => by unfold Addr.add; split <;> simp_all
      have ha2 : ∀ k n, (⟨b, k, none⟩ : Addr).add n = ⟨b, k + n, none⟩ := fun k n => by unfold Addr.add; split <;> simp_all
      have key : ∀ i, i < len0 → ∃ e : Ev, EvAt W b (off + i * 4) e ∧ e.name.size ≤ maxLen := by
        intro i hi
        obtain ⟨cs', h1, h2⟩ := hx i (by omega)
        rw [cellsLawEv] at h1
        obtain ⟨_, hlen, hcell⟩ := World.cells?_some h1
        match cs', hlen with
        | [c0, c1, c2, c3], _ =>
          obtain ⟨y0, y1, y2, y3, k, _, _, t0, t1, t2, t3⟩ := trod_struct4 Tryz.underlying235 h2
          simp only [cellsInt, cellsStr] at t0 t1 t2 t3
          obtain ⟨id, e0, -, -⟩ := DataW.trod_int Tryz.underlying3 t0
          obtain ⟨ver, e1, -, -⟩ := DataW.trod_int Tryz.underlying3 t1
          obtain ⟨kind, e2, -, -⟩ := DataW.trod_int Tryz.underlying3 t2
          obtain ⟨name, e3, -, hn⟩ := DataW.trod_string Tryz.underlying9 t3
          simp at e0 e1 e2 e3
          have q0 := hcell 0 (by omega)
          have q1 := hcell 1 (by omega)
          have q2 := hcell 2 (by omega)
          have q3 := hcell 3 (by omega)
          simp only [List.getElem?_cons_zero, List.getElem?_cons_succ] at q0 q1 q2 q3
          rw [ha, ha2] at q0 q1 q2 q3
          subst e0 e1 e2 e3
          exact ⟨⟨id, ver, kind, name⟩, ⟨q0, q1, q2, q3⟩, hn⟩
      obtain ⟨es, hel, hrow, hp⟩ := rows_of len0 key
      subst hel
      have hlt : b < W.heap.size := by
        obtain ⟨e, he, _⟩ := key 0 (by omega)
        exact World.block_lt_of_cell? W _ he.1
      exact ⟨es, ⟨_, _, rfl, fun _ => ⟨b, off, rfl, hlt, hrow⟩⟩, by omega, hp⟩
end Go.Proofs.YtfkeokglifpkoaaGreatDoor

/-
  Tellings that came in, read as data, are branches in memory.
-/
namespace Go.Proofs.YtfkeokglifpkoaaGreatDoor
open Go.ChangeShapes Go.WideShapes Go.ChangeAt Go.RowKit Go.Joins Go.Deep
open M
theorem cellsLawEvsO : Tryz.prog.cellsOf 169 = 1 := by kernel_rfl
theorem cellsLawBrO : Tryz.prog.cellsOf 171 = 1 := by kernel_rfl
theorem cellsLawBrsO : Tryz.prog.cellsOf 22 = 1 := by kernel_rfl
theorem cellsLawTellO : Tryz.prog.cellsOf 24 = 1 := by kernel_rfl
theorem pick_list {α : Type} {Pn : Nat → α → Prop} : ∀ n : Nat, (∀ i, i < n → ∃ e : α, Pn i e) → ∃ l : List α, l.length = n ∧ ∀ i x, l[i]? = some x → Pn i x
  | 0, _ => ⟨[], rfl, fun i x h => by simp at h⟩
  | n + 1, h => by
    obtain ⟨l, hl, hp⟩ := pick_list n (fun i hi => h i (by omega))
    obtain ⟨e, he⟩ := h n (by omega)
    refine ⟨l ++ [e], by simp [hl], fun i x hi => ?_⟩
    by_cases hin : i < n
    · rw [List.getElem?_append_left (by omega)] at hi; exact hp i x hi
    · rw [List.getElem?_append_right (by omega)] at hi
      have hie : i = n := by
        rcases Nat.eq_zero_or_pos (i - l.length) with h0 | h0
        · omega
        · rw [List.getElem?_eq_none (by simp; omega)] at hi; cases hi
      subst hie
      rw [hl, Nat.sub_self] at hi
      simp at hi
      subst hi
      exact he
set_option maxRecDepth 100000 in
theorem trod_evs {H : Type} {enc : TypeId × Value → H} {W : World} {fuel : Nat} {v : Value} {x : DataW H × List MemPlace}
    (hf : DataW.trod enc Tryz.prog W 0 (fun _ => true) true fuel 169 [v] = some x) :
    ∃ es : List Ev, SliceOf W v es ∧ es.length ≤ maxLen ∧ ∀ e ∈ es, e.name.size ≤ maxLen := by
  rcases open_slice Tryz.underlying169 hf with ⟨hcs, _⟩ | ⟨a, len, cap, m, n, D, Pl, hcs, _, hl, hm, hmm, _, hx⟩
  · simp at hcs
    subst hcs
    exact ⟨[], ⟨none, 0, rfl, fun h => absurd rfl h⟩, Nat.zero_le _, fun e h => by simp at h⟩
  · simp at hcs
    subst hcs
    simp only [if_true] at hmm
    subst hmm
    by_cases h0 : len = 0
    · subst h0
      exact ⟨[], ⟨some a, _, rfl, fun h => absurd rfl h⟩, Nat.zero_le _, fun e h => by simp at h⟩
    · obtain ⟨b, off, spot⟩ := a
      have hspot : spot = none := by
        obtain ⟨cs', h1, _⟩ := hx 0 (by omega)
        rw [cellsLawEv] at h1
        obtain ⟨_, hlen, hcell⟩ := World.cells?_some h1
        have q := hcell 0 (by omega)
        have hs : ∃ c, W.cell? (((⟨b, off, spot⟩ : Addr).add (0 * 4)).add 0) = some c := by
          rw [q]
          match cs', hlen with
          | [c0, c1, c2, c3], _ => exact ⟨c0, rfl⟩
        obtain ⟨c, hc⟩ := hs
        have := World.cell?_spot hc
        simpa [Addr.add] using this
      subst hspot
      have ha : ∀ n, (⟨b, off, none⟩ : Addr).add n = ⟨b, off + n, none⟩ := fun n => by unfold Addr.add; split <;> simp_all
      have ha2 : ∀ k n, (⟨b, k, none⟩ : Addr).add n = ⟨b, k + n, none⟩ := fun k n => by unfold Addr.add; split <;> simp_all
      have key : ∀ i, i < len → ∃ e : Ev, EvAt W b (off + i * 4) e ∧ e.name.size ≤ maxLen := by
        intro i hi
        obtain ⟨cs', h1, h2⟩ := hx i (by omega)
        rw [cellsLawEv] at h1
        obtain ⟨_, hlen, hcell⟩ := World.cells?_some h1
        match cs', hlen with
        | [c0, c1, c2, c3], _ =>
          obtain ⟨y0, y1, y2, y3, k, _, _, t0, t1, t2, t3⟩ := trod_struct4 Tryz.underlying235 h2
          simp only [cellsInt, cellsStr] at t0 t1 t2 t3
          obtain ⟨id, e0, -, -⟩ := DataW.trod_int Tryz.underlying3 t0
          obtain ⟨ver, e1, -, -⟩ := DataW.trod_int Tryz.underlying3 t1
          obtain ⟨kind, e2, -, -⟩ := DataW.trod_int Tryz.underlying3 t2
          obtain ⟨name, e3, -, hn⟩ := DataW.trod_string Tryz.underlying9 t3
          simp at e0 e1 e2 e3
          have q0 := hcell 0 (by omega)
          have q1 := hcell 1 (by omega)
          have q2 := hcell 2 (by omega)
          have q3 := hcell 3 (by omega)
          simp only [List.getElem?_cons_zero, List.getElem?_cons_succ] at q0 q1 q2 q3
          rw [ha, ha2] at q0 q1 q2 q3
          subst e0 e1 e2 e3
          exact ⟨⟨id, ver, kind, name⟩, ⟨q0, q1, q2, q3⟩, hn⟩
      obtain ⟨es, hel, hrow, hp⟩ := rows_of len key
      subst hel
      have hlt : b < W.heap.size := by
        obtain ⟨e, he, _⟩ := key 0 (by omega)
        exact World.block_lt_of_cell? W _ he.1
      exact ⟨es, ⟨_, _, rfl, fun _ => ⟨b, off, rfl, hlt, hrow⟩⟩, by omega, hp⟩
set_option maxRecDepth 100000 in
theorem trod_brs {H : Type} {enc : TypeId × Value → H} {W : World} {fuel : Nat} {v : Value} {x : DataW H × List MemPlace}
    (hf : DataW.trod enc Tryz.prog W 0 (fun _ => true) true fuel 22 [v] = some x) : ∃ bs : Brs, BrsOf W v bs ∧ Fine bs := by
  rcases open_slice1 Tryz.underlying22 cellsLawBrO hf with ⟨hcs, _⟩ | ⟨a, len, cap, m, n, V, D, P0, hcs, _, hl, hm, hmm, _, hx⟩
  · simp at hcs
    subst hcs
    exact ⟨[], ⟨none, 0, rfl, fun h => absurd h (Nat.lt_irrefl _)⟩, Nat.zero_le _, fun b h => by cases h⟩
  · simp at hcs
    subst hcs
    simp only [if_true] at hmm
    subst hmm
    by_cases h0 : len = 0
    · subst h0
      exact ⟨[], ⟨some a, _, rfl, fun h => absurd h (Nat.lt_irrefl _)⟩, Nat.zero_le _, fun b h => by cases h⟩
    · obtain ⟨b, off, spot⟩ := a
      have hc0 := (hx 0 (by omega)).1
      have hspot : spot = none := by
        have := World.cell?_spot hc0
        simpa [Addr.add] using this
      subst hspot
      have ha : ∀ n, (⟨b, off, none⟩ : Addr).add n = ⟨b, off + n, none⟩ := fun n => by unfold Addr.add; split <;> simp_all
      obtain ⟨bs, hbl, hbs⟩ := pick_list (α := Evs) len (Pn := fun i es => SliceOf W (V i) es ∧ es.length ≤ maxLen ∧ ∀ e ∈ es, e.name.size ≤ maxLen) (fun i hi => by
        obtain ⟨y0, k, _, _, t0⟩ := trod_struct1 Tryz.underlying171 (hx i (by omega)).2
        simp [cellsLawEvsO] at t0
        exact trod_evs t0)
      rw [ha] at hc0
      subst hbl
      refine ⟨bs, ⟨_, _, rfl, fun _ => ⟨b, off, rfl, World.block_lt_of_cell? W _ hc0, fun i es hi => ?_⟩⟩, by omega, fun es hes => ?_⟩
      · have c0 := (hx i (by have := (List.getElem?_eq_some_iff.1 hi).1; omega)).1
        rw [ha] at c0
        exact ⟨V i, c0, (hbs i es hi).1⟩
      · obtain ⟨i, hi, rfl⟩ := List.mem_iff_getElem.1 hes
        exact (hbs i _ (List.getElem?_eq_getElem hi)).2
set_option maxRecDepth 100000 in
theorem open_tell {H : Type} {enc : TypeId × Value → H} {W : World} {b0 : Nat} {v : Value} {d : DataW H} {p : List MemPlace}
    (hv : Value.okWide Tryz.prog W .any b0 24 v) (h : DataW.Trod enc Tryz.prog W 0 (fun _ => true) true 24 v d p) :
    ∃ (u : Value) (bs : Brs), v = .agg #[u] ∧ BrsOf W u bs ∧ Fine bs := by
  obtain ⟨cs, rfl, hsz⟩ := okWide_struct Tryz.underlying24 hv
  obtain ⟨c0, rfl⟩ : ∃ c0, cs = #[c0] := by
    obtain ⟨l⟩ := cs
    match l, hsz.trans cellsLawTellO with
    | [a], _ => exact ⟨a, rfl⟩
  obtain ⟨fuel, hf⟩ := h
  obtain ⟨y0, k, _, _, t0⟩ := trod_struct1 Tryz.underlying24 hf
  simp [Value.cells, cellsLawBrsO] at t0
  obtain ⟨bs, h1, h2⟩ := trod_brs t0
  exact ⟨c0, bs, rfl, h1, h2⟩
end Go.Proofs.YtfkeokglifpkoaaGreatDoor

/-
  A region and a word that came in, read as data.
-/
namespace Go.Proofs.YtfkeokglifpkoaaGreatDoor
open Go.ChangeShapes Go.WideShapes Go.ChangeAt Go.RowKit Go.Joins Go.Deep
open M
theorem cellsLawRegionO : Tryz.prog.cellsOf 26 = 3 := by kernel_rfl
theorem cellsIntR : Tryz.prog.cellsOf 3 = 1 := by kernel_rfl
set_option maxRecDepth 100000 in
theorem open_region {H : Type} {enc : TypeId × Value → H} {W : World} {b0 : Nat} {v : Value} {d : DataW H} {p : List MemPlace}
    (hv : Value.okWide Tryz.prog W .any b0 26 v) (h : DataW.Trod enc Tryz.prog W 0 (fun _ => true) true 26 v d p) :
    ∃ (id ver : Int) (u : Value) (bs : Brs), v = rv id ver u ∧ BrsOf W u bs ∧ Fine bs := by
  obtain ⟨cs, rfl, hsz⟩ := okWide_struct Tryz.underlying26 hv
  obtain ⟨c0, c1, c2, rfl⟩ : ∃ c0 c1 c2, cs = #[c0, c1, c2] := by
    obtain ⟨l⟩ := cs
    match l, hsz.trans cellsLawRegionO with
    | [a, b, c], _ => exact ⟨a, b, c, rfl⟩
  obtain ⟨fuel, hf⟩ := h
  obtain ⟨xs, k, hk, hxy, _, hxl, hf⟩ := DataW.trod_struct Tryz.underlying26 hf
  match xs, hxl with
  | [y0, y1, y2], _ =>
    have g0 := hf 0 _ rfl
    have g1 := hf 1 _ rfl
    have g2 := hf 2 _ rfl
    simp [Value.cells, cellsIntR, cellsLawTellO] at g0 g1 g2
    obtain ⟨x0, e0, -, -⟩ := DataW.trod_int Tryz.underlying3 g0
    obtain ⟨x1, e1, -, -⟩ := DataW.trod_int Tryz.underlying3 g1
    simp at e0 e1
    subst e0; subst e1
    obtain ⟨z0, m, _, _, t0⟩ := trod_struct1 Tryz.underlying24 g2
    simp [cellsLawBrsO] at t0
    obtain ⟨bs, h1, h2⟩ := trod_brs t0
    exact ⟨x0, x1, c2, bs, rfl, h1, h2⟩
theorem cellsLawWordO : Tryz.prog.cellsOf 51 = 2 := by kernel_rfl
set_option maxRecDepth 100000 in
theorem open_word {H : Type} {enc : TypeId × Value → H} {W : World} {b0 : Nat} {v : Value} {d : DataW H} {p : List MemPlace}
    (hv : Value.okWide Tryz.prog W .any b0 51 v) (h : DataW.Trod enc Tryz.prog W 0 (fun _ => true) true 51 v d p) :
    ∃ (ver : Int) (u : Value) (bs : Brs), v = wv ver u ∧ BrsOf W u bs ∧ Fine bs := by
  obtain ⟨cs, rfl, hsz⟩ := okWide_struct Tryz.underlying51 hv
  obtain ⟨c0, c1, rfl⟩ : ∃ c0 c1, cs = #[c0, c1] := by
    obtain ⟨l⟩ := cs
    match l, hsz.trans cellsLawWordO with
    | [a, b], _ => exact ⟨a, b, rfl⟩
  obtain ⟨fuel, hf⟩ := h
  obtain ⟨xs, k, hk, hxy, _, hxl, hf⟩ := DataW.trod_struct Tryz.underlying51 hf
  match xs, hxl with
  | [y0, y1], _ =>
    have g0 := hf 0 _ rfl
    have g1 := hf 1 _ rfl
    simp [Value.cells, cellsIntR, cellsLawTellO] at g0 g1
    obtain ⟨x0, e0, -, -⟩ := DataW.trod_int Tryz.underlying3 g0
    simp at e0
    subst e0
    obtain ⟨z0, m, _, _, t0⟩ := trod_struct1 Tryz.underlying24 g1
    simp [cellsLawBrsO] at t0
    obtain ⟨bs, h1, h2⟩ := trod_brs t0
    exact ⟨x0, c1, bs, rfl, h1, h2⟩
end Go.Proofs.YtfkeokglifpkoaaGreatDoor

/-
  Texts that follow one another, joined: QuV, QuN.
-/
import Derived.Test.YtfjdbenbiakbbaaJoin21
import Derived.Test.YtfjdbenbiakbbaaJoin13
/-
  A text that is sent, a packet that is doubled, and a step: the program's text.
-/
namespace Go.Proofs.Ytfjdbenbiakbbaa
open Go.RowKit M
open Go.Sort (grow)
namespace M
theorem sAt_none {q : Qu} {k : Int} (hg : GoodQ q) (h : inB k q.base (eow q - 1) = false) : sAt q k = none := by
  have hn : ¬ (q.base ≤ k ∧ k ≤ eow q - 1) := fun h2 => by rw [(inB_iff _ _ _).2 h2] at h; cases h
  rw [eow_iff] at hn
  have h0 := hg.b0
  unfold sAt
  split
  · rename_i hc
    apply List.getElem?_eq_none
    omega
  · rfl
theorem sAt_get {q : Qu} {k : Int} (hg : GoodQ q) (h : inB k q.base (eow q - 1) = true) : ∃ t, sAt q k = some t ∧ q.sent[k.toNat]? = some t ∧ 0 ≤ k ∧ k < q.sent.length := by
  have h2 := (inB_iff _ _ _).1 h
  rw [eow_iff] at h2
  have h0 := hg.b0
  have hk : k.toNat < q.sent.length := by omega
  refine ⟨_, ?_, List.getElem?_eq_getElem hk, by omega, h2.2.1⟩
  unfold sAt
  rw [if_pos ⟨h2.1, h2.2.2⟩]
  exact List.getElem?_eq_getElem hk
theorem kAt_none {q : Qu} {k : Int} (h : inB k 0 ((q.line.length : Int) - 1) = false) : kAt q k = none := by
  have hn : ¬ (0 ≤ k ∧ k ≤ (q.line.length : Int) - 1) := fun h2 => by rw [(inB_iff _ _ _).2 h2] at h; cases h
  unfold kAt
  split
  · apply List.getElem?_eq_none; omega
  · rfl
theorem kAt_get {q : Qu} {k : Int} (h : inB k 0 ((q.line.length : Int) - 1) = true) : ∃ (n : Nat) (p : Pk), k = (n : Int) ∧ kAt q k = some p ∧ q.line[n]? = some p := by
  have h2 := (inB_iff _ _ _).1 h
  have hk : k.toNat < q.line.length := by omega
  refine ⟨k.toNat, _, by omega, ?_, List.getElem?_eq_getElem hk⟩
  unfold kAt
  rw [if_pos h2.1]
  exact List.getElem?_eq_getElem hk
end M
set_option maxRecDepth 20000 in
set_option maxHeartbeats 4000000 in
theorem send_no (B g : Nat) (v1 v3 v4 : Value) (q : Qu) (k : Int) (w : World) (h : PQ w B g v1 v3 v4 q) (hg : GoodQ q) (hk : inB k q.base (eow q - 1) = false) :
    Calls Try.prog 75 #[.pointer (some ⟨g, 0, none⟩), .int .i64 k] w fun e w' => e = .returned (.bool false) ∧ Below w.heap.size w w' := by
  have HH := hide h
  have HD := hide hg.head
  obtain ⟨a1, c1, rfl⟩ := h.o1.form
  obtain ⟨a3, c3, rfl⟩ := h.o3.form
  obtain ⟨a4, c4, rfl⟩ := h.o4.form
  obtain ⟨⟨y0, y1, y2, y3, y4⟩, -⟩ := h.box.pen
  have r0 := cell_regrown y0
  have r1 := cell_regrown y1
  have r2 := cell_regrown y2
  have r3 := cell_regrown y3
  have r4 := cell_regrown y4
  have HE1 := hide (show ∀ d os, Calls Try.prog 87 #[qv (.slice a1 q.sent.length c1) (.slice a3 q.got.length c3) (.slice a4 q.line.length c4) q] (grow (redrawn w d) os) fun e w'' => e = .returned (.int .i64 (eow q)) ∧ ∃ p : Regrown, w'' = grow (redrawn w p.d) p.os from fun d os => Calls.regrown_of (impl_eow _ _ _ q _ (HH.out.rd.below (below_regrown w d os)) HD.out))
  have HE2 := hide (show ∀ d os, Calls Try.prog 63 #[.int .i64 k, .int .i64 q.base, .int .i64 (eow q - 1)] (grow (redrawn w d) os) fun e w'' => e = .returned (.bool (inB k q.base (eow q - 1))) ∧ ∃ p : Regrown, w'' = grow (redrawn w p.d) p.os from fun d os => Calls.regrown_of ((impl_in _ _ _ _).mono fun e w' h => ⟨h.1, by rw [h.2]; exact Below.refl _ _⟩))
  have he0 : -1 ≤ eow q := by have := HD.out.w0; have := HD.out.b0; unfold eow; split <;> omega
  have he1 : eow q ≤ 50 := by have := HD.out.s; unfold eow; split <;> omega
  rw [hk] at HE2
  clear h hg y0 y1 y2 y3 y4
  go_enter Try.func75, Try.ntmps75
  go_wp2
  refine wp_region_quiet_below (by kernel_rfl) (by kernel_rfl) ?_
  repeat (go_big_quiet_step (first | exact HE1.out _ _ | exact HE2.out _ _))
  refine wpQuiet_nil ?_
  intro _ hw'
  obtain ⟨⟨dq, osq⟩, hw''⟩ := hw'
  subst hw''
  have hbw2 := below_regrown w dq osq
  clear HE1 HE2
  go_wp2
  go_ret
  exact ⟨rfl, hbw2⟩
set_option maxRecDepth 20000 in
set_option maxHeartbeats 8000000 in
theorem send_run (B g : Nat) (v1 v3 v4 : Value) (q : Qu) (k : Int) (t : ByteArray) (w : World) (b : Bool) (R : World → Prop) (h : PQ w B g v1 v3 v4 q) (hg : GoodQ q) (hk : inB k q.base (eow q - 1) = true) (ht : q.sent[k.toNat]? = some t) (h0 : 0 ≤ k) (h1 : k < q.sent.length)
    (hC : ∀ w1, Below w.heap.size w w1 → PQ w1 B g v1 v3 v4 q → Calls Try.prog 90 #[.pointer (some ⟨g, 0, none⟩), (⟨false, k, t⟩ : Pk).v] w1 fun e w' => e = .returned (.bool b) ∧ R w') :
    Calls Try.prog 75 #[.pointer (some ⟨g, 0, none⟩), .int .i64 k] w fun e w' => e = .returned (.bool b) ∧ R w' := by
  have HH := hide h
  have HC := hide hC
  have HD := hide hg.head
  obtain ⟨a1, c1, rfl⟩ := h.o1.form
  obtain ⟨a3, c3, rfl⟩ := h.o3.form
  obtain ⟨a4, c4, rfl⟩ := h.o4.form
  obtain ⟨⟨y0, y1, y2, y3, y4⟩, -⟩ := h.box.pen
  obtain ⟨a, c, hv1, hr⟩ := h.o1.txs
  simp only [Value.slice.injEq, true_and] at hv1
  obtain ⟨rfl, rfl⟩ := hv1
  obtain ⟨b1, o1, rfl, hb1, hrow⟩ := hr (by omega)
  have x1 := hrow _ t ht
  have he0 : -1 ≤ eow q := by have := HD.out.w0; have := HD.out.b0; unfold eow; split <;> omega
  have he1 : eow q ≤ 50 := by have := HD.out.s; unfold eow; split <;> omega
  have HX := hide x1
  have HB1 := hide hb1
  have hwr : IntKind.i64.wrap (eow q - 1) = eow q - 1 := by rw [IntKind.wrap_i64]; omega
  have HE := hide (show ∀ w1, Below w.drew.heap.size w.drew w1 → (w1.cell? ⟨g, 1, none⟩ = some (.slice (some ⟨b1, o1, none⟩) q.sent.length c1) ∧ w1.cell? ⟨g, 2, none⟩ = some (.int .i64 q.base)) ∧ w1.cell? ⟨b1, o1 + k.toNat, none⟩ = some (.string t) ∧ PQ w1 B g (.slice (some ⟨b1, o1, none⟩) q.sent.length c1) (.slice a3 q.got.length c3) (.slice a4 q.line.length c4) q ∧ Below w.heap.size w w1 from fun w1 hb => by
    have h2 := (HH.out.down (Below.refl w.heap.size w).drew).down hb
    have h3 := (Below.refl w.heap.size w).drew.trans hb
    exact ⟨⟨h2.box.pen.1.2.1, h2.box.pen.1.2.2.1⟩, (h3.cell (p := ⟨b1, o1 + k.toNat, none⟩) HB1.out).trans HX.out, h2, h3⟩)
  clear h hg hC hr hrow x1 hb1
  go_enter Try.func75, Try.ntmps75
  go_upto_region 1 with fail
  go_region_with (first
    | (go_at_call 87; refine (impl_eow _ _ _ q _ (HH.out.down (Below.refl w.heap.size w).drew).rd HD.out).mono ?_; rintro e w1 ⟨rfl, hb1⟩; obtain ⟨⟨m1, m2⟩, m3, hP1, hL1⟩ := HE.out w1 hb1)
    | (go_at_call 63; refine (impl_in _ _ _ _).mono ?_; rintro e w' ⟨rfl, rfl⟩; rw [hk])
    | (go_at_call 90; refine (HC.out _ hL1 hP1).mono ?_; rintro e w3 ⟨rfl, hR3⟩))
  all_goals
    have HR := hide hR3
    clear hR3 m1 m2 m3 hP1 hL1 hb1
    go_wp2
    go_ret
    exact ⟨rfl, HR.out⟩
set_option maxHeartbeats 1000000 in
theorem double_no (B g : Nat) (v1 v3 v4 : Value) (q : Qu) (k : Int) (w : World) (h : PQ w B g v1 v3 v4 q) (hl : q.line.length ≤ 40) (hk : inB k 0 ((q.line.length : Int) - 1) = false) :
    Calls Try.prog 78 #[.pointer (some ⟨g, 0, none⟩), .int .i64 k] w fun e w' => e = .returned (.bool false) ∧ Below w.heap.size w w' := by
  obtain ⟨a4, c4, rfl⟩ := h.o4.form
  obtain ⟨⟨-, -, -, -, y4⟩, -⟩ := h.box.pen
  clear h
  go_enter Try.func78, Try.ntmps78
  go_wp2_with (go_at_call 63; refine (impl_in _ _ _ _).mono ?_; rintro e w' ⟨rfl, rfl⟩; rw [hk])
  go_ret
  exact ⟨rfl, Below.refl _ _⟩
set_option maxHeartbeats 1000000 in
theorem double_run (B g : Nat) (v1 v3 v4 : Value) (q : Qu) (k : Nat) (p : Pk) (w : World) (b : Bool) (R : World → Prop) (h : PQ w B g v1 v3 v4 q) (hl : q.line.length ≤ 40) (hp : q.line[k]? = some p)
    (hC : Calls Try.prog 90 #[.pointer (some ⟨g, 0, none⟩), p.v] w fun e w' => e = .returned (.bool b) ∧ R w') :
    Calls Try.prog 78 #[.pointer (some ⟨g, 0, none⟩), .int .i64 (k : Int)] w fun e w' => e = .returned (.bool b) ∧ R w' := by
  have hkl : k < q.line.length := (List.getElem?_eq_some_iff.1 hp).1
  have hk : inB (k : Int) 0 ((q.line.length : Int) - 1) = true := (inB_iff _ _ _).2 ⟨by omega, by omega⟩
  have HC := hide hC
  obtain ⟨a4, c4, rfl⟩ := h.o4.form
  obtain ⟨⟨-, -, -, -, y4⟩, -⟩ := h.box.pen
  obtain ⟨a, c, hv4, hr⟩ := h.o4.pks
  simp only [Value.slice.injEq, true_and] at hv4
  obtain ⟨rfl, rfl⟩ := hv4
  obtain ⟨b4, o4, rfl, hb4, hrow⟩ := hr (by omega)
  obtain ⟨z0, z1, z2⟩ := hrow k p hp
  clear h hC hr hrow
  go_enter Try.func78, Try.ntmps78
  go_wp2_with (first | (go_at_call 63; refine (impl_in _ _ _ _).mono ?_; rintro e w' ⟨rfl, rfl⟩; rw [hk]) | (go_at_call 90; refine Calls.mono HC.out ?_; rintro e w3 ⟨rfl, hR3⟩; have HR := hide hR3; clear hR3))
  go_ret
  exact ⟨by simp, HR.out⟩
namespace M
/-- What a step leaves behind the pointer. -/
def Did (B g : Nat) (w : World) (v1 v3 v4 : Value) (w' : World) (q' : Qu) : Prop := ∃ u1 u3 u4, PQ w' B g u1 u3 u4 q' ∧ Mv g w v1 v3 v4 w' u1 u3 u4
theorem Did.same {B g : Nat} {w w' : World} {v1 v3 v4 : Value} {q : Qu} (h : PQ w B g v1 v3 v4 q) (hb : Below w.heap.size w w') : Did B g w v1 v3 v4 w' q := ⟨_, _, _, h.down hb, Mv.down hb⟩
theorem Did.from {B g : Nat} {w w1 w' : World} {v1 v3 v4 : Value} {q' : Qu} (hb : Below w.heap.size w w1) (h : Did B g w1 v1 v3 v4 w' q') : Did B g w v1 v3 v4 w' q' := by
  obtain ⟨u1, u3, u4, a, b⟩ := h
  exact ⟨u1, u3, u4, a, (Mv.down hb).trans b⟩
theorem Did.then {B g : Nat} {w w1 w' : World} {v1 v3 v4 : Value} {q' : Qu} (h : Did B g w v1 v3 v4 w1 q') (hb : Below w1.heap.size w1 w') : Did B g w v1 v3 v4 w' q' := by
  obtain ⟨u1, u3, u4, a, b⟩ := h
  exact ⟨u1, u3, u4, a.down hb, b.trans (Mv.down hb)⟩
end M
/-- What is sent: the step LineSend. -/
theorem do_send (B g : Nat) (v1 v3 v4 : Value) (q : Qu) (k : Int) (x : ByteArray) (w : World) (h : PQ w B g v1 v3 v4 q) (hB : B ≤ w.heap.size) (hg : GoodQ q) :
    Calls Try.prog 75 #[.pointer (some ⟨g, 0, none⟩), .int .i64 k] w fun e w' => e = .returned (.bool (stp q ⟨2, k, x⟩).isSome) ∧ Did B g w v1 v3 v4 w' ((stp q ⟨2, k, x⟩).getD q) := by
  have e2 : stp q ⟨2, k, x⟩ = (match sAt q k with
    | none => none
    | some t => if q.line.length = 40 then none else some (putQ q ⟨false, k, t⟩)) := by
    unfold stp
    rw [if_neg (show ¬ (2 : Int) = 1 by decide), if_pos rfl]
    dsimp only
    cases sAt q k <;> rfl
  rw [e2]
  cases hk : inB k q.base (eow q - 1) with
  | false =>
    rw [sAt_none hg hk]
    exact (send_no B g v1 v3 v4 q k w h hg hk).mono fun e w' hh => ⟨hh.1, Did.same h hh.2⟩
  | true =>
    obtain ⟨t, ht, htx, h0, h1⟩ := sAt_get hg hk
    have h12 : t.size ≤ 12 := hg.tx _ _ htx
    rw [ht]
    dsimp only
    by_cases hl : q.line.length = 40
    · rw [if_pos hl]
      exact send_run B g v1 v3 v4 q k t w false _ h hg hk htx h0 h1 (fun w1 hb hP => (line_full B g v1 v3 v4 q _ w1 hP hl).mono fun e w' hh => ⟨hh.1, Did.from hb (Did.same hP hh.2)⟩)
    · rw [if_neg hl]
      have hl2 : q.line.length < 40 := by have := hg.l40; omega
      exact send_run B g v1 v3 v4 q k t w true _ h hg hk htx h0 h1 (fun w1 hb hP => (put_line B g v1 v3 v4 q _ w1 hP (Nat.le_trans hB hb.size) hl2 h12).mono fun e w' hh => ⟨hh.1, by
        obtain ⟨u4, a, b⟩ := hh.2
        exact Did.from hb ⟨_, _, u4, a, b⟩⟩)
theorem do_put (B g : Nat) (v1 v3 v4 : Value) (q : Qu) (k : Int) (x : ByteArray) (w : World) (h : PQ w B g v1 v3 v4 q) (hB : B ≤ w.heap.size) (hg : GoodQ q) (hx : x.size ≤ maxLen) :
    Calls Try.prog 74 #[.pointer (some ⟨g, 0, none⟩), .string x] w fun e w' => e = .returned (.bool (stp q ⟨1, k, x⟩).isSome) ∧ Did B g w v1 v3 v4 w' ((stp q ⟨1, k, x⟩).getD q) := by
  have hs := hg.s40
  by_cases hc : q.sent.length = 40 ∨ 12 < x.size
  · have e1 : stp q ⟨1, k, x⟩ = none := by unfold stp; rw [if_pos rfl, if_pos hc]
    rw [e1]
    exact (text_no B g v1 v3 v4 q x w h hg.s40 hx hc).mono fun e w' hh => ⟨hh.1, Did.same h hh.2⟩
  · have e1 : stp q ⟨1, k, x⟩ = some (sendQ q x) := by unfold stp; rw [if_pos rfl, if_neg hc]
    rw [e1]
    exact (put_text B g v1 v3 v4 q x w h hB (by omega) (by omega)).mono fun e w' hh => ⟨hh.1, by
      obtain ⟨u1, a, b⟩ := hh.2
      exact ⟨u1, _, _, a, b⟩⟩
namespace M
theorem stp_k {q : Qu} {s : Lst} (h1 : s.kind ≠ 1) (h2 : s.kind ≠ 2) : stp q s = match kAt q s.k with
    | none => none
    | some p =>
      if s.kind = 5 then (if q.line.length = 40 then none else some (putQ q p))
      else if s.kind = 3 then some (takeQ q s.k.toNat p)
      else if s.kind = 4 then some (outQ q s.k.toNat)
      else none := by
  unfold stp; rw [if_neg h1, if_neg h2]
  cases kAt q s.k <;> rfl
end M
theorem do_take (B g : Nat) (v1 v3 v4 : Value) (q : Qu) (k : Int) (x : ByteArray) (w : World) (h : PQ w B g v1 v3 v4 q) (hB : B ≤ w.heap.size) (hg : GoodQ q) :
    Calls Try.prog 76 #[.pointer (some ⟨g, 0, none⟩), .int .i64 k] w fun e w' => e = .returned (.bool (stp q ⟨3, k, x⟩).isSome) ∧ Did B g w v1 v3 v4 w' ((stp q ⟨3, k, x⟩).getD q) := by
  rw [stp_k (show (3 : Int) ≠ 1 by decide) (show (3 : Int) ≠ 2 by decide)]
  cases hk : inB k 0 ((q.line.length : Int) - 1) with
  | false =>
    rw [kAt_none hk]
    exact (take_no B g v1 v3 v4 q k w h hg.l40 hk).mono fun e w' hh => ⟨hh.1, Did.same h hh.2⟩
  | true =>
    obtain ⟨n, p, rfl, hp, hpl⟩ := kAt_get hk
    rw [hp]
    dsimp only
    rw [if_neg (show ¬ (3 : Int) = 5 by decide), if_pos rfl, Int.toNat_natCast]
    exact (take_yes B g v1 v3 v4 q n p w h hB hg hpl).mono fun e w' hh => ⟨hh.1, by
      obtain ⟨u3, u4, a, b⟩ := hh.2
      exact ⟨_, u3, u4, a, b⟩⟩
theorem do_twice (B g : Nat) (v1 v3 v4 : Value) (q : Qu) (k : Int) (x : ByteArray) (w : World) (h : PQ w B g v1 v3 v4 q) (hB : B ≤ w.heap.size) (hg : GoodQ q) :
    Calls Try.prog 78 #[.pointer (some ⟨g, 0, none⟩), .int .i64 k] w fun e w' => e = .returned (.bool (stp q ⟨5, k, x⟩).isSome) ∧ Did B g w v1 v3 v4 w' ((stp q ⟨5, k, x⟩).getD q) := by
  rw [stp_k (show (5 : Int) ≠ 1 by decide) (show (5 : Int) ≠ 2 by decide)]
  cases hk : inB k 0 ((q.line.length : Int) - 1) with
  | false =>
    rw [kAt_none hk]
    exact (double_no B g v1 v3 v4 q k w h hg.l40 hk).mono fun e w' hh => ⟨hh.1, Did.same h hh.2⟩
  | true =>
    obtain ⟨n, p, rfl, hp, hpl⟩ := kAt_get hk
    rw [hp]
    dsimp only
    rw [if_pos rfl]
    by_cases hl : q.line.length = 40
    · rw [if_pos hl]
      exact double_run B g v1 v3 v4 q n p w false _ h hg.l40 hpl ((line_full B g v1 v3 v4 q p w h hl).mono fun e w' hh => ⟨hh.1, Did.same h hh.2⟩)
    · rw [if_neg hl]
      exact double_run B g v1 v3 v4 q n p w true _ h hg.l40 hpl ((put_line B g v1 v3 v4 q p w h hB (by have := hg.l40; omega) (hg.tx12 hpl)).mono fun e w' hh => ⟨hh.1, by
        obtain ⟨u4, a, b⟩ := hh.2
        exact ⟨_, _, u4, a, b⟩⟩)
theorem do_leave (B g : Nat) (v1 v3 v4 : Value) (q : Qu) (k : Int) (x : ByteArray) (w : World) (h : PQ w B g v1 v3 v4 q) (hB : B ≤ w.heap.size) (hg : GoodQ q) :
    Calls Try.prog 77 #[.pointer (some ⟨g, 0, none⟩), .int .i64 k] w fun e w' => (∃ p : Pk, e = .returned (.tuple #[p.v, .bool (stp q ⟨4, k, x⟩).isSome])) ∧ Did B g w v1 v3 v4 w' ((stp q ⟨4, k, x⟩).getD q) := by
  rw [stp_k (show (4 : Int) ≠ 1 by decide) (show (4 : Int) ≠ 2 by decide)]
  cases hk : inB k 0 ((q.line.length : Int) - 1) with
  | false =>
    rw [kAt_none hk]
    exact (leave_no B g v1 v3 v4 q k w h hg.l40 hk).mono fun e w' hh => ⟨⟨_, hh.1⟩, Did.same h hh.2⟩
  | true =>
    obtain ⟨n, p, rfl, hp, hpl⟩ := kAt_get hk
    rw [hp]
    dsimp only
    rw [if_neg (show ¬ (4 : Int) = 5 by decide), if_neg (show ¬ (4 : Int) = 3 by decide), if_pos rfl, Int.toNat_natCast]
    exact (leave_line B g v1 v3 v4 q n p w h hB hg.l40 hpl).mono fun e w' hh => ⟨⟨_, hh.1⟩, by
      obtain ⟨u4, a, b⟩ := hh.2
      exact ⟨_, _, u4, a, b⟩⟩
set_option maxRecDepth 20000 in
set_option maxHeartbeats 4000000 in
theorem do_step (B g : Nat) (v1 v3 v4 : Value) (q : Qu) (s : Lst) (w : World) (h : PQ w B g v1 v3 v4 q) (hB : B ≤ w.heap.size) (hg : GoodQ q) (hx : s.tx.size ≤ maxLen) :
    Calls Try.prog 46 #[.pointer (some ⟨g, 0, none⟩), s.v] w fun e w' => e = .returned (.bool (stp q s).isSome) ∧ Did B g w v1 v3 v4 w' ((stp q s).getD q) := by
  obtain ⟨kind, k, x⟩ := s
  have hd := (Below.refl w.heap.size w).alloc (Nat.le_refl _) (.cells #[.int .i64 kind, .int .i64 k, .string x] 36)
  have HH := hide (h.down hd)
  have HG := hide hg
  have HX := hide hx
  have HD := hide hd
  have hB1 := Nat.le_trans hB hd.size
  have HS0 := hide (Did.same h hd)
  clear h hg hx hd
  by_cases hk1 : kind = 1
  · subst hk1
    clear HS0
    go_enter Try.func46, Try.ntmps46
    go_wp2_with fail
    refine (do_put B g v1 v3 v4 q k x _ HH.out hB1 HG.out HX.out).mono ?_
    rintro e w1 ⟨rfl, hR⟩
    have HR := hide (Did.from HD.out hR)
    clear hR
    go_wp2
    go_ret
    exact ⟨rfl, HR.out⟩
  by_cases hk2 : kind = 2
  · subst hk2
    clear HS0
    go_enter Try.func46, Try.ntmps46
    go_wp2_with fail
    refine (do_send B g v1 v3 v4 q k x _ HH.out hB1 HG.out).mono ?_
    rintro e w1 ⟨rfl, hR⟩
    have HR := hide (Did.from HD.out hR)
    clear hR
    go_wp2
    go_ret
    exact ⟨rfl, HR.out⟩
  by_cases hk3 : kind = 3
  · subst hk3
    clear HS0
    go_enter Try.func46, Try.ntmps46
    go_wp2_with fail
    refine (do_take B g v1 v3 v4 q k x _ HH.out hB1 HG.out).mono ?_
    rintro e w1 ⟨rfl, hR⟩
    have HR := hide (Did.from HD.out hR)
    clear hR
    go_wp2
    go_ret
    exact ⟨rfl, HR.out⟩
  by_cases hk4 : kind = 4
  · subst hk4
    clear HS0
    go_enter Try.func46, Try.ntmps46
    go_wp2_with fail
    refine (do_leave B g v1 v3 v4 q k x _ HH.out hB1 HG.out).mono ?_
    rintro e w1 ⟨⟨p, rfl⟩, hR⟩
    have HR := hide ((Did.from HD.out hR).then ((Below.refl w1.heap.size w1).alloc (Nat.le_refl _) (.cells #[.bool p.ack, .int .i64 p.no, .string p.tx] 88)))
    clear hR
    go_wp2
    go_ret
    exact ⟨rfl, HR.out⟩
  by_cases hk5 : kind = 5
  · subst hk5
    clear HS0
    go_enter Try.func46, Try.ntmps46
    go_wp2_with fail
    refine (do_twice B g v1 v3 v4 q k x _ HH.out hB1 HG.out).mono ?_
    rintro e w1 ⟨rfl, hR⟩
    have HR := hide (Did.from HD.out hR)
    clear hR
    go_wp2
    go_ret
    exact ⟨rfl, HR.out⟩
  have e0 : stp q ⟨kind, k, x⟩ = none := by
    rw [stp_k hk1 hk2]
    cases kAt q (⟨kind, k, x⟩ : Lst).k with
    | none => rfl
    | some p => dsimp only; rw [if_neg hk5, if_neg hk3, if_neg hk4]
  rw [e0]
  have HR := hide (show Did B g w v1 v3 v4 _ q from HS0.out)
  clear HS0 e0
  go_enter Try.func46, Try.ntmps46
  go_wp2
  go_ret
  exact ⟨rfl, HR.out⟩
end Go.Proofs.Ytfjdbenbiakbbaa

/-
  New queues, in both texts.
-/
namespace Go.Proofs.Ytfjdbenbiakbbaa
open Go.RowKit M
namespace M
def newO (n : Int) : Qu := if inB n 1 10 = true then newQ n else qu0
theorem newO_empty (n : Int) : (newO n).sent = [] ∧ (newO n).got = [] ∧ (newO n).line = [] := by unfold newO; split <;> exact ⟨rfl, rfl, rfl⟩
end M
set_option maxHeartbeats 1000000 in
theorem impl_new (n : Int) (w : World) :
    Calls Try.prog 54 #[.int .i64 n] w fun e w' => e = .returned (.tuple #[qv (.slice none 0 0) (.slice none 0 0) (.slice none 0 0) (newO n), .bool (inB n 1 10)]) ∧ Below w.heap.size w w' := by
  have hbA := (Below.refl w.heap.size w).alloc (Nat.le_refl _) (.cells #[.int .i64 0, .slice none 0 0, .int .i64 0, .slice none 0 0, .slice none 0 0] 32)
  have hbB := (Below.refl w.heap.size w).alloc (Nat.le_refl _) (.cells #[.int .i64 n, .slice none 0 0, .int .i64 0, .slice none 0 0, .slice none 0 0] 32)
  cases h : inB n 1 10 with
  | false =>
    have e : newO n = qu0 := by unfold newO; rw [h]; rfl
    rw [e]
    go_enter Try.func54, Try.ntmps54
    go_wp2_with (go_at_call 60; refine (impl_window _ _).mono ?_; rintro e w' ⟨rfl, rfl⟩; rw [h])
    exact bodyPost_ret (v := .tuple #[qv (.slice none 0 0) (.slice none 0 0) (.slice none 0 0) qu0, .bool false]) (by simp [results, Try.results54, go_sem, qu0]) rfl ⟨rfl, hbA⟩
  | true =>
    have e : newO n = newQ n := by unfold newO; rw [h]; rfl
    rw [e]
    go_enter Try.func54, Try.ntmps54
    go_wp2_with (go_at_call 60; refine (impl_window _ _).mono ?_; rintro e w' ⟨rfl, rfl⟩; rw [h])
    exact bodyPost_ret (v := .tuple #[qv (.slice none 0 0) (.slice none 0 0) (.slice none 0 0) (newQ n), .bool true]) (by simp [results, Try.results54, go_sem, newQ]) rfl ⟨rfl, hbB⟩
set_option maxHeartbeats 1000000 in
theorem spec_new (n : Int) (w : World) :
    Calls Try.prog 53 #[.int .i64 n] w fun e w' => e = .returned (.tuple #[qv (.slice none 0 0) (.slice none 0 0) (.slice none 0 0) (newO n), .bool (inB n 1 10)]) ∧ Below w.heap.size w w' := by
  have hbA := (Below.refl w.heap.size w).alloc (Nat.le_refl _) (.cells #[.int .i64 0, .slice none 0 0, .int .i64 0, .slice none 0 0, .slice none 0 0] 32)
  have hbB := (Below.refl w.heap.size w).alloc (Nat.le_refl _) (.cells #[.int .i64 n, .slice none 0 0, .int .i64 0, .slice none 0 0, .slice none 0 0] 32)
  cases h : inB n 1 10 with
  | false =>
    have e : newO n = qu0 := by unfold newO; rw [h]; rfl
    rw [e]
    go_enter Try.func53, Try.ntmps53
    go_wp2_with (go_at_call 68; refine (spec_in _ _ _ _).mono ?_; rintro e w' ⟨rfl, rfl⟩; rw [h])
    exact bodyPost_ret (v := .tuple #[qv (.slice none 0 0) (.slice none 0 0) (.slice none 0 0) qu0, .bool false]) (by simp [results, Try.results53, go_sem, qu0]) rfl ⟨rfl, hbA⟩
  | true =>
    have e : newO n = newQ n := by unfold newO; rw [h]; rfl
    rw [e]
    go_enter Try.func53, Try.ntmps53
    go_wp2_with (go_at_call 68; refine (spec_in _ _ _ _).mono ?_; rintro e w' ⟨rfl, rfl⟩; rw [h])
    exact bodyPost_ret (v := .tuple #[qv (.slice none 0 0) (.slice none 0 0) (.slice none 0 0) (newQ n), .bool true]) (by simp [results, Try.results53, go_sem, newQ]) rfl ⟨rfl, hbB⟩
end Go.Proofs.Ytfjdbenbiakbbaa

/-
  A step on a queue of its own: the specification's text.
-/
import Derived.Test.YtfjdbenbiakbbaaJoin26
import Derived.Test.YtfjdbenbiakbbaaJoin24
namespace Go.Proofs.Ytfjdbenbiakbbaa
open Go.RowKit M
namespace M
/-- The blocks of a queue's lists. -/
def MineL (v1 v3 v4 : Value) (k : Nat) : Prop := v1.ownBlock = some k ∨ v3.ownBlock = some k ∨ v4.ownBlock = some k
/-- The specification's step on a queue: the boxes of its two arguments and of its answer, the queue's lists. -/
structure SQ (S : Nat → Prop) (w W : World) (lo : Nat) (v1 v3 v4 : Value) (q : Qu) (st : Lst) : Prop where
  pq : PQ W lo w.heap.size v1 v3 v4 q
  lb : Blk W (w.heap.size + 1) 3 (ql st) 36
  rb : Blk W (w.heap.size + 1 + 1) 5 (w5 (.int .i64 0) (.slice none 0 0) (.int .i64 0) (.slice none 0 0) (.slice none 0 0)) 32
  low : Below lo w W
  mn : ∀ k, Mine w.heap.size v1 v3 v4 k → k ≤ w.heap.size ∨ w.heap.size + 3 ≤ k
  big : w.heap.size + 3 ≤ W.heap.size
  le : lo ≤ w.heap.size
  chg : Chg S w W
  sub : ∀ k, Mine w.heap.size v1 v3 v4 k → S k ∨ w.heap.size ≤ k
section
variable {S : Nat → Prop} {w W W2 : World} {lo : Nat} {v1 v3 v4 u1 u3 u4 : Value} {q q2 : Qu} {st : Lst}
theorem SQ.new (h : AnsQ w lo w.heap.size v1 v3 v4 q.sent q.got q.line) (hlo : lo ≤ w.heap.size) (st : Lst) :
    SQ (MineL v1 v3 v4) w (((w.alloc (.cells (qarr v1 v3 v4 q) 32)).alloc (.cells #[.int .i64 st.kind, .int .i64 st.k, .string st.tx] 36)).alloc (.cells #[.int .i64 0, .slice none 0 0, .int .i64 0, .slice none 0 0, .slice none 0 0] 32)) lo v1 v3 v4 q st := by
  have h1 := PQ.new h hlo
  have hd := ((Below.refl _ (w.alloc (.cells (qarr v1 v3 v4 q) 32))).alloc (Nat.le_refl _) (.cells #[.int .i64 st.kind, .int .i64 st.k, .string st.tx] 36)).alloc (by simp) (.cells #[.int .i64 0, .slice none 0 0, .int .i64 0, .slice none 0 0, .slice none 0 0] 32)
  have hall := (((Below.refl w.heap.size w).alloc (Nat.le_refl _) (.cells (qarr v1 v3 v4 q) 32)).alloc (by simp) (.cells #[.int .i64 st.kind, .int .i64 st.k, .string st.tx] 36)).alloc (by simp; omega) (.cells #[.int .i64 0, .slice none 0 0, .int .i64 0, .slice none 0 0, .slice none 0 0] 32)
  refine ⟨h1.down hd, ?_, ?_, ?_, ?_, by simp, hlo, Below.chg hall _, ?_⟩
  · have := (newT3 (w.alloc (.cells (qarr v1 v3 v4 q) 32)) (.int .i64 st.kind) (.int .i64 st.k) (.string st.tx) 36).alloc (.cells #[.int .i64 0, .slice none 0 0, .int .i64 0, .slice none 0 0, .slice none 0 0] 32)
    rw [World.size_alloc] at this; exact this
  · have := newW5 ((w.alloc (.cells (qarr v1 v3 v4 q) 32)).alloc (.cells #[.int .i64 st.kind, .int .i64 st.k, .string st.tx] 36)) (.int .i64 0) (.slice none 0 0) (.int .i64 0) (.slice none 0 0) (.slice none 0 0) 32
    rw [World.size_alloc, World.size_alloc] at this; exact this
  · have := (((Below.refl w.heap.size w).alloc (Nat.le_refl _) (.cells (qarr v1 v3 v4 q) 32)).alloc (by simp) (.cells #[.int .i64 st.kind, .int .i64 st.k, .string st.tx] 36)).alloc (by simp; omega) (.cells #[.int .i64 0, .slice none 0 0, .int .i64 0, .slice none 0 0, .slice none 0 0] 32)
    exact this.mono hlo
  · rintro k (e | e | e | e)
    · exact .inl (Nat.le_of_eq e)
    · exact .inl (Nat.le_of_lt (h.h1 k e))
    · exact .inl (Nat.le_of_lt (h.h3 k e))
    · exact .inl (Nat.le_of_lt (h.h4 k e))
  · rintro k (e | e | e | e)
    · exact .inr (Nat.le_of_eq e.symm)
    · exact .inl (.inl e)
    · exact .inl (.inr (.inl e))
    · exact .inl (.inr (.inr e))
theorem SQ.down (h : SQ S w W lo v1 v3 v4 q st) (hb : Below W.heap.size W W2) : SQ S w W2 lo v1 v3 v4 q st :=
  ⟨h.pq.down hb, h.lb.down hb, h.rb.down hb, h.low.trans (hb.mono (Nat.le_trans h.le (Nat.le_trans (by omega) h.big))), h.mn, Nat.le_trans h.big hb.size, h.le, h.chg.and (Below.chg hb _), h.sub⟩
theorem SQ.move (h : SQ S w W lo v1 v3 v4 q st) (hp : PQ W2 lo w.heap.size u1 u3 u4 q2) (hm : Mv w.heap.size W v1 v3 v4 W2 u1 u3 u4) : SQ S w W2 lo u1 u3 u4 q2 st :=
  ⟨hp, h.lb.chg hm.chg (fun hk => by have := h.mn _ hk; omega), h.rb.chg hm.chg (fun hk => by have := h.mn _ hk; omega),
    h.low.trans (hm.chg.low h.pq.mine (Nat.le_trans h.le (Nat.le_trans (by omega) h.big))), fun k hk => by
      rcases hm.sub k hk with h' | h'
      · exact h.mn k h'
      · exact .inr (Nat.le_trans h.big h'), Nat.le_trans h.big hm.chg.size, h.le, h.chg.trans hm.chg h.sub, fun k hk => by
      rcases hm.sub k hk with h' | h'
      · exact h.sub k h'
      · exact .inr (Nat.le_trans (by omega) (Nat.le_trans h.big h'))⟩
/-- What the step answers. -/
def Sto (S : Nat → Prop) (lo : Nat) (w w' : World) (e : Ending) (q' : Qu) (b : Bool) : Prop := ∃ x1 x3 x4, e = .returned (.tuple #[qv x1 x3 x4 q', .bool b]) ∧ AnsQ w' lo w'.heap.size x1 x3 x4 q'.sent q'.got q'.line ∧ Below lo w w' ∧ Chg S w w'
theorem SQ.fin (h : SQ S w W lo v1 v3 v4 q st) : ∀ WZ, ((((W.setCell ⟨w.heap.size + 1 + 1, 0, none⟩ (.int .i64 q.win)).setCell ⟨w.heap.size + 1 + 1, 1, none⟩ v1).setCell ⟨w.heap.size + 1 + 1, 2, none⟩ (.int .i64 q.base)).setCell ⟨w.heap.size + 1 + 1, 3, none⟩ v3).setCell ⟨w.heap.size + 1 + 1, 4, none⟩ v4 = WZ → Blk WZ (w.heap.size + 1 + 1) 5 (qf v1 v3 v4 q) 32 ∧ AnsQ WZ lo WZ.heap.size v1 v3 v4 q.sent q.got q.line ∧ Below lo w WZ ∧ Chg S w WZ := by
  intro WZ hWZ
  have hle := h.le
  obtain ⟨j1, j2, j3⟩ := putW5 h.rb h.low (by omega) _ _ _ _ _ WZ hWZ
  refine ⟨j1, AnsQ.of (h.pq.o1.other j3 (fun k hk e => ?_)) (h.pq.o3.other j3 (fun k hk e => ?_)) (h.pq.o4.other j3 (fun k hk e => ?_)) h.pq.a13 h.pq.a14 h.pq.a34, j2, h.chg.trans (Chg.gb (S := fun k => k = w.heap.size + 1 + 1) j3 (fun k e => by simp only [Option.some.injEq] at e; exact e.symm)) (fun k e => .inr (by omega))⟩
  · have := h.mn k (.inr (.inl hk)); simp only [Option.some.injEq] at e; omega
  · have := h.mn k (.inr (.inr (.inl hk))); simp only [Option.some.injEq] at e; omega
  · have := h.mn k (.inr (.inr (.inr hk))); simp only [Option.some.injEq] at e; omega
/-- What comes back as it came. -/
theorem Sto.same (h : AnsQ w lo w.heap.size v1 v3 v4 q.sent q.got q.line) (hlo : lo ≤ w.heap.size) (b : Bool) {w' : World} (hb : Below w.heap.size w w') : Sto S lo w w' (.returned (.tuple #[qv v1 v3 v4 q, .bool b])) q b :=
  ⟨_, _, _, rfl, (h.down hb).mono (Nat.le_refl _) hb.size, hb.mono hlo, Below.chg hb _⟩
end
end M
set_option maxRecDepth 20000 in
set_option maxHeartbeats 8000000 in
theorem s1_no (v1 v3 v4 : Value) (q : Qu) (kind k : Int) (x : ByteArray) (lo : Nat) (w : World) (h : AnsQ w lo w.heap.size v1 v3 v4 q.sent q.got q.line) (hlo : lo ≤ w.heap.size) (hg : GoodQ q) (hk : kind = 1) (hx : x.size ≤ maxLen) (hc : q.sent.length = 40 ∨ 12 < x.size) :
    Calls Try.prog 41 #[qv v1 v3 v4 q, .agg #[.int .i64 kind, .int .i64 k, .string x]] w fun e w' => Sto (MineL v1 v3 v4) lo w w' e q false := by
  obtain ⟨a1, c1, rfl⟩ := h.o1.form
  obtain ⟨a3, c3, rfl⟩ := h.o3.form
  obtain ⟨a4, c4, rfl⟩ := h.o4.form
  have hw0 := hg.w0
  have hw1 := hg.w1
  have hb0 := hg.b0
  have hbg := hg.bg
  have hgs := hg.gs
  have hs40 := hg.s40
  have hl40 := hg.l40
  have hd := (((Below.refl w.heap.size w).alloc (Nat.le_refl _) (.cells (qarr (.slice a1 q.sent.length c1) (.slice a3 q.got.length c3) (.slice a4 q.line.length c4) q) 32)).alloc (by simp) (.cells #[.int .i64 kind, .int .i64 k, .string x] 36)).alloc (by simp; omega) (.cells (qarr (.slice a1 q.sent.length c1) (.slice a3 q.got.length c3) (.slice a4 q.line.length c4) q) 32)
  have HF := hide (fun b => Sto.same (S := MineL (.slice a1 q.sent.length c1) (.slice a3 q.got.length c3) (.slice a4 q.line.length c4)) h hlo b hd)
  clear h hd
  subst hk
  unfold maxLen at hx
  by_cases h40 : q.sent.length = 40
  · have hl2 : ((q.sent.length : Int) == 40) = true := by simp; omega
    clear hc h40
    go_enter Try.func41, Try.ntmps41
    go_wp2
    exact bodyPost_ret (v := .tuple #[qv (.slice a1 q.sent.length c1) (.slice a3 q.got.length c3) (.slice a4 q.line.length c4) q, .bool false]) (by simp [results, Try.results41, go_sem]) rfl (HF.out false)
  · have hl2 : ((q.sent.length : Int) == 40) = false := by simp; omega
    have hl3 : (12 : Int) < (x.size : Int) := by omega
    clear hc h40
    go_enter Try.func41, Try.ntmps41
    go_wp2
    exact bodyPost_ret (v := .tuple #[qv (.slice a1 q.sent.length c1) (.slice a3 q.got.length c3) (.slice a4 q.line.length c4) q, .bool false]) (by simp [results, Try.results41, go_sem]) rfl (HF.out false)
set_option maxRecDepth 20000 in
set_option maxHeartbeats 8000000 in
theorem s1_yes (v1 v3 v4 : Value) (q : Qu) (kind k : Int) (x : ByteArray) (lo : Nat) (w : World) (h : AnsQ w lo w.heap.size v1 v3 v4 q.sent q.got q.line) (hlo : lo ≤ w.heap.size) (hg : GoodQ q) (hk : kind = 1) (hl : q.sent.length < 40) (hx : x.size ≤ 12) :
    Calls Try.prog 41 #[qv v1 v3 v4 q, .agg #[.int .i64 kind, .int .i64 k, .string x]] w fun e w' => Sto (MineL v1 v3 v4) lo w w' e (sendQ q x) true := by
  obtain ⟨a1, c1, rfl⟩ := h.o1.form
  obtain ⟨a3, c3, rfl⟩ := h.o3.form
  obtain ⟨a4, c4, rfl⟩ := h.o4.form
  have hw0 := hg.w0
  have hw1 := hg.w1
  have hb0 := hg.b0
  have hbg := hg.bg
  have hgs := hg.gs
  have hs40 := hg.s40
  have hl40 := hg.l40
  obtain ⟨W, hW⟩ : ∃ W, (((w.alloc (.cells (qarr (.slice a1 q.sent.length c1) (.slice a3 q.got.length c3) (.slice a4 q.line.length c4) q) 32)).alloc (.cells #[.int .i64 kind, .int .i64 k, .string x] 36)).alloc (.cells #[.int .i64 0, .slice none 0 0, .int .i64 0, .slice none 0 0, .slice none 0 0] 32)) = W := ⟨_, rfl⟩
  have HQ := hide (show SQ (MineL (.slice a1 q.sent.length c1) (.slice a3 q.got.length c3) (.slice a4 q.line.length c4)) w W lo (.slice a1 q.sent.length c1) (.slice a3 q.got.length c3) (.slice a4 q.line.length c4) q ⟨kind, k, x⟩ from hW ▸ SQ.new h hlo ⟨kind, k, x⟩)
  have HW := hide hW
  have HSZ := hide (show W.heap.size = w.heap.size + 3 from by rw [← hW]; simp)
  clear hW
  subst hk
  have hl2 : ((q.sent.length : Int) == 40) = false := by simp; omega
  have hl3 : decide ((12 : Int) < (x.size : Int)) = false := decide_eq_false (by omega)
  have TB := (Below.refl W.heap.size W).alloc (Nat.le_refl _) (.cells #[.string x] 9)
  have hQ1 := HQ.out.down TB
  have hown := hQ1.pq.o1
  have hlit := lit_txc (w := W.alloc (.cells #[.string x] 9)) (x := x) (heap_alloc_new W (.cells #[.string x] 9))
  obtain ⟨⟨-, y1, -, -, -⟩, -⟩ := HQ.out.pq.box.pen
  obtain ⟨⟨-, -, l2⟩, -⟩ := HQ.out.lb.trp
  have HQ1 := hide hQ1
  clear h TB hQ1
  go_enter Try.func41, Try.ntmps41
  go_upto_region 5 with fail
  rw [HW.out]
  go_wp2_with (at_builtin; refine wpList_app _ rfl _ _ rfl lo q.sent [x] _ _ rfl hown rfl hlit (by simp; omega) (by have := HSZ.out; simp; omega) ?_)
  intro m n c w1 hO hgr hbk
  have hP := HQ1.out.pq.put1 (W2 := w1) (Chg.gb hgr (fun k e => e)) hO (fun j e => by
    rcases hbk with h' | h'
    · exact .inl (by rw [← h']; exact e)
    · rw [h'] at e; simp at e; exact .inr (by simp; omega))
  have hS := HQ1.out.move hP.1 hP.2
  obtain ⟨⟨-, z1, -, -, -⟩, -, t1, -, -, -⟩ := (HQ1.out.pq.box.chg (Chg.gb (S := fun j => (Value.slice a1 q.sent.length c1).ownBlock = some j) hgr (fun k e => e)) HQ1.out.pq.n1).pen
  obtain ⟨W3, hW3⟩ : ∃ W3, w1.setCell ⟨w.heap.size, 1, none⟩ (.slice m n c) = W3 := ⟨_, rfl⟩
  rw [hW3] at hS
  have HS := hide (show SQ _ w W3 lo (.slice m n c) (.slice a3 q.got.length c3) (.slice a4 q.line.length c4) (sendQ q x) ⟨1, k, x⟩ from hS)
  have HW3 := hide hW3
  clear hW3 hS hP hO hgr hbk hown hlit HQ1 HQ
  go_upto_region 6 with fail
  rw [HW3.out]
  clear HW3 y1 l2 z1 t1
  obtain ⟨WZ, hWZ⟩ : ∃ WZ, ((((W3.setCell ⟨w.heap.size + 1 + 1, 0, none⟩ (.int .i64 (sendQ q x).win)).setCell ⟨w.heap.size + 1 + 1, 1, none⟩ (.slice m n c)).setCell ⟨w.heap.size + 1 + 1, 2, none⟩ (.int .i64 (sendQ q x).base)).setCell ⟨w.heap.size + 1 + 1, 3, none⟩ (.slice a3 q.got.length c3)).setCell ⟨w.heap.size + 1 + 1, 4, none⟩ (.slice a4 q.line.length c4) = WZ := ⟨_, rfl⟩
  have HFz := hide (HS.out.fin WZ hWZ)
  have HWZ := hide hWZ
  obtain ⟨⟨e0, e1, e2, e3, e4⟩, f0, f1, f2, f3, f4⟩ := HS.out.rb.pen
  obtain ⟨⟨y0, y1, y2, y3, y4⟩, -⟩ := HS.out.pq.box.pen
  clear hWZ HS
  go_wp2
  rw [HWZ.out]
  clear e0 e1 e2 e3 e4 f0 f1 f2 f3 f4 y0 y1 y2 y3 y4
  obtain ⟨⟨e0, e1, e2, e3, e4⟩, -⟩ := HFz.out.1.pen
  exact bodyPost_ret (v := .tuple #[qv (.slice m n c) (.slice a3 q.got.length c3) (.slice a4 q.line.length c4) (sendQ q x), .bool true]) (by simp [results, Try.results41, go_sem, e0, e1, e2, e3, e4]) rfl ⟨_, _, _, rfl, HFz.out.2⟩
set_option maxRecDepth 20000 in
set_option maxHeartbeats 8000000 in
theorem s2_no (v1 v3 v4 : Value) (q : Qu) (kind k : Int) (x : ByteArray) (lo : Nat) (w : World) (h : AnsQ w lo w.heap.size v1 v3 v4 q.sent q.got q.line) (hlo : lo ≤ w.heap.size) (hg : GoodQ q) (hk : kind = 2) (hc : sAt q k = none) :
    Calls Try.prog 41 #[qv v1 v3 v4 q, .agg #[.int .i64 kind, .int .i64 k, .string x]] w fun e w' => Sto (MineL v1 v3 v4) lo w w' e q false := by
  obtain ⟨a1, c1, rfl⟩ := h.o1.form
  obtain ⟨a3, c3, rfl⟩ := h.o3.form
  obtain ⟨a4, c4, rfl⟩ := h.o4.form
  have hw0 := hg.w0
  have hw1 := hg.w1
  have hb0 := hg.b0
  have hbg := hg.bg
  have hgs := hg.gs
  have hs40 := hg.s40
  have hl40 := hg.l40
  have hd := (((Below.refl w.heap.size w).alloc (Nat.le_refl _) (.cells (qarr (.slice a1 q.sent.length c1) (.slice a3 q.got.length c3) (.slice a4 q.line.length c4) q) 32)).alloc (by simp) (.cells #[.int .i64 kind, .int .i64 k, .string x] 36)).alloc (by simp; omega) (.cells (qarr (.slice a1 q.sent.length c1) (.slice a3 q.got.length c3) (.slice a4 q.line.length c4) q) 32)
  have HF := hide (fun b => Sto.same (S := MineL (.slice a1 q.sent.length c1) (.slice a3 q.got.length c3) (.slice a4 q.line.length c4)) h hlo b hd)
  clear h hd
  subst hk
  have hwr : IntKind.i64.wrap (q.base + q.win) = q.base + q.win := by rw [IntKind.wrap_i64]; omega
  have hwr2 : IntKind.i64.wrap (q.base + q.win - 1) = q.base + q.win - 1 := by rw [IntKind.wrap_i64]; omega
  cases hin : inB k q.base (q.base + q.win - 1) with
  | false =>
    clear hc
    go_enter Try.func41, Try.ntmps41
    go_wp2_with (go_at_call 68; refine (spec_in _ _ _ _).mono ?_; rintro e w' ⟨rfl, rfl⟩; rw [hin])
    exact bodyPost_ret (v := .tuple #[qv (.slice a1 q.sent.length c1) (.slice a3 q.got.length c3) (.slice a4 q.line.length c4) q, .bool false]) (by simp [results, Try.results41, go_sem]) rfl (HF.out false)
  | true =>
    have h2 := (inB_iff _ _ _).1 hin
    have h3 : (q.sent.length : Int) ≤ k := by
      unfold sAt at hc
      rw [if_pos ⟨h2.1, by omega⟩] at hc
      have := List.getElem?_eq_none_iff.1 hc
      omega
    clear hc h2
    go_enter Try.func41, Try.ntmps41
    go_wp2_with (go_at_call 68; refine (spec_in _ _ _ _).mono ?_; rintro e w' ⟨rfl, rfl⟩; rw [hin])
    exact bodyPost_ret (v := .tuple #[qv (.slice a1 q.sent.length c1) (.slice a3 q.got.length c3) (.slice a4 q.line.length c4) q, .bool false]) (by simp [results, Try.results41, go_sem]) rfl (HF.out false)
end Go.Proofs.Ytfjdbenbiakbbaa

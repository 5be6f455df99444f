/-
  What a call over copies keeps while its parts are reckoned in any order: the copy, the box of the answer.
-/
import Derived.Test.YtfjdbenbiakbbaaJoin30
import Derived.Deep.Cut
namespace Go.Proofs.Ytfjdbenbiakbbaa
open Go.RowKit M
namespace M
theorem OwnT.ne_blk {w : World} {B g n : Nat} {v : Value} {l : Txs} {f : Nat → Value} {t : TypeId} (h : OwnT w B v l) (hb : Blk w g n f t) (ht : 9 ≠ t) : v.ownBlock ≠ some g := by
  rcases h.2 with ⟨rfl, _⟩ | ⟨g', cap, cur, rfl, hB, hg, r⟩
  · simp [Value.ownBlock]
  · intro e
    simp only [Value.ownBlock, Option.some.injEq] at e
    subst e
    unfold Blk at hb
    rw [hg] at hb
    simp at hb
    exact ht hb.2
theorem OwnP.ne_blk {w : World} {B g n : Nat} {v : Value} {l : Pks} {f : Nat → Value} {t : TypeId} (h : OwnP w B v l) (hb : Blk w g n f t) (ht : 88 ≠ t) : v.ownBlock ≠ some g := by
  rcases h.2 with ⟨rfl, _⟩ | ⟨g', cap, cur, rfl, hB, hg, r⟩
  · simp [Value.ownBlock]
  · intro e
    simp only [Value.ownBlock, Option.some.injEq] at e
    subst e
    unfold Blk at hb
    rw [hg] at hb
    simp at hb
    exact ht hb.2
/-- While an answer is made: the box of the answer, if it is there yet, and the copy of the queue. -/
structure ST (A W : World) (lo : Nat) (q : Qu) (o : Option Nat) (c : Option (Value × Value × Value)) : Prop where
  low : Below A.heap.size A W
  box : ∀ g, o = some g → Blk W g 5 (w5 (.int .i64 0) (.slice none 0 0) (.int .i64 0) (.slice none 0 0) (.slice none 0 0)) 32 ∧ A.heap.size ≤ g
  cp : ∀ u, c = some u → AnsQ W lo W.heap.size u.1 u.2.1 u.2.2 q.sent q.got q.line
theorem ST.down {A W W' : World} {lo : Nat} {q : Qu} {o : Option Nat} {c : Option (Value × Value × Value)} (h : ST A W lo q o c) (hb : Below W.heap.size W W') : ST A W' lo q o c :=
  ⟨h.low.trans (hb.mono h.low.size), fun g hg => ⟨(h.box g hg).1.down hb, (h.box g hg).2⟩, fun u hu => ((h.cp u hu).down hb).mono (Nat.le_refl _) hb.size⟩
theorem ST.alloc {A W : World} {lo : Nat} {q : Qu} {c : Option (Value × Value × Value)} (h : ST A W lo q none c) : ST A (W.alloc (.cells #[.int .i64 0, .slice none 0 0, .int .i64 0, .slice none 0 0, .slice none 0 0] 32)) lo q (some W.heap.size) c := by
  have hd := (Below.refl W.heap.size W).alloc (Nat.le_refl _) (.cells #[.int .i64 0, .slice none 0 0, .int .i64 0, .slice none 0 0, .slice none 0 0] 32)
  refine ⟨h.low.trans (hd.mono h.low.size), fun g hg => ?_, fun u hu => ((h.cp u hu).down hd).mono (Nat.le_refl _) hd.size⟩
  simp only [Option.some.injEq] at hg
  subst hg
  exact ⟨newW5 W _ _ _ _ _ 32, h.low.size⟩
theorem ST.alloc1 {A W : World} {lo : Nat} {q : Qu} {c : Option (Value × Value × Value)} (h : ST A W lo q none c) : ST A (W.alloc (.cells #[.int .i64 0, .slice none 0 0, .int .i64 0, .slice none 0 0, .slice none 0 0] 32)).drew lo q (some W.heap.size) c := by
  have h2 := h.alloc
  exact ⟨h2.low.drew, h2.box, fun u hu => (h2.cp u hu).down (Below.refl _ _).drew⟩
/-- Behind the call: the answer r with its lists, the box, if it is there. -/
structure SV (A W : World) (o : Option Nat) (y1 y3 y4 : Value) (r : Qu) : Prop where
  low : Below A.heap.size A W
  box : ∀ g, o = some g → Blk W g 5 (w5 (.int .i64 0) (.slice none 0 0) (.int .i64 0) (.slice none 0 0) (.slice none 0 0)) 32 ∧ A.heap.size ≤ g
  ans : AnsQ W A.heap.size W.heap.size y1 y3 y4 r.sent r.got r.line
/-- The answer in its box. -/
structure LX (A W : World) (g : Nat) (y1 y3 y4 : Value) (r : Qu) : Prop where
  low : Below A.heap.size A W
  box : Blk W g 5 (qf y1 y3 y4 r) 32
  lo : A.heap.size ≤ g
  ans : AnsQ W A.heap.size W.heap.size y1 y3 y4 r.sent r.got r.line
theorem SV.set {A W : World} {g : Nat} {y1 y3 y4 : Value} {r : Qu} (h : SV A W (some g) y1 y3 y4 r) : LX A (((((W.setCell ⟨g, 0, none⟩ (.int .i64 r.win)).setCell ⟨g, 1, none⟩ y1).setCell ⟨g, 2, none⟩ (.int .i64 r.base)).setCell ⟨g, 3, none⟩ y3).setCell ⟨g, 4, none⟩ y4) g y1 y3 y4 r := by
  obtain ⟨hb, hlo⟩ := h.box g rfl
  obtain ⟨k1, k2, k3⟩ := putW5 (w := A) hb h.low hlo (.int .i64 r.win) y1 (.int .i64 r.base) y3 y4 _ rfl
  have n1 := h.ans.o1.ne_blk hb (by decide)
  have n3 := h.ans.o3.ne_blk hb (by decide)
  have n4 := h.ans.o4.ne_blk hb (by decide)
  exact ⟨k2, k1, hlo, AnsQ.of (h.ans.o1.other k3 (fun q hq e => n1 (by rw [hq, e]))) (h.ans.o3.other k3 (fun q hq e => n3 (by rw [hq, e]))) (h.ans.o4.other k3 (fun q hq e => n4 (by rw [hq, e]))) h.ans.a13 h.ans.a14 h.ans.a34⟩
theorem SV.fresh {A W : World} {o : Option Nat} {y1 y3 y4 : Value} {r : Qu} (h : SV A W o y1 y3 y4 r) : LX A (W.alloc (.cells (qarr y1 y3 y4 r) 32)) W.heap.size y1 y3 y4 r := by
  have hd := (Below.refl W.heap.size W).alloc (Nat.le_refl _) (.cells (qarr y1 y3 y4 r) 32)
  exact ⟨h.low.trans (hd.mono h.low.size), newW5 W _ _ _ _ _ 32, h.low.size, (h.ans.down hd).mono (Nat.le_refl _) hd.size⟩
end M
/-- A step on a queue of its own. -/
theorem spec_stp (v1 v3 v4 : Value) (q : Qu) (s : Lst) (lo : Nat) (w : World) (h : AnsQ w lo w.heap.size v1 v3 v4 q.sent q.got q.line) (hlo : lo ≤ w.heap.size) (hg : GoodQ q) (hx : s.tx.size ≤ maxLen) :
    Calls Try.prog 41 #[qv v1 v3 v4 q, s.v] w fun e w' => Sto (MineL v1 v3 v4) lo w w' e ((stp q s).getD q) (stp q s).isSome := by
  obtain ⟨kind, k, x⟩ := s
  by_cases hk1 : kind = 1
  · by_cases hc : q.sent.length = 40 ∨ 12 < x.size
    · have e : stp q ⟨kind, k, x⟩ = none := by unfold stp; rw [if_pos hk1, if_pos hc]
      rw [e]
      exact s1_no v1 v3 v4 q kind k x lo w h hlo hg hk1 hx hc
    · have e : stp q ⟨kind, k, x⟩ = some (sendQ q x) := by unfold stp; rw [if_pos hk1, if_neg hc]
      rw [e]
      exact s1_yes v1 v3 v4 q kind k x lo w h hlo hg hk1 (by have := hg.s40; omega) (by omega)
  by_cases hk2 : kind = 2
  · have e2 : stp q ⟨kind, k, x⟩ = (match sAt q k with
      | none => none
      | some t => if q.line.length = 40 then none else some (putQ q ⟨false, k, t⟩)) := by
      unfold stp
      rw [if_neg hk1, if_pos hk2]
      dsimp only
      cases sAt q k <;> rfl
    rw [e2]
    cases hs : sAt q k with
    | none => exact s2_no v1 v3 v4 q kind k x lo w h hlo hg hk2 hs
    | some t =>
      dsimp only
      by_cases hl : q.line.length = 40
      · rw [if_pos hl]
        exact s2_full v1 v3 v4 q kind k x lo w h hlo hg hk2 t hs hl
      · rw [if_neg hl]
        exact s2_yes v1 v3 v4 q kind k x lo w h hlo hg hk2 t hs (by have := hg.l40; omega)
  rw [stp_k hk1 hk2]
  cases hin : inB k 0 ((q.line.length : Int) - 1) with
  | false =>
    rw [kAt_none hin]
    exact sk_no v1 v3 v4 q kind k x lo w h hlo hg hk1 hk2 hin
  | true =>
    obtain ⟨n, p, hkn, hp, hpl⟩ := kAt_get hin
    rw [hp]
    dsimp only
    have hn : k.toNat = n := by omega
    rw [hn]
    by_cases hk5 : kind = 5
    · rw [if_pos hk5]
      by_cases hl : q.line.length = 40
      · rw [if_pos hl]
        exact s5_full v1 v3 v4 q kind k x lo w h hlo hg n hkn p hpl hk5 hl
      · rw [if_neg hl]
        exact s5_yes v1 v3 v4 q kind k x lo w h hlo hg n hkn p hpl hk5 (by have := hg.l40; omega)
    rw [if_neg hk5]
    by_cases hk3 : kind = 3
    · rw [if_pos hk3]
      cases ha : p.ack with
      | true => exact s3_ack v1 v3 v4 q kind k x lo w h hlo hg n hkn p hpl hk3 ha
      | false => exact s3_txt v1 v3 v4 q kind k x lo w h hlo hg n hkn p hpl hk3 ha
    rw [if_neg hk3]
    by_cases hk4 : kind = 4
    · rw [if_pos hk4]
      exact s4_yes v1 v3 v4 q kind k x lo w h hlo hg n hkn p hpl hk4
    rw [if_neg hk4]
    exact sk_other v1 v3 v4 q kind k x lo w h hlo hg n hkn p hpl hk1 hk2 hk3 hk4 hk5
end Go.Proofs.Ytfjdbenbiakbbaa

/-
  A range over an iterator that keeps nothing of its own but what its caller's invariant tells of it; slices.Backward of numbers is one.
-/
import Derived.Test.YtkfnfgencaplfaaRangeO
import Derived.Test.YtkfnfgencaplfaaPlanI
namespace Go.Proofs.Ytkfnfgencaplfaa
open Go.RowKit
namespace M
/-- An iterator's contract: it yields xs one by one, as long as C holds. -/
def SeqB (P : Program) (g : Nat) (lb : Array Value) (enc : Nat → Nat → Array Value) (xs : List Nat) (C : World → Prop) : Prop :=
  ∀ (l : Nat) (J : List Nat → World → Prop) (W : World), J [] W → (∀ pre A, J pre A → C A) →
    (∀ pre x A, J pre A → pre ++ [x] <+: xs → YieldAt Fence.wide 1 P l (enc pre.length x) A fun e B => e = .returned (.bool true) ∧ J (pre ++ [x]) B) →
    CallsIn Fence.wide 2 P g (#[.func (.yield l) #[] #[]] ++ lb) W fun e B => (∃ v, e = .returned v) ∧ J xs B
/-- What a round of the caller's body owes. -/
def RoundB (I : List Nat → World → Prop) (D : Nat) (xs : List Nat) (W : World) : Exit → Act → World → Prop :=
  fun e _ B => e = .normal ∧ I xs B ∧ B.heap[D]? = W.heap[D]? ∧ B.heap[D + 1]? = W.heap[D + 1]?
theorem RoundB.intro {I : List Nat → World → Prop} {D : Nat} {xs : List Nat} {W B : World} {a : Act} (h1 : I xs B) (h2 : B.heap[D]? = W.heap[D]?) (h3 : B.heap[D + 1]? = W.heap[D + 1]?) : RoundB I D xs W .normal a B := ⟨rfl, h1, h2, h3⟩
theorem wp_rangeB {P : Program} {g : Operand} {ps : Array Tmp} {assign body : Code} {Q : Exit → Act → World → Prop} {a : Act} {w : World} {gf : Nat} {lb : Array Value} {enc : Nat → Nat → Array Value} {xs : List Nat} {C : World → Prop}
    (hg : a.eval g = .func (.func gf) #[] lb) (eg : ∀ args w, (callFunc gf args).run P w = .ok (.enter gf args) w) (hseq : SeqB P gf lb enc xs C) (hps : ∀ i x, (enc i x).size = ps.size)
    (I : List Nat → World → Prop) (hI : ∀ pre A B, I pre A → Kept (fun k => k = w.heap.size + 1) A B → I pre B) (hIC : ∀ pre A, I pre A → C A)
    (h0 : ∀ A, Below w.heap.size w A → A.heap.size = w.heap.size + 2 → I [] A) (a₁ : Nat → Nat → Act)
    (hassign : ∀ (l i x : Nat) (W : World) (K : Act → World → Prop), K (a₁ i x) W → assign.wpIn (Fence.wide.inRound l) 1 P (Exit.then K (fun _ _ _ => False)) { tmps := (ps.zip (enc i x)).foldl (fun t (p, v) => t.setIfInBounds p v) a.tmps, defers := [] } W)
    (hbody : ∀ (l : Nat) (pre : List Nat) (x : Nat) (W : World), I pre W → w.heap.size + 2 ≤ W.heap.size → pre ++ [x] <+: xs → body.wpIn (Fence.wide.inRound l) 1 P (RoundB I w.heap.size (pre ++ [x]) W) (a₁ pre.length x) W)
    (hdone : ∀ (W : World), I xs W → W.heap[w.heap.size]? = some (.deferred (some [])) → Q .normal { a with defers := { target := .collected w.heap.size, args := #[] } :: a.defers } W) :
    (Code.rangeFunc g ps assign body).wpIn Fence.wide 3 P Q a w := by
  refine wpIn_rangeFunc ?_
  intro fn hfn
  obtain ⟨rec, hrec⟩ : ∃ rec : LoopState → Option Code → Loop, rec = fun st pe => { state := st, pending := pe, fn, tmps := a.tmps, params := ps, assign, body, defers := w.heap.size } := ⟨_, rfl⟩
  obtain ⟨W1, hW1⟩ : ∃ W1, (w.alloc (.deferred (some []))).alloc (.loop (rec .ready none)) = W1 := ⟨_, rfl⟩
  have hL1 : W1.heap[w.heap.size + 1]? = some (.loop (rec .ready none)) := by
    rw [← hW1]; have := World.alloc_heap_new (w.alloc (.deferred (some []))) (.loop (rec .ready none)); rwa [World.size_alloc] at this
  have hK1 : W1.heap[w.heap.size]? = some (.deferred (some [])) := by
    rw [← hW1]; exact (Below.heap_alloc _ _ _ (by simp)).trans (World.alloc_heap_new w _)
  have hbw : Below w.heap.size w W1 := by rw [← hW1]; exact ((Below.refl _ w).alloc (Nat.le_refl _) _).alloc (by simp) _
  have hs1 : W1.heap.size = w.heap.size + 2 := by rw [← hW1]; simp
  refine ⟨w.heap.size + 1, [{ target := .collected w.heap.size, args := #[] }], W1, { target := .fn (.func gf) lb, args := #[.func (.yield (w.heap.size + 1)) #[] #[]] }, W1, gf,
    #[.func (.yield (w.heap.size + 1)) #[] #[]] ++ lb, W1, ?_, ?_, ?_, ?_, fun _ => by omega, ?_⟩
  · rw [← hW1, hrec]; exact run_enterLoop_outer _ _ _ _ _
  · simp only [resolve, hg]
    simp [go_sem]
  · intro f' _; trivial
  · simp [invoke, go_sem, eg]
  · refine (hseq (w.heap.size + 1) (fun pre W => I pre W ∧ W.heap[w.heap.size + 1]? = some (.loop (rec .ready none)) ∧ W.heap[w.heap.size]? = some (.deferred (some [])))
      W1 ⟨h0 W1 hbw hs1, hL1, hK1⟩ (fun pre A hj => hIC pre A hj.1) (fun pre x A hj hpx => ?_)).mono ?_
    · obtain ⟨h2, h3, h4⟩ := hj
      have l3 := (Array.getElem?_eq_some_iff.1 h3).1
      have hy := run_yield (P := P) (args := enc pre.length x) h3 (by rw [hrec]; simp [hps])
      rw [hrec] at hy
      refine ⟨fn, _, assign, body, hy, roundIn_of_wpIn hfn (hassign _ pre.length x A _ ⟨_, run_beginRound h3 (by rw [hrec]), ?_⟩)⟩
      have hl2 : (A.putObj (w.heap.size + 1) (.loop { rec .ready none with state := .busy })).heap[w.heap.size + 1]? = some (.loop { rec .ready none with state := .busy }) := World.putObj_heap_same l3
      have hk2 : (A.putObj (w.heap.size + 1) (.loop { rec .ready none with state := .busy })).heap[w.heap.size]? = some (.deferred (some [])) := (World.putObj_heap_other (by omega)).trans h4
      refine wpIn_mono (hbody _ pre x _ (hI pre _ _ h2 (Kept.of_put _ rfl)) (by simp; omega) hpx) ?_
      rintro e a3 W3 ⟨rfl, hi3, kd, kl⟩
      have hl3 := kl.trans hl2
      have l3' := (Array.getElem?_eq_some_iff.1 hl3).1
      have hend := run_endRound (P := P) none hl3
      rw [hrec] at hend
      have hkp : Kept (fun k => k = w.heap.size + 1) W3 (W3.putObj (w.heap.size + 1) (.loop (rec .ready none))) := Kept.of_put _ rfl
      refine ⟨_, _, hend, rfl, ?_, ?_, ?_⟩
      · rw [hrec] at hkp; exact hI _ _ _ hi3 hkp
      · have := World.putObj_heap_same (o := .loop (rec .ready none)) l3'
        rw [hrec] at this ⊢; exact this
      · exact (World.putObj_heap_other (by omega)).trans (kd.trans hk2)
    · rintro e W2 ⟨⟨v, rfl⟩, h2, h3, h4⟩
      have hend := run_endLoop (P := P) h3 (by rw [hrec]; simp)
      rw [hrec] at hend
      exact ⟨none, _, hend, hdone _ (hI _ _ _ h2 (Kept.of_put _ rfl)) ((World.putObj_heap_other (by omega)).trans h4)⟩
end M
open M
/-- The numbers that Backward goes through, and the box of their slice. -/
def M.BackC (bl : Nat) (s : Value) (n : Nat) (xs : List Nat) (W : World) : Prop :=
  W.cell? ⟨bl, 0, none⟩ = some s ∧ IntsOf W s n (fun i => ((xs.getD (n - 1 - i) 0 : Nat) : Int))
set_option maxRecDepth 20000 in
set_option maxHeartbeats 2000000 in
theorem backward_seq (bl : Nat) (a : Option Addr) (n cap : Nat) (xs : List Nat) (hx : xs.length = n) (hn : n ≤ 1048576) :
    SeqB Try.prog 83 #[.pointer (some ⟨bl, 0, none⟩)] (fun i x => #[.int .i64 ((n : Int) - 1 - i), .int .i64 (x : Int)]) xs (BackC bl (.slice a n cap) n xs) := by
  intro l J W h0 hC hY
  have HY := hide hY
  have HC := hide hC
  have H0 := hide h0
  obtain ⟨c0, -⟩ := hC _ _ h0
  clear h0 hC hY
  refine callsIn_of_wp Try.func83 rfl trivial ?_ rfl
  simp only [Try.ntmps83, List.size_toArray, List.length_cons, List.length_nil, Nat.reduceAdd, Nat.reduceSub, Array.replicate_succ, Array.replicate_zero, List.push_toArray, List.append_toArray, List.nil_append, List.cons_append]
  gi_wp2
  gi_loopw [3] (fun c wr => ∃ (i : Nat), i ≤ n ∧ c = .int .i64 ((n : Int) - 1 - i) ∧ Hid (J (xs.take i) wr)) (fun c _ => (intOf c + 1).toNat)
  case atStart => exact ⟨0, Nat.zero_le _, by go_num, H0⟩
  case round =>
    rename World => wo
    obtain ⟨i, hi, rfl, HJ⟩ := hrel
    by_cases hil : i < n
    · obtain ⟨c1, ab, cb, he, hr⟩ := HC.out _ _ HJ.out
      cases he
      obtain ⟨b, o, rfl, hb, hrow⟩ := hr (by omega)
      have hr1 := hrow (n - 1 - i) (by omega)
      change wo.cell? _ = some (.int .i64 ((xs.getD (n - 1 - (n - 1 - i)) 0 : Nat) : Int)) at hr1
      have hix : n - 1 - (n - 1 - i) = i := by omega
      have hli : i < xs.length := by omega
      rw [hix, List.getD_eq_getElem?_getD, List.getElem?_eq_getElem hli, Option.getD_some] at hr1
      have hxt : xs.take i ++ [xs[i]] = xs.take (i + 1) := by rw [List.take_add_one, List.getElem?_eq_getElem hli]; rfl
      have hpx : xs.take i ++ [xs[i]] <+: xs := by rw [hxt]; exact List.take_prefix _ _
      have hlt : (xs.take i).length = i := by rw [List.length_take]; omega
      have hnat : ((n : Int) - 1 - i) = ((n - 1 - i : Nat) : Int) := by omega
      have hpos : (0 : Int) ≤ ((n - 1 - i : Nat) : Int) := by omega
      have hps : ((n - 1 - i : Nat) : Int) < n := by omega
      obtain ⟨fn, tmps, assign, body, hy, hR⟩ := HY.out (xs.take i) xs[i] wo HJ.out hpx
      rw [hlt, hnat] at hy
      rw [hxt] at hR
      rw [hnat]
      generalize hm : n - 1 - i = m at *
      generalize xs[i] = x at *
      clear hrow hr hpx hxt
      gi_wp2
      refine hR.mono ?_
      rintro e w3 ⟨rfl, hj3⟩
      have HJ3 := hide hj3
      clear hy hR hj3
      gi_wp2
      exact ⟨⟨i + 1, by omega, by go_num, HJ3⟩, by simp [intOf]⟩
    · obtain rfl : i = n := by omega
      have HJ2 := hide (show J xs wo by have := HJ.out; rwa [List.take_of_length_le (by omega)] at this)
      have hne : ¬ ((i : Int) - 1 - i ≥ 0) := by omega
      clear HJ
      gi_wp2
      refine bodyPost_end (results_none rfl _ _ _) rfl ?_
      exact ⟨⟨_, rfl⟩, HJ2.out⟩
end Go.Proofs.Ytkfnfgencaplfaa

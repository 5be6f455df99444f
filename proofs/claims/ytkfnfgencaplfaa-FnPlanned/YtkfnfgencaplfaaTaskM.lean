/-
  Tasks in memory; small tests of both texts; the law's helpers on lists of tasks, first part: how much is left, a copy in new memory.
-/
import Derived.Test.YtkfnfgencaplfaaAnsC
import Derived.WalkSmall
namespace Go.Proofs.Ytkfnfgencaplfaa
open Go.RowKit M
open Clk (upd upd_same upd_other)
open Go.Sort (grow)
namespace M
/-- A task: how long, how many it needs, which. -/
structure Tk where
  long : Int
  nn : Nat
  fn : Nat → Int
theorem ret_bool {a b : Bool} (h : a = b) : Ending.returned (.bool a) = .returned (.bool b) := by rw [h]
/-- A slice of tasks that is read. -/
def TasksOf (w : World) (v : Value) (k : Nat) (ts : Nat → Tk) : Prop :=
  ∃ a cap, v = .slice a k cap ∧ (0 < k → ∃ b off, a = some ⟨b, off, none⟩ ∧ b < w.heap.size ∧ ∀ i, i < k → ∃ y, w.cell? ⟨b, off + i * 2, none⟩ = some (.int .i64 (ts i).long) ∧ w.cell? ⟨b, off + i * 2 + 1, none⟩ = some y ∧ IntsOf w y (ts i).nn (ts i).fn)
theorem TasksOf.below {w w' : World} {v : Value} {k : Nat} {ts : Nat → Tk} (h : TasksOf w v k ts) (hb : Below w.heap.size w w') : TasksOf w' v k ts := by
  obtain ⟨a, cap, hv, hr⟩ := h
  refine ⟨a, cap, hv, fun hn => ?_⟩
  obtain ⟨b, off, ha, hlt, hrow⟩ := hr hn
  refine ⟨b, off, ha, Nat.lt_of_lt_of_le hlt hb.size, fun i hi => ?_⟩
  obtain ⟨y, h1, h2, h3⟩ := hrow i hi
  exact ⟨y, (hb.cell (p := ⟨b, off + i * 2, none⟩) hlt).trans h1, (hb.cell (p := ⟨b, off + i * 2 + 1, none⟩) hlt).trans h2, h3.below hb⟩
theorem TasksOf.form {w : World} {v : Value} {k : Nat} {ts : Nat → Tk} (h : TasksOf w v k ts) : ∃ a cap, v = .slice a k cap := by
  obtain ⟨a, cap, hv, _⟩ := h; exact ⟨a, cap, hv⟩
def Short (k : Nat) (ts : Nat → Tk) : Prop := k ≤ 1048576 ∧ ∀ i, i < k → (ts i).nn ≤ 1048576
def tot (ts : Nat → Tk) : Nat → Nat
  | 0 => 0
  | i + 1 => tot ts i + (ts i).nn
theorem tot_mono (ts : Nat → Tk) {i : Nat} : ∀ k, i ≤ k → tot ts i ≤ tot ts k
  | 0, h => by obtain rfl : i = 0 := by omega
               exact Nat.le_refl _
  | k + 1, h => by
    by_cases e : i = k + 1
    · subst e; exact Nat.le_refl _
    · have := tot_mono ts k (show i ≤ k by omega); simp only [tot]; omega
def Small (k : Nat) (ts : Nat → Tk) : Prop := k + tot ts k ≤ 1048576
theorem Small.short {k : Nat} {ts : Nat → Tk} (h : Small k ts) : Short k ts := by
  unfold Small at h
  refine ⟨by omega, fun i hi => ?_⟩
  have := tot_mono ts (i := i + 1) k hi
  simp only [tot] at this
  omega
def Lens (k : Nat) (ts : Nat → Tk) : Prop := k ≤ maxLen ∧ ∀ i, i < k → (ts i).nn ≤ maxLen
abbrev sl (b n : Nat) : Value := .slice (some ⟨b, 0, none⟩) n n
def p2 (x y : Value) : Nat → Value := fun i => if i = 0 then x else y
theorem Blk.pair {w : World} {g : Nat} {x y : Value} {t : TypeId} (h : Blk w g 2 (p2 x y) t) : w.cell? ⟨g, 0, none⟩ = some x ∧ w.cell? ⟨g, 1, none⟩ = some y ∧ w.frozen? ⟨g, 0, none⟩ = false ∧ w.frozen? ⟨g, 1, none⟩ = false :=
  ⟨h.cell (show 0 < 2 by omega), h.cell (show 1 < 2 by omega), h.thaw 0, h.thaw 1⟩
theorem Blk.set1 {w : World} {g : Nat} {x y : Value} {t : TypeId} (h : Blk w g 2 (p2 x y) t) (z : Value) : Blk (w.setCell ⟨g, 1, none⟩ z) g 2 (p2 x z) t :=
  (h.set 1 z).ext fun i hi => by match i, hi with
                                | 0, _ => rfl
                                | 1, _ => rfl
theorem three (w : World) (x1 y1 x2 y2 x3 y3 : Value) (t1 t2 t3 : TypeId) : ∀ W, W = ((w.alloc (.cells #[x1, y1] t1)).alloc (.cells #[x2, y2] t2)).alloc (.cells #[x3, y3] t3) →
    Blk W w.heap.size 2 (p2 x1 y1) t1 ∧ Blk W (w.heap.size + 1) 2 (p2 x2 y2) t2 ∧ Blk W (w.heap.size + 2) 2 (p2 x3 y3) t3 ∧ Below w.heap.size w W ∧ W.heap.size = w.heap.size + 3 := by
  rintro W rfl
  refine ⟨((Blk.fresh w _ 2 (p2 x1 y1) t1 rfl).alloc _).alloc _, ?_, ?_, (((Below.refl _ _).alloc (Nat.le_refl _) _).alloc (by simp) _).alloc (by simp; omega) _, by simp⟩
  · have := (Blk.fresh (w.alloc (.cells #[x1, y1] t1)) #[x2, y2] 2 (p2 x2 y2) t2 rfl).alloc (.cells #[x3, y3] t3)
    rw [World.size_alloc] at this; exact this
  · have := Blk.fresh ((w.alloc (.cells #[x1, y1] t1)).alloc (.cells #[x2, y2] t2)) #[x3, y3] 2 (p2 x3 y3) t3 rfl
    rw [World.size_alloc, World.size_alloc] at this; exact this
theorem two (w : World) (x1 y1 x2 y2 : Value) (t1 t2 : TypeId) : ∀ W, W = (w.alloc (.cells #[x1, y1] t1)).alloc (.cells #[x2, y2] t2) →
    Blk W w.heap.size 2 (p2 x1 y1) t1 ∧ Blk W (w.heap.size + 1) 2 (p2 x2 y2) t2 ∧ Below w.heap.size w W ∧ W.heap.size = w.heap.size + 2 := by
  rintro W rfl
  refine ⟨(Blk.fresh w _ 2 (p2 x1 y1) t1 rfl).alloc _, ?_, ((Below.refl _ _).alloc (Nat.le_refl _) _).alloc (by simp) _, by simp⟩
  have := Blk.fresh (w.alloc (.cells #[x1, y1] t1)) #[x2, y2] 2 (p2 x2 y2) t2 rfl
  rw [World.size_alloc] at this; exact this
/-- Only blocks from lo to hi may have turned. -/
structure Rng (lo hi : Nat) (w w' : World) : Prop where
  os : w'.os = w.os
  tape : w'.tape = w.tape
  output : w'.output = w.output
  size : w'.heap.size = w.heap.size
  block : ∀ k, k < lo ∨ hi ≤ k → w'.heap[k]? = w.heap[k]?
theorem Rng.refl (lo hi : Nat) (w : World) : Rng lo hi w w := ⟨rfl, rfl, rfl, rfl, fun _ _ => rfl⟩
theorem Rng.trans {lo hi : Nat} {a b c : World} (h : Rng lo hi a b) (h2 : Rng lo hi b c) : Rng lo hi a c :=
  ⟨h2.os.trans h.os, h2.tape.trans h.tape, h2.output.trans h.output, h2.size.trans h.size, fun k hk => (h2.block k hk).trans (h.block k hk)⟩
theorem Only.rng {g lo hi : Nat} {w w' : World} (h : Only g w w') (h1 : lo ≤ g) (h2 : g < hi) : Rng lo hi w w' :=
  ⟨h.os, h.tape, h.output, h.size, fun k hk => h.block k (by omega)⟩
theorem Rng.below {lo hi B : Nat} {w w' : World} (h : Rng lo hi w w') (hB : B ≤ lo) : Below B w w' :=
  ⟨h.os, h.tape, h.output, by rw [h.size]; exact Nat.le_refl _, fun k hk => h.block k (by omega)⟩
theorem Rng.blk {lo hi : Nat} {w w' : World} (h : Rng lo hi w w') {g n : Nat} {f : Nat → Value} {t : TypeId} (hb : Blk w g n f t) (hg : g < lo ∨ hi ≤ g) : Blk w' g n f t := by
  unfold Blk; rw [h.block g hg]; exact hb
theorem AnsC.rng {w w' : World} {B n lo hi : Nat} {r : Value} {f : Nat → Int} (h : AnsC w B r n f) (ho : Rng lo hi w w') (hB : hi ≤ B) : AnsC w' B r n f := by
  rcases h with h | ⟨b, cap, hr, hBb, hc, k, hb, hk⟩
  · exact .inl h
  · exact .inr ⟨b, cap, hr, hBb, hc, k, ho.blk hb (.inr (by omega)), hk⟩
/-- Tasks in memory of their own, at block g and behind it; j of them are laid. -/
def TB (w : World) (g k j : Nat) (ts : Nat → Tk) (X : Nat → Value) : Prop :=
  Blk w g (k * 2) X 56 ∧ ∀ i, i < j → ∃ b, X (i * 2) = .int .i64 (ts i).long ∧ X (i * 2 + 1) = sl b (ts i).nn ∧ g < b ∧ Blk w b (ts i).nn (iv (ts i).fn) 3
theorem TB.below {w w' : World} {g k j : Nat} {ts : Nat → Tk} {X : Nat → Value} (h : TB w g k j ts X) (hb : Below w.heap.size w w') : TB w' g k j ts X := by
  refine ⟨h.1.down hb, fun i hi => ?_⟩
  obtain ⟨b, h1, h2, h3, h4⟩ := h.2 i hi
  exact ⟨b, h1, h2, h3, h4.down hb⟩
theorem TB.tasks {w : World} {g k cap : Nat} {ts : Nat → Tk} {X : Nat → Value} (h : TB w g k k ts X) : TasksOf w (.slice (some ⟨g, 0, none⟩) k cap) k ts := by
  refine ⟨_, _, rfl, fun _ => ⟨g, 0, rfl, h.1.lt, fun i hi => ?_⟩⟩
  obtain ⟨b, h1, h2, h3, h4⟩ := h.2 i hi
  refine ⟨_, ?_, ?_, h4.ints (cap := (ts i).nn)⟩
  · rw [Nat.zero_add]; exact (h.1.cell (by omega)).trans (by rw [h1])
  · rw [Nat.zero_add]; exact (h.1.cell (by omega)).trans (by rw [h2])
theorem TB.grow {w : World} {g k j : Nat} {ts : Nat → Tk} {X : Nat → Value} (h : TB w g k j ts X) {b : Nat} (h1 : g < b) (e : Blk w b (ts j).nn (iv (ts j).fn) 3) :
    TB ((w.setCell ⟨g, j * 2, none⟩ (.int .i64 (ts j).long)).setCell ⟨g, j * 2 + 1, none⟩ (sl b (ts j).nn)) g k (j + 1) ts (upd (upd X (j * 2) (.int .i64 (ts j).long)) (j * 2 + 1) (sl b (ts j).nn)) := by
  refine ⟨(h.1.set _ _).set _ _, fun i hi => ?_⟩
  rcases (show i < j ∨ i = j by omega) with hij | hij
  · obtain ⟨c, q1, q2, q3, q4⟩ := h.2 i hij
    refine ⟨c, ?_, ?_, q3, (q4.set_other (by omega) _ _).set_other (by omega) _ _⟩
    · rw [upd_other _ _ _ _ (by omega), upd_other _ _ _ _ (by omega)]; exact q1
    · rw [upd_other _ _ _ _ (by omega), upd_other _ _ _ _ (by omega)]; exact q2
  · subst hij
    refine ⟨b, ?_, ?_, h1, (e.set_other (by omega) _ _).set_other (by omega) _ _⟩
    · rw [upd_other _ _ _ _ (by omega), upd_same]
    · rw [upd_same]
/-- Tasks that may be written, at block g and blocks behind it, below hi. -/
def MB (w : World) (g k hi : Nat) (ts : Nat → Tk) (X : Nat → Value) : Prop :=
  g < hi ∧ Blk w g (k * 2) X 56 ∧ ∀ i, i < k → ∃ b f x, X (i * 2) = .int .i64 x ∧ X (i * 2 + 1) = sl b (ts i).nn ∧ g < b ∧ b < hi ∧ Blk w b (ts i).nn (iv f) 3
theorem TB.mb {w : World} {g k : Nat} {ts : Nat → Tk} {X : Nat → Value} (h : TB w g k k ts X) : MB w g k w.heap.size ts X := by
  refine ⟨h.1.lt, h.1, fun i hi => ?_⟩
  obtain ⟨b, h1, h2, h3, h4⟩ := h.2 i hi
  exact ⟨b, _, _, h1, h2, h3, h4.lt, h4⟩
theorem MB.below {w w' : World} {g k hi : Nat} {ts : Nat → Tk} {X : Nat → Value} (h : MB w g k hi ts X) (hb : Below w.heap.size w w') : MB w' g k hi ts X := by
  refine ⟨h.1, h.2.1.down hb, fun i hi => ?_⟩
  obtain ⟨b, f, x, h1, h2, h3, h4, h5⟩ := h.2.2 i hi
  exact ⟨b, f, x, h1, h2, h3, h4, h5.down hb⟩
theorem Blk.size_eq {w : World} {g n n' : Nat} {f f' : Nat → Value} {t t' : TypeId} (h : Blk w g n f t) (h' : Blk w g n' f' t') : n = n' := by
  unfold Blk at h h'
  rw [h] at h'
  simp only [Option.some.injEq, Obj.cells.injEq] at h'
  have := congrArg Array.size h'.1
  rwa [cf_size, cf_size] at this
theorem blk_kept {w w' : World} {b b1 n n1 : Nat} {f f1 f1' : Nat → Int} {t : TypeId} (ho : Only b1 w w') (h1 : Blk w b1 n1 (iv f1) t) (h1' : Blk w' b1 n1 (iv f1') t) (h : Blk w b n (iv f) t) : ∃ f', Blk w' b n (iv f') t := by
  by_cases e : b = b1
  · subst e; obtain rfl := h.size_eq h1; exact ⟨_, h1'⟩
  · exact ⟨_, ho.blk h e⟩
theorem MB.only {w w' : World} {g k hi b n : Nat} {ts : Nat → Tk} {X : Nat → Value} {f f' : Nat → Int} (h : MB w g k hi ts X) (ho : Only b w w') (hb : g < b) (h1 : Blk w b n (iv f) 3) (h1' : Blk w' b n (iv f') 3) : MB w' g k hi ts X := by
  refine ⟨h.1, ho.blk h.2.1 (by omega), fun i hi => ?_⟩
  obtain ⟨c, f1, x, e1, e2, e3, e4, e5⟩ := h.2.2 i hi
  obtain ⟨f1', q1⟩ := blk_kept ho h1 h1' e5
  exact ⟨c, f1', x, e1, e2, e3, e4, q1⟩
theorem MB.set {w : World} {g k hi : Nat} {ts : Nat → Tk} {X : Nat → Value} (h : MB w g k hi ts X) (j : Nat) (x : Int) : MB (w.setCell ⟨g, j * 2, none⟩ (.int .i64 x)) g k hi ts (upd X (j * 2) (.int .i64 x)) := by
  refine ⟨h.1, h.2.1.set _ _, fun i hi => ?_⟩
  obtain ⟨c, f1, y, e1, e2, e3, e4, e5⟩ := h.2.2 i hi
  have e6 : upd X (j * 2) (.int .i64 x) (i * 2 + 1) = sl c (ts i).nn := by rw [upd_other _ _ _ _ (by omega)]; exact e2
  by_cases he : i = j
  · subst he
    exact ⟨c, f1, x, upd_same _ _ _, e6, e3, e4, e5.set_other (by omega) _ _⟩
  · exact ⟨c, f1, y, by rw [upd_other _ _ _ _ (by omega)]; exact e1, e6, e3, e4, e5.set_other (by omega) _ _⟩
def tz (i : Nat) : Value := if i % 2 = 0 then .int .i64 0 else .slice none 0 0
theorem madeT (n : Nat) : madeCells #[(.int .i64 0 : Value), .slice none 0 0] (n * 2) = cf (n * 2) tz := by
  apply Array.ext_getElem?
  intro j
  by_cases hj : j < n * 2
  · rw [cf_get _ hj]
    have h1 : (madeCells #[(.int .i64 0 : Value), .slice none 0 0] (n * 2))[j]? = some (#[(.int .i64 0 : Value), .slice none 0 0][j % 2]!) := by simp [madeCells, hj]
    rw [h1]
    unfold tz
    rcases (show j % 2 = 0 ∨ j % 2 = 1 by omega) with h | h
    · rw [h]; rfl
    · rw [h]; rfl
  · rw [Array.getElem?_eq_none (by rw [size_madeCells]; omega), Array.getElem?_eq_none (by rw [cf_size]; omega)]
end M
theorem info_task : (Try.prog.info? 56).map (fun i => (i.zero, i.size, i.bytes)) = some (some (.agg #[.int .i64 0, .slice none 0 0]), 2, 32) := by kernel_rfl
theorem make_tasks (n : Nat) (h : n ≤ 1048576) (w : World) : (Instr.makeSlice 25 (.int .i64 (n : Int)) (.int .i64 (n : Int))).run Try.prog w = .ok (.slice (some ⟨w.heap.size, 0, none⟩) n n) (w.alloc (.cells (cf (n * 2) tz) 56)) := by
  obtain ⟨i, hi, hz0, hz1, hz2⟩ := info_parts info_task
  have hr := run_make (P := Try.prog) w 25 56 i _ Try.underlying25 hi hz0 .i64 .i64 (n : Int) (n : Int) (by omega) (Int.le_refl _) (by rw [hz2]; omega) (by omega)
  rw [hr, hz1]
  simp only [Int.toNat_natCast]
  rw [← madeT]
  rfl
theorem sz_ints (a : Option Addr) (n cap : Nat) (left : Int) (w : World) (hn : n ≤ maxLen) (h0 : 0 ≤ left) (h1 : left ≤ 1048576) :
    Calls Try.prog 79 #[.slice a n cap, .int .i64 left] w fun e w' => (∃ r : Int, e = .returned (.int .i64 r) ∧ ((r = -1) ∨ (r = left - n ∧ 0 ≤ r))) ∧ w' = w := by
  unfold maxLen at hn
  by_cases h : left - (n : Int) < 0
  · go_enter Try.func79, Try.ntmps79
    go_wp2
    go_ret
    exact ⟨⟨_, rfl, .inl rfl⟩, rfl⟩
  · go_enter Try.func79, Try.ntmps79
    go_wp2
    go_ret
    exact ⟨⟨_, rfl, .inr ⟨rfl, by omega⟩⟩, rfl⟩
set_option maxHeartbeats 1000000 in
theorem sz_task (x : Int) (a1 : Option Addr) (n1 c1 : Nat) (left : Int) (w : World) (hn1 : n1 ≤ maxLen) (h0 : 0 ≤ left) (h1 : left ≤ 1048576) :
    Calls Try.prog 51 #[.agg #[.int .i64 x, .slice a1 n1 c1], .int .i64 left] w fun e w' => (∃ r : Int, e = .returned (.int .i64 r) ∧ ((r = -1) ∨ (r = left - n1 ∧ 0 ≤ r))) ∧ Below w.heap.size w w' := by
  have HN1 := hide hn1
  clear hn1
  go_enter Try.func51, Try.ntmps51
  go_wp2_with fail
  refine (sz_ints _ _ _ _ _ HN1.out h0 h1).mono ?_
  rintro e w1 ⟨⟨r, rfl, hr⟩, rfl⟩
  rcases hr with hr | ⟨hr, hr0⟩
  · have hrn : r < 0 := by omega
    clear hr
    go_wp2
    go_ret
    exact ⟨⟨_, rfl, .inl rfl⟩, (Below.refl _ _).alloc (Nat.le_refl _) _⟩
  · have hrn : ¬ r < 0 := by omega
    have HR := hide hr
    clear hr
    go_wp2
    go_ret
    exact ⟨⟨_, rfl, .inr ⟨HR.out, by omega⟩⟩, (Below.refl _ _).alloc (Nat.le_refl _) _⟩
set_option maxHeartbeats 2000000 in
theorem sz_tasks (v : Value) (k : Nat) (ts : Nat → Tk) (w : World) (hv : TasksOf w v k ts) (hl : Lens k ts) :
    Calls Try.prog 15 #[v, .int .i64 1048576] w fun e w' => (∃ r : Int, e = .returned (.int .i64 r) ∧ ((r = -1) ∨ (0 ≤ r ∧ Small k ts))) ∧ Below w.heap.size w w' := by
  obtain ⟨a, cap, rfl, hr⟩ := hv
  have HR := hide hr
  have HL := hide hl.2
  have hk := hl.1
  unfold maxLen at hk
  clear hr hl
  by_cases hs : 1048576 - (k : Int) < 0
  · clear HR HL
    go_enter Try.func15, Try.ntmps15
    go_wp2
    go_ret
    exact ⟨⟨_, rfl, .inl rfl⟩, Below.refl _ _⟩
  · go_enter Try.func15, Try.ntmps15
    go_wp2
    go_loopw [1, 5] (fun x i wr => ∃ (j : Nat) (r : Int), j ≤ k ∧ i = .int .i64 j ∧ x = .int .i64 r ∧ Hid (r = 1048576 - (k : Int) - (tot ts j : Nat)) ∧ 0 ≤ r ∧ r ≤ 1048576 ∧ Below w.heap.size w wr) (fun _ i _ => k - (intOf i).toNat)
    case atStart => exact ⟨0, _, Nat.zero_le _, rfl, rfl, hide (by simp [tot]), by omega, by omega, Below.refl _ _⟩
    case round =>
      obtain ⟨j, r, hj, rfl, rfl, HT, hr0, hr1, hbw⟩ := hrel
      by_cases hlt : j < k
      · obtain ⟨b, off, rfl, hb, hrow⟩ := HR.out (by omega)
        obtain ⟨y, q1, q2, i1⟩ := hrow j hlt
        obtain ⟨a1, c1, rfl⟩ := i1.form
        have c0 := (hbw.cell (p := ⟨b, off + j * 2, none⟩) hb).trans q1
        have c1 := (hbw.cell (p := ⟨b, off + j * 2 + 1, none⟩) hb).trans q2
        have HLj := hide (HL.out j hlt)
        clear hrow HR q1 q2 i1 HL
        go_wp2_with fail
        refine (sz_task _ _ _ _ _ _ HLj.out hr0 hr1).mono ?_
        rintro e w1 ⟨⟨r2, rfl, hr2⟩, hb1⟩
        have hbw1 := hbw.trans (hb1.mono hbw.size)
        rcases hr2 with hr2 | ⟨hr2, hr20⟩
        · have hrn2 : r2 < 0 := by omega
          clear hr2 hb1 c0 c1
          go_wp2
          go_ret
          exact ⟨⟨_, rfl, .inl rfl⟩, hbw1⟩
        · have hrn2 : ¬ r2 < 0 := by omega
          have HT2 := hide (show r2 = 1048576 - (k : Int) - (tot ts (j + 1) : Nat) by have := HT.out; simp only [tot]; omega)
          have hr21 : r2 ≤ 1048576 := by omega
          clear hr2 hb1 c0 c1 HT HLj
          go_wp2
          exact ⟨⟨j + 1, r2, by omega, by go_num, rfl, HT2, hr20, hr21, hbw1⟩, by simp [intOf]; omega⟩
      · obtain rfl : j = k := by omega
        clear HR HL
        go_wp2
        go_ret
        exact ⟨⟨_, rfl, .inr ⟨hr0, by have := HT.out; unfold Small; omega⟩⟩, hbw⟩
set_option maxHeartbeats 2000000 in
theorem to_task (x : Int) (y : Value) (n : Nat) (f : Nat → Int) (w : World) (hy : IntsOf w y n f) (h1 : n ≤ 1048576) :
    Calls Try.prog 56 #[.agg #[.int .i64 x, y]] w fun e w' => (∃ b, e = .returned (.agg #[.int .i64 x, sl b n]) ∧ w.heap.size ≤ b ∧ Blk w' b n (iv f) 3) ∧ Below w.heap.size w w' := by
  have HY := hide hy
  obtain ⟨a1, c1, rfl⟩ := hy.form
  clear hy
  go_enter Try.func56, Try.ntmps56
  go_wp2_with fail
  generalize hW : ((w.alloc _).alloc _).alloc _ = W
  obtain ⟨m0, m1, m2, hbW, hsW⟩ := three w _ _ _ _ _ _ _ _ _ W hW.symm
  clear hW
  refine (to_ints _ n f _ (HY.out.below hbW) h1).mono ?_
  rintro e w1 ⟨⟨rfl, hX⟩, hb1⟩
  have hbw1 := hbW.trans (hb1.mono (by omega))
  have n0 := m0.down hb1
  have n1 := m1.down hb1
  have n2 := m2.down hb1
  have HX := hide hX
  obtain ⟨d0, d1, -, -⟩ := n0.pair
  obtain ⟨e0, e1, e2, e3⟩ := n1.pair
  obtain ⟨r0, r1, r2, r3⟩ := n2.pair
  have HW := hide hsW
  clear hb1 m0 m1 m2 n0 n1 n2 hX HY hbW hsW
  go_wp2
  refine bodyPost_ret (v := .agg #[.int .i64 x, sl W.heap.size n]) (by simp [results, Try.results56, go_sem, e0, e1]) rfl ⟨⟨W.heap.size, rfl, by have := HW.out; omega, ?_⟩, ?_⟩
  · have hh := HW.out
    exact ((Blk.set_other HX.out (by omega) _ _).set_other (by omega) _ _).set_other (by omega) _ _
  · exact ((hbw1.setCell (by simp; omega) _).setCell (by simp) _).setCell (by simp) _
set_option maxHeartbeats 2000000 in
theorem to_tasks (v : Value) (k : Nat) (ts : Nat → Tk) (w : World) (hv : TasksOf w v k ts) (hs : Short k ts) :
    Calls Try.prog 17 #[v] w fun e w' => (e = .returned (sl w.heap.size k) ∧ ∃ X, TB w' w.heap.size k k ts X) ∧ Below w.heap.size w w' := by
  obtain ⟨a, cap, rfl, hr⟩ := hv
  have HR := hide hr
  have HS := hide hs.2
  have hk := hs.1
  clear hr hs
  have hmk := make_tasks k hk
  go_enter Try.func17, Try.ntmps17
  go_wp2
  go_loopw [4] (fun i wr => ∃ (j : Nat) (X : Nat → Value), j ≤ k ∧ i = .int .i64 j ∧ Hid (TB wr w.heap.size k j ts X) ∧ Hid (∀ q, j * 2 ≤ q → X q = tz q) ∧ Below w.heap.size w wr) (fun i _ => k - (intOf i).toNat)
  case atStart => exact ⟨0, _, Nat.zero_le _, rfl, hide ⟨Blk.new w (k * 2) _ _, fun i h => absurd h (by omega)⟩, hide (fun _ _ => rfl), (Below.refl _ _).alloc (Nat.le_refl _) _⟩
  case round =>
    obtain ⟨j, X, hj, rfl, HA, HQ, hbw⟩ := hrel
    by_cases hlt : j < k
    · obtain ⟨b, off, rfl, hb, hrow⟩ := HR.out (by omega)
      obtain ⟨y, q1, q2, i1⟩ := hrow j hlt
      have c0 := (hbw.cell (p := ⟨b, off + j * 2, none⟩) hb).trans q1
      have c1 := (hbw.cell (p := ⟨b, off + j * 2 + 1, none⟩) hb).trans q2
      have I1 := hide (i1.below hbw)
      have HSj := hide (HS.out j hlt)
      clear hrow HR q1 q2 i1
      have hA0 := HA.out.1.lt
      go_wp2_with fail
      refine (to_task _ _ (ts j).nn (ts j).fn _ I1.out HSj.out).mono ?_
      rintro e w1 ⟨⟨b1, rfl, h1, hB1⟩, hb1⟩
      have hbw1 := hbw.trans (hb1.mono hbw.size)
      have hA1 := HA.out.below hb1
      have d0 := hA1.1.cell (show j * 2 < k * 2 by omega)
      rw [HQ.out _ (Nat.le_refl _), show tz (j * 2) = .int .i64 0 by unfold tz; rw [if_pos (by omega)]] at d0
      have d1 := hA1.1.cell (show j * 2 + 1 < k * 2 by omega)
      rw [HQ.out _ (by omega), show tz (j * 2 + 1) = .slice none 0 0 by unfold tz; rw [if_neg (by omega)]] at d1
      have f0 := hA1.1.thaw (j * 2)
      have f1 := hA1.1.thaw (j * 2 + 1)
      have HA2 := hide (hA1.grow (b := b1) (by omega) hB1)
      have HQ2 := hide (show ∀ q, (j + 1) * 2 ≤ q → upd (upd X (j * 2) (.int .i64 (ts j).long)) (j * 2 + 1) (sl b1 (ts j).nn) q = tz q from fun q hq => by
        rw [upd_other _ _ _ _ (by omega), upd_other _ _ _ _ (by omega)]; exact HQ.out q (by omega))
      have hbw2 := (hbw1.setCell (p := ⟨w.heap.size, j * 2, none⟩) (Nat.le_refl _) (.int .i64 (ts j).long)).setCell (p := ⟨w.heap.size, j * 2 + 1, none⟩) (Nat.le_refl _) (sl b1 (ts j).nn)
      clear HA hA1 hb1 c0 c1 I1 hB1 HSj HQ
      go_wp2
      exact ⟨⟨j + 1, _, by omega, by go_num, HA2, HQ2, hbw2⟩, by simp [intOf]; omega⟩
    · obtain rfl : j = k := by omega
      clear HR HS
      go_wp2
      go_ret
      exact ⟨⟨rfl, X, HA.out⟩, hbw⟩
end Go.Proofs.Ytkfnfgencaplfaa

/-
  The law's helpers on nets: how much is left, a copy in new memory, two that are told alike, marks.
-/
import Derived.Test.YthilapalgakhhaaNetBase
import Derived.Test.YthilapalgakhhaaAns
namespace Go.Proofs.Ythilapalgakhhaa
open Go.RowKit M
open Clk (upd upd_same upd_other)
open Go.Sort (grow)
namespace M
def tot (st : Nat → Sp) : Nat → Nat
  | 0 => 0
  | i + 1 => tot st i + ((st i).ni + (st i).no)
theorem tot_mono (st : Nat → Sp) {i : Nat} : ∀ k, i ≤ k → tot st i ≤ tot st k
  | 0, h => by obtain rfl : i = 0 := by omega
               exact Nat.le_refl _
  | k + 1, h => by
    by_cases e : i = k + 1
    · subst e; exact Nat.le_refl _
    · have := tot_mono st k (show i ≤ k by omega); simp only [tot]; omega
def Small (k : Nat) (st : Nat → Sp) : Prop := k + tot st k ≤ 1048576
theorem Small.short {k : Nat} {st : Nat → Sp} (h : Small k st) : Short k st := by
  unfold Small at h
  refine ⟨by omega, fun i hi => ?_⟩
  have := tot_mono st (i := i + 1) k hi
  simp only [tot] at this
  omega
/-- A net that came in: every length is one of Go's. -/
def Lens (k : Nat) (st : Nat → Sp) : Prop := k ≤ maxLen ∧ ∀ i, i < k → (st i).ni ≤ maxLen ∧ (st i).no ≤ maxLen
theorem ret_i {a b : Int} (h : a = b) : Ending.returned (.int .i64 a) = .returned (.int .i64 b) := by rw [h]
abbrev sl (b n : Nat) : Value := .slice (some ⟨b, 0, none⟩) n n
/-- A net's steps in memory of its own, at block g and behind lo. -/
def SB (w : World) (g k j lo : Nat) (st : Nat → Sp) (X : Nat → Value) : Prop :=
  Blk w g (k * 2) X 60 ∧ ∀ i, i < j → ∃ b1 b2, X (i * 2) = sl b1 (st i).ni ∧ X (i * 2 + 1) = sl b2 (st i).no ∧ lo ≤ b1 ∧ lo ≤ b2 ∧ Blk w b1 (st i).ni (iv (st i).fi) 3 ∧ Blk w b2 (st i).no (iv (st i).fo) 3
theorem SB.below {w w' : World} {g k j lo : Nat} {st : Nat → Sp} {X : Nat → Value} (h : SB w g k j lo st X) (hb : Below w.heap.size w w') : SB w' g k j lo st X := by
  refine ⟨h.1.down hb, fun i hi => ?_⟩
  obtain ⟨b1, b2, h1, h2, h3, h4, h5, h6⟩ := h.2 i hi
  exact ⟨b1, b2, h1, h2, h3, h4, h5.down hb, h6.down hb⟩
theorem SB.steps {w : World} {g k lo cap : Nat} {st : Nat → Sp} {X : Nat → Value} (h : SB w g k k lo st X) : StepsOf w (.slice (some ⟨g, 0, none⟩) k cap) k st := by
  refine ⟨_, _, rfl, fun _ => ⟨g, 0, rfl, h.1.lt, fun i hi => ?_⟩⟩
  obtain ⟨b1, b2, h1, h2, h3, h4, h5, h6⟩ := h.2 i hi
  refine ⟨_, _, ?_, ?_, h5.ints (cap := (st i).ni), h6.ints (cap := (st i).no)⟩
  · rw [Nat.zero_add]; exact (h.1.cell (by omega)).trans (by rw [h1])
  · rw [Nat.zero_add]; exact (h.1.cell (by omega)).trans (by rw [h2])
/-- Only blocks from lo to hi may have turned. -/
structure Rng (lo hi : Nat) (w w' : World) : Prop where
  os : w'.os = w.os
  tape : w'.tape = w.tape
  output : w'.output = w.output
  size : w'.heap.size = w.heap.size
  block : ∀ k, k < lo ∨ hi ≤ k → w'.heap[k]? = w.heap[k]?
theorem Rng.refl (lo hi : Nat) (w : World) : Rng lo hi w w := ⟨rfl, rfl, rfl, rfl, fun _ _ => rfl⟩
theorem Rng.trans {lo hi : Nat} {a b c : World} (h : Rng lo hi a b) (h2 : Rng lo hi b c) : Rng lo hi a c :=
  ⟨h2.os.trans h.os, h2.tape.trans h.tape, h2.output.trans h.output, h2.size.trans h.size, fun k hk => (h2.block k hk).trans (h.block k hk)⟩
theorem Only.rng {g lo hi : Nat} {w w' : World} (h : Only g w w') (h1 : lo ≤ g) (h2 : g < hi) : Rng lo hi w w' :=
  ⟨h.os, h.tape, h.output, h.size, fun k hk => h.block k (by omega)⟩
theorem Rng.below {lo hi B : Nat} {w w' : World} (h : Rng lo hi w w') (hB : B ≤ lo) : Below B w w' :=
  ⟨h.os, h.tape, h.output, by rw [h.size]; exact Nat.le_refl _, fun k hk => h.block k (by omega)⟩
theorem Rng.blk {lo hi : Nat} {w w' : World} (h : Rng lo hi w w') {g n : Nat} {f : Nat → Value} {t : TypeId} (hb : Blk w g n f t) (hg : g < lo ∨ hi ≤ g) : Blk w' g n f t := by
  unfold Blk; rw [h.block g hg]; exact hb
theorem AnsI.rng {w w' : World} {B n lo hi : Nat} {r : Value} {f : Nat → Int} (h : AnsI w B r n f) (ho : Rng lo hi w w') (hB : hi ≤ B) : AnsI w' B r n f := by
  rcases h with h | ⟨b, cap, hr, hB2, hk⟩
  · exact .inl h
  · exact .inr ⟨b, cap, hr, hB2, ho.blk hk (by omega)⟩
/-- Steps whose lists may be written, at blocks from lo to hi. -/
def MB (w : World) (g k lo hi : Nat) (st : Nat → Sp) (X : Nat → Value) : Prop :=
  g < lo ∧ Blk w g (k * 2) X 60 ∧ ∀ i, i < k → ∃ b1 b2 f1 f2, X (i * 2) = sl b1 (st i).ni ∧ X (i * 2 + 1) = sl b2 (st i).no ∧ (lo ≤ b1 ∧ b1 < hi) ∧ (lo ≤ b2 ∧ b2 < hi) ∧ Blk w b1 (st i).ni (iv f1) 3 ∧ Blk w b2 (st i).no (iv f2) 3
theorem SB.mb {w : World} {g k lo : Nat} {st : Nat → Sp} {X : Nat → Value} (h : SB w g k k lo st X) (hg : g < lo) : MB w g k lo w.heap.size st X := by
  refine ⟨hg, h.1, fun i hi => ?_⟩
  obtain ⟨b1, b2, h1, h2, h3, h4, h5, h6⟩ := h.2 i hi
  exact ⟨b1, b2, _, _, h1, h2, ⟨h3, h5.lt⟩, ⟨h4, h6.lt⟩, h5, h6⟩
theorem MB.below {w w' : World} {g k lo hi : Nat} {st : Nat → Sp} {X : Nat → Value} (h : MB w g k lo hi st X) (hb : Below w.heap.size w w') : MB w' g k lo hi st X := by
  refine ⟨h.1, h.2.1.down hb, fun i hi => ?_⟩
  obtain ⟨b1, b2, f1, f2, h1, h2, h3, h4, h5, h6⟩ := h.2.2 i hi
  exact ⟨b1, b2, f1, f2, h1, h2, h3, h4, h5.down hb, h6.down hb⟩
theorem Blk.size_eq {w : World} {g n n' : Nat} {f f' : Nat → Value} {t t' : TypeId} (h : Blk w g n f t) (h' : Blk w g n' f' t') : n = n' := by
  unfold Blk at h h'
  rw [h] at h'
  simp only [Option.some.injEq, Obj.cells.injEq] at h'
  have := congrArg Array.size h'.1
  rwa [cf_size, cf_size] at this
theorem blk_kept {w w' : World} {b b1 n n1 : Nat} {f f1 f1' : Nat → Int} {t : TypeId} (ho : Only b1 w w') (h1 : Blk w b1 n1 (iv f1) t) (h1' : Blk w' b1 n1 (iv f1') t) (h : Blk w b n (iv f) t) : ∃ f', Blk w' b n (iv f') t := by
  by_cases e : b = b1
  · subst e; obtain rfl := h.size_eq h1; exact ⟨_, h1'⟩
  · exact ⟨_, ho.blk h e⟩
theorem MB.only {w w' : World} {g k lo hi b n : Nat} {st : Nat → Sp} {X : Nat → Value} {f f' : Nat → Int} (h : MB w g k lo hi st X) (ho : Only b w w') (hb : lo ≤ b) (h1 : Blk w b n (iv f) 3) (h1' : Blk w' b n (iv f') 3) : MB w' g k lo hi st X := by
  refine ⟨h.1, ho.blk h.2.1 (by have := h.1; omega), fun i hi => ?_⟩
  obtain ⟨b1, b2, f1, f2, e1, e2, e3, e4, e5, e6⟩ := h.2.2 i hi
  obtain ⟨f1', q1⟩ := blk_kept ho h1 h1' e5
  obtain ⟨f2', q2⟩ := blk_kept ho h1 h1' e6
  exact ⟨b1, b2, f1', f2', e1, e2, e3, e4, q1, q2⟩
theorem made2 (n : Nat) (z : Value) : madeCells #[z, z] (n * 2) = cf (n * 2) (fun _ => z) := by
  apply Array.ext_getElem?
  intro j
  by_cases hj : j < n * 2
  · rw [cf_get _ hj]
    have h1 : (madeCells #[z, z] (n * 2))[j]? = some (#[z, z][j % 2]!) := by simp [madeCells, hj]
    rw [h1]
    rcases (show j % 2 = 0 ∨ j % 2 = 1 by omega) with h | h <;> rw [h] <;> rfl
  · rw [Array.getElem?_eq_none (by rw [size_madeCells]; omega), Array.getElem?_eq_none (by rw [cf_size]; omega)]
end M
theorem sz_ints (a : Option Addr) (n cap : Nat) (left : Int) (w : World) (hn : n ≤ maxLen) (h0 : 0 ≤ left) (h1 : left ≤ 1048576) :
    Calls Try.prog 80 #[.slice a n cap, .int .i64 left] w fun e w' => (∃ r : Int, e = .returned (.int .i64 r) ∧ ((r = -1) ∨ (r = left - n ∧ 0 ≤ r))) ∧ w' = w := by
  unfold maxLen at hn
  by_cases h : left - (n : Int) < 0
  · go_enter Try.func80, Try.ntmps80
    go_wp2
    go_ret
    exact ⟨⟨_, rfl, .inl rfl⟩, rfl⟩
  · go_enter Try.func80, Try.ntmps80
    go_wp2
    go_ret
    exact ⟨⟨_, rfl, .inr ⟨rfl, by omega⟩⟩, rfl⟩
set_option maxHeartbeats 1000000 in
theorem sz_step (a1 a2 : Option Addr) (n1 n2 c1 c2 : Nat) (left : Int) (w : World) (hn1 : n1 ≤ maxLen) (hn2 : n2 ≤ maxLen) (h0 : 0 ≤ left) (h1 : left ≤ 1048576) :
    Calls Try.prog 75 #[.agg #[.slice a1 n1 c1, .slice a2 n2 c2], .int .i64 left] w fun e w' => (∃ r : Int, e = .returned (.int .i64 r) ∧ ((r = -1) ∨ (r = left - n1 - n2 ∧ 0 ≤ r))) ∧ Below w.heap.size w w' := by
  have HN1 := hide hn1
  have HN2 := hide hn2
  clear hn1 hn2
  go_enter Try.func75, Try.ntmps75
  go_wp2_with fail
  refine (sz_ints _ _ _ _ _ HN1.out h0 h1).mono ?_
  rintro e w1 ⟨⟨r, rfl, hr⟩, rfl⟩
  rcases hr with hr | ⟨hr, hr0⟩
  · have hrn : r < 0 := by omega
    clear hr
    go_wp2
    go_ret
    exact ⟨⟨_, rfl, .inl rfl⟩, (Below.refl _ _).alloc (Nat.le_refl _) _⟩
  · have hrn : ¬ r < 0 := by omega
    have hr1 : r ≤ 1048576 := by omega
    have HR := hide hr
    clear hr
    go_wp2_with fail
    refine (sz_ints _ _ _ _ _ HN2.out hr0 hr1).mono ?_
    rintro e w2 ⟨⟨r2, rfl, hr2⟩, rfl⟩
    rcases hr2 with hr2 | ⟨hr2, hr20⟩
    · have hrn2 : r2 < 0 := by omega
      clear hr2
      go_wp2
      go_ret
      exact ⟨⟨_, rfl, .inl rfl⟩, (Below.refl _ _).alloc (Nat.le_refl _) _⟩
    · have hrn2 : ¬ r2 < 0 := by omega
      have HR2 := hide hr2
      clear hr2
      go_wp2
      go_ret
      exact ⟨⟨_, rfl, .inr ⟨by have := HR.out; have := HR2.out; omega, by omega⟩⟩, (Below.refl _ _).alloc (Nat.le_refl _) _⟩
set_option maxHeartbeats 2000000 in
theorem sz_steps (v : Value) (k : Nat) (st : Nat → Sp) (w : World) (hv : StepsOf w v k st) (hl : Lens k st) :
    Calls Try.prog 44 #[v, .int .i64 1048576] w fun e w' => (∃ r : Int, e = .returned (.int .i64 r) ∧ ((r = -1) ∨ (0 ≤ r ∧ Small k st))) ∧ Below w.heap.size w w' := by
  obtain ⟨a, cap, rfl, hr⟩ := hv
  have HR := hide hr
  have HL := hide hl.2
  have hk := hl.1
  unfold maxLen at hk
  clear hr hl
  by_cases hs : 1048576 - (k : Int) < 0
  · clear HR HL
    go_enter Try.func44, Try.ntmps44
    go_wp2
    go_ret
    exact ⟨⟨_, rfl, .inl rfl⟩, Below.refl _ _⟩
  · go_enter Try.func44, Try.ntmps44
    go_wp2
    go_loopw [1, 5] (fun x i wr => ∃ (j : Nat) (r : Int), j ≤ k ∧ i = .int .i64 j ∧ x = .int .i64 r ∧ Hid (r = 1048576 - (k : Int) - (tot st j : Nat)) ∧ 0 ≤ r ∧ r ≤ 1048576 ∧ Below w.heap.size w wr) (fun _ i _ => k - (intOf i).toNat)
    case atStart => exact ⟨0, _, Nat.zero_le _, rfl, rfl, hide (by simp [tot]), by omega, by omega, Below.refl _ _⟩
    case round =>
      obtain ⟨j, r, hj, rfl, rfl, HT, hr0, hr1, hbw⟩ := hrel
      by_cases hlt : j < k
      · obtain ⟨b, off, rfl, hb, hrow⟩ := HR.out (by omega)
        obtain ⟨x, y, q1, q2, i1, i2⟩ := hrow j hlt
        obtain ⟨a1, c1, rfl⟩ := i1.form
        obtain ⟨a2, c2, rfl⟩ := i2.form
        have c0 := (hbw.cell (p := ⟨b, off + j * 2, none⟩) hb).trans q1
        have c1 := (hbw.cell (p := ⟨b, off + j * 2 + 1, none⟩) hb).trans q2
        have HLj := hide (HL.out j hlt)
        clear hrow HR q1 q2 i1 i2 HL
        go_wp2_with fail
        refine (sz_step _ _ _ _ _ _ _ _ HLj.out.1 HLj.out.2 hr0 hr1).mono ?_
        rintro e w1 ⟨⟨r2, rfl, hr2⟩, hb1⟩
        have hbw1 := hbw.trans (hb1.mono hbw.size)
        rcases hr2 with hr2 | ⟨hr2, hr20⟩
        · have hrn2 : r2 < 0 := by omega
          clear hr2 hb1 c0 c1
          go_wp2
          go_ret
          exact ⟨⟨_, rfl, .inl rfl⟩, hbw1⟩
        · have hrn2 : ¬ r2 < 0 := by omega
          have HT2 := hide (show r2 = 1048576 - (k : Int) - (tot st (j + 1) : Nat) by have := HT.out; simp only [tot]; omega)
          have hr21 : r2 ≤ 1048576 := by omega
          clear hr2 hb1 c0 c1 HT HLj
          go_wp2
          exact ⟨⟨j + 1, r2, by omega, by go_num, rfl, HT2, hr20, hr21, hbw1⟩, by simp [intOf]; omega⟩
      · obtain rfl : j = k := by omega
        clear HR HL
        go_wp2
        go_ret
        exact ⟨⟨_, rfl, .inr ⟨hr0, by have := HT.out; unfold Small; omega⟩⟩, hbw⟩
theorem sz_net (p : Int) (v : Value) (k : Nat) (st : Nat → Sp) (w : World) (hv : StepsOf w v k st) (hl : Lens k st) :
    Calls Try.prog 13 #[netV p v, .int .i64 1048576] w fun e w' => (∃ r : Int, e = .returned (.int .i64 r) ∧ ((r = -1) ∨ (0 ≤ r ∧ Small k st))) ∧ Below w.heap.size w w' := by
  have HV := hide hv
  obtain ⟨a, cap, rfl⟩ := hv.form
  clear hv
  go_enter Try.func13, Try.ntmps13
  go_wp2_with fail
  have hb0 := (Below.refl w.heap.size w).alloc (Nat.le_refl _) (.cells #[.int .i64 p, .slice a k cap] 24)
  refine (sz_steps _ k st _ (HV.out.below hb0) hl).mono ?_
  rintro e w1 ⟨⟨r, rfl, hr⟩, hb1⟩
  have hbw1 := hb0.trans (hb1.mono hb0.size)
  clear hb1 hb0
  by_cases hrn : r < 0
  · go_wp2
    go_ret
    exact ⟨⟨_, rfl, .inl rfl⟩, hbw1⟩
  · have HS := hide (show Small k st by rcases hr with h | ⟨_, h⟩
                                        · omega
                                        · exact h)
    clear hr
    go_wp2
    go_ret
    exact ⟨⟨_, rfl, .inr ⟨by omega, HS.out⟩⟩, hbw1⟩
end Go.Proofs.Ythilapalgakhhaa

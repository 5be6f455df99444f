/-
  Sagas in memory: what the law does with them: how much is left, copies in new memory, two that are told alike, marks that are written and found again.
-/
import Derived.Test.YtmpedadjikmnhaaSgA
namespace Go.Proofs.Ytmpedadjikmnhaa
open Go.RowKit M
open Clk (upd upd_same upd_other)
open Go.Sort (grow)
namespace M
def p4 (x0 x1 x2 x3 : Value) : Nat → Value := fun i => if i = 0 then x0 else if i = 1 then x1 else if i = 2 then x2 else x3
theorem new4 (w : World) (x0 x1 x2 x3 : Value) (t : TypeId) : Blk (w.alloc (.cells #[x0, x1, x2, x3] t)) w.heap.size 4 (p4 x0 x1 x2 x3) t := Blk.fresh w _ 4 _ t rfl
theorem Blk.quad {w : World} {g : Nat} {x0 x1 x2 x3 : Value} {t : TypeId} (h : Blk w g 4 (p4 x0 x1 x2 x3) t) : (w.cell? ⟨g, 0, none⟩ = some x0 ∧ w.cell? ⟨g, 1, none⟩ = some x1 ∧ w.cell? ⟨g, 2, none⟩ = some x2 ∧ w.cell? ⟨g, 3, none⟩ = some x3) ∧ w.frozen? ⟨g, 0, none⟩ = false ∧ w.frozen? ⟨g, 1, none⟩ = false ∧ w.frozen? ⟨g, 2, none⟩ = false ∧ w.frozen? ⟨g, 3, none⟩ = false :=
  ⟨⟨h.cell (by omega), h.cell (by omega), h.cell (by omega), h.cell (by omega)⟩, h.thaw 0, h.thaw 1, h.thaw 2, h.thaw 3⟩
theorem Blk.quad0 {w : World} {g : Nat} {x0 x1 x2 x3 : Value} {t : TypeId} (h : Blk w g 4 (p4 x0 x1 x2 x3) t) (u : Value) : Blk (w.setCell ⟨g, 0, none⟩ u) g 4 (p4 u x1 x2 x3) t :=
  (h.set 0 u).ext fun i hi => by
    rcases (show i = 0 ∨ i = 1 ∨ i = 2 ∨ i = 3 by omega) with rfl | rfl | rfl | rfl <;> rfl
theorem Blk.quad1 {w : World} {g : Nat} {x0 x1 x2 x3 : Value} {t : TypeId} (h : Blk w g 4 (p4 x0 x1 x2 x3) t) (u : Value) : Blk (w.setCell ⟨g, 1, none⟩ u) g 4 (p4 x0 u x2 x3) t :=
  (h.set 1 u).ext fun i hi => by
    rcases (show i = 0 ∨ i = 1 ∨ i = 2 ∨ i = 3 by omega) with rfl | rfl | rfl | rfl <;> rfl
theorem Blk.quad2 {w : World} {g : Nat} {x0 x1 x2 x3 : Value} {t : TypeId} (h : Blk w g 4 (p4 x0 x1 x2 x3) t) (u : Value) : Blk (w.setCell ⟨g, 2, none⟩ u) g 4 (p4 x0 x1 u x3) t :=
  (h.set 2 u).ext fun i hi => by
    rcases (show i = 0 ∨ i = 1 ∨ i = 2 ∨ i = 3 by omega) with rfl | rfl | rfl | rfl <;> rfl
theorem Blk.quad3 {w : World} {g : Nat} {x0 x1 x2 x3 : Value} {t : TypeId} (h : Blk w g 4 (p4 x0 x1 x2 x3) t) (u : Value) : Blk (w.setCell ⟨g, 3, none⟩ u) g 4 (p4 x0 x1 x2 u) t :=
  (h.set 3 u).ext fun i hi => by
    rcases (show i = 0 ∨ i = 1 ∨ i = 2 ∨ i = 3 by omega) with rfl | rfl | rfl | rfl <;> rfl
theorem Blk.apart {w : World} {g g' n n' : Nat} {f f' : Nat → Value} {t t' : TypeId} (h : Blk w g n f t) (h' : Blk w g' n' f' t') (hne : t ≠ t') : g ≠ g' := by
  intro e
  unfold Blk at h h'
  rw [e, h'] at h
  simp only [Option.some.injEq, Obj.cells.injEq] at h
  exact hne h.2.1.symm
theorem Blk.same {w wx : World} {g n : Nat} {f : Nat → Value} {t : TypeId} (h : Blk w g n f t) (hh : wx.heap = w.heap) : Blk wx g n f t := by unfold Blk; rw [hh]; exact h
/-- A saga's lists, read: accounts, and moves as numbers, three each. -/
def SagQ (w : World) (v0 v1 : Value) (na : Nat) (fa : Nat → Int) (nm : Nat) (fq : Nat → Int) : Prop := IntsOf w v0 na fa ∧ MovesOf w v1 nm fq
theorem SagQ.below {w w' : World} {v0 v1 : Value} {na : Nat} {fa : Nat → Int} {nm : Nat} {fq : Nat → Int} (h : SagQ w v0 v1 na fa nm fq) (hb : Below w.heap.size w w') : SagQ w' v0 v1 na fa nm fq := ⟨h.1.below hb, h.2.below hb⟩
def LensS (na nm : Nat) : Prop := na ≤ maxLen ∧ nm ≤ maxLen
def ShortS (na nm : Nat) : Prop := na ≤ 1048576 ∧ nm ≤ 1048576
/-- Only blocks from lo to hi may have turned, of those that were there. -/
structure KeptB (lo hi : Nat) (w w' : World) : Prop where
  os : w'.os = w.os
  tape : w'.tape = w.tape
  output : w'.output = w.output
  size : w.heap.size ≤ w'.heap.size
  block : ∀ k, k < w.heap.size → k < lo ∨ hi ≤ k → w'.heap[k]? = w.heap[k]?
theorem KeptB.refl (lo hi : Nat) (w : World) : KeptB lo hi w w := ⟨rfl, rfl, rfl, Nat.le_refl _, fun _ _ _ => rfl⟩
theorem KeptB.trans {lo hi : Nat} {a b c : World} (h : KeptB lo hi a b) (h2 : KeptB lo hi b c) : KeptB lo hi a c :=
  ⟨h2.os.trans h.os, h2.tape.trans h.tape, h2.output.trans h.output, Nat.le_trans h.size h2.size, fun k hk hl => (h2.block k (Nat.lt_of_lt_of_le hk h.size) hl).trans (h.block k hk hl)⟩
theorem Below.keptB {w w1 : World} (h : Below w.heap.size w w1) (lo hi : Nat) : KeptB lo hi w w1 := ⟨h.os, h.tape, h.output, h.size, fun k hk _ => h.block k hk⟩
theorem Only.keptB {g lo hi : Nat} {w w' : World} (h : Only g w w') (h1 : lo ≤ g) (h2 : g < hi) : KeptB lo hi w w' :=
  ⟨h.os, h.tape, h.output, by rw [h.size]; exact Nat.le_refl _, fun k _ hk => h.block k (by omega)⟩
theorem KeptB.below {lo hi B : Nat} {w w' : World} (h : KeptB lo hi w w') (h1 : B ≤ lo) (h2 : B ≤ w.heap.size) : Below B w w' :=
  ⟨h.os, h.tape, h.output, h.size, fun k hk => h.block k (by omega) (.inl (by omega))⟩
theorem KeptB.blk {lo hi : Nat} {w w' : World} (h : KeptB lo hi w w') {g n : Nat} {f : Nat → Value} {t : TypeId} (hb : Blk w g n f t) (hg : g < lo ∨ hi ≤ g) : Blk w' g n f t := by
  unfold Blk; rw [h.block g hb.lt hg]; exact hb
/-- Lists of the call's own, in blocks from B to hi. -/
def OwnI (w : World) (B hi : Nat) (v : Value) (n : Nat) (f : Nat → Int) : Prop :=
  ∃ a cap, v = .slice a n cap ∧ (0 < n → ∃ b c, a = some ⟨b, 0, none⟩ ∧ B ≤ b ∧ b < hi ∧ OwnB w b n c f)
def OwnV (w : World) (B hi : Nat) (v : Value) (n : Nat) (f : Nat → Int) : Prop :=
  ∃ a cap, v = .slice a n cap ∧ n ≤ cap ∧ (0 < n → ∃ b c, a = some ⟨b, 0, none⟩ ∧ B ≤ b ∧ b < hi ∧ OwnM w b n c f)
theorem OwnI.ints {w : World} {B hi n : Nat} {v : Value} {f : Nat → Int} (h : OwnI w B hi v n f) : IntsOf w v n f := by
  obtain ⟨a, cap, rfl, hr⟩ := h
  refine ⟨a, cap, rfl, fun hn => ?_⟩
  obtain ⟨b, c, rfl, _, _, ho⟩ := hr hn
  exact ⟨b, 0, rfl, ho.lt, fun i hi => by rw [Nat.zero_add]; exact ho.cell hi⟩
theorem OwnV.moves {w : World} {B hi n : Nat} {v : Value} {f : Nat → Int} (h : OwnV w B hi v n f) : MovesOf w v n f := by
  obtain ⟨a, cap, rfl, -, hr⟩ := h
  refine ⟨a, cap, rfl, fun hn => ?_⟩
  obtain ⟨b, c, rfl, _, _, ho⟩ := hr hn
  exact ⟨b, 0, rfl, ho.lt, fun i hi => by rw [Nat.zero_add]; exact ho.cell hi⟩
theorem OwnB.kept {w w' : World} {lo hi b n c : Nat} {f : Nat → Int} (h : OwnB w b n c f) (hk : KeptB lo hi w w') (hg : b < lo ∨ hi ≤ b) : OwnB w' b n c f := by
  obtain ⟨hc, k, hb, he⟩ := h
  exact ⟨hc, k, hk.blk hb hg, he⟩
theorem OwnM.kept {w w' : World} {lo hi b n c : Nat} {f : Nat → Int} (h : OwnM w b n c f) (hk : KeptB lo hi w w') (hg : b < lo ∨ hi ≤ b) : OwnM w' b n c f := by
  obtain ⟨hc, k, hb, he⟩ := h
  exact ⟨hc, k, hk.blk hb hg, he⟩
theorem OwnI.kept {w w' : World} {lo hi' B hi n : Nat} {v : Value} {f : Nat → Int} (h : OwnI w B hi v n f) (hk : KeptB lo hi' w w') (hB : hi' ≤ B ∨ hi ≤ lo) : OwnI w' B hi v n f := by
  obtain ⟨a, cap, rfl, hr⟩ := h
  refine ⟨a, cap, rfl, fun hn => ?_⟩
  obtain ⟨b, c, ha, h1, h2, ho⟩ := hr hn
  exact ⟨b, c, ha, h1, h2, ho.kept hk (by omega)⟩
theorem OwnV.kept {w w' : World} {lo hi' B hi n : Nat} {v : Value} {f : Nat → Int} (h : OwnV w B hi v n f) (hk : KeptB lo hi' w w') (hB : hi' ≤ B ∨ hi ≤ lo) : OwnV w' B hi v n f := by
  obtain ⟨a, cap, rfl, hle, hr⟩ := h
  refine ⟨a, cap, rfl, hle, fun hn => ?_⟩
  obtain ⟨b, c, ha, h1, h2, ho⟩ := hr hn
  exact ⟨b, c, ha, h1, h2, ho.kept hk (by omega)⟩
theorem OwnI.down {w w' : World} {B hi n : Nat} {v : Value} {f : Nat → Int} (h : OwnI w B hi v n f) (hb : Below w.heap.size w w') : OwnI w' B hi v n f := by
  obtain ⟨a, cap, rfl, hr⟩ := h
  refine ⟨a, cap, rfl, fun hn => ?_⟩
  obtain ⟨b, c, ha, h1, h2, ho⟩ := hr hn
  exact ⟨b, c, ha, h1, h2, ho.down hb⟩
theorem OwnV.down {w w' : World} {B hi n : Nat} {v : Value} {f : Nat → Int} (h : OwnV w B hi v n f) (hb : Below w.heap.size w w') : OwnV w' B hi v n f := by
  obtain ⟨a, cap, rfl, hle, hr⟩ := h
  refine ⟨a, cap, rfl, hle, fun hn => ?_⟩
  obtain ⟨b, c, ha, h1, h2, ho⟩ := hr hn
  exact ⟨b, c, ha, h1, h2, ho.down hb⟩
def AnsQ (w : World) (B hi : Nat) (v0 v1 : Value) (na : Nat) (fa : Nat → Int) (nm : Nat) (fq : Nat → Int) : Prop := OwnI w B hi v0 na fa ∧ OwnV w B hi v1 nm fq
theorem AnsQ.q {w : World} {B hi : Nat} {v0 v1 : Value} {na : Nat} {fa : Nat → Int} {nm : Nat} {fq : Nat → Int} (h : AnsQ w B hi v0 v1 na fa nm fq) : SagQ w v0 v1 na fa nm fq := ⟨h.1.ints, h.2.moves⟩
/-- The same, where the moves' slice has its length within its capacity. -/
def CapOk (v : Value) (n : Nat) : Prop := ∃ a c, v = .slice a n c ∧ n ≤ c
def SagC (w : World) (v0 v1 : Value) (na : Nat) (fa : Nat → Int) (nm : Nat) (fq : Nat → Int) : Prop := SagQ w v0 v1 na fa nm fq ∧ CapOk v1 nm
theorem SagC.below {w w' : World} {v0 v1 : Value} {na : Nat} {fa : Nat → Int} {nm : Nat} {fq : Nat → Int} (h : SagC w v0 v1 na fa nm fq) (hb : Below w.heap.size w w') : SagC w' v0 v1 na fa nm fq := ⟨h.1.below hb, h.2⟩
theorem OwnV.cap {w : World} {B hi n : Nat} {v : Value} {f : Nat → Int} (h : OwnV w B hi v n f) : CapOk v n := by
  obtain ⟨a, cap, rfl, hle, _⟩ := h
  exact ⟨a, cap, rfl, hle⟩
theorem AnsQ.c {w : World} {B hi : Nat} {v0 v1 : Value} {na : Nat} {fa : Nat → Int} {nm : Nat} {fq : Nat → Int} (h : AnsQ w B hi v0 v1 na fa nm fq) : SagC w v0 v1 na fa nm fq := ⟨h.q, h.2.cap⟩
theorem AnsQ.kept {w w' : World} {lo hi' B hi : Nat} {v0 v1 : Value} {na : Nat} {fa : Nat → Int} {nm : Nat} {fq : Nat → Int} (h : AnsQ w B hi v0 v1 na fa nm fq) (hk : KeptB lo hi' w w') (hB : hi' ≤ B ∨ hi ≤ lo) : AnsQ w' B hi v0 v1 na fa nm fq := ⟨h.1.kept hk hB, h.2.kept hk hB⟩
theorem AnsQ.down {w w' : World} {B hi : Nat} {v0 v1 : Value} {na : Nat} {fa : Nat → Int} {nm : Nat} {fq : Nat → Int} (h : AnsQ w B hi v0 v1 na fa nm fq) (hb : Below w.heap.size w w') : AnsQ w' B hi v0 v1 na fa nm fq := ⟨h.1.down hb, h.2.down hb⟩
theorem OwnI.only {w w' : World} {g B hi n : Nat} {v : Value} {f : Nat → Int} (h : OwnI w B hi v n f) (ho : Only g w w') {m : Nat} {k : Nat → Value} (hg : Blk w g m k 55) : OwnI w' B hi v n f := by
  obtain ⟨a, cap, rfl, hr⟩ := h
  refine ⟨a, cap, rfl, fun hn => ?_⟩
  obtain ⟨b, c, ha, h1, h2, hc, k', hb, he⟩ := hr hn
  exact ⟨b, c, ha, h1, h2, hc, k', ho.blk hb (hb.apart hg (by decide)), he⟩
theorem OwnV.only {w w' : World} {g B hi n : Nat} {v : Value} {f : Nat → Int} (h : OwnV w B hi v n f) (ho : Only g w w') {m : Nat} {k : Nat → Value} (hg : Blk w g m k 3) : OwnV w' B hi v n f := by
  obtain ⟨a, cap, rfl, hle, hr⟩ := h
  refine ⟨a, cap, rfl, hle, fun hn => ?_⟩
  obtain ⟨b, c, ha, h1, h2, hc, k', hb, he⟩ := hr hn
  exact ⟨b, c, ha, h1, h2, hc, k', ho.blk hb (hb.apart hg (by decide)), he⟩
end M
set_option maxHeartbeats 1000000 in
theorem sz_saga (v0 v1 : Value) (na : Nat) (fa : Nat → Int) (nm : Nat) (fq : Nat → Int) (dn : Int) (un : Bool) (w : World) (hv : SagQ w v0 v1 na fa nm fq) (hl : LensS na nm) :
    Calls Try.prog 23 #[.agg #[v0, v1, .int .i64 dn, .bool un], .int .i64 1048576] w fun e w' => (∃ r : Int, e = .returned (.int .i64 r) ∧ ((r < 0) ∨ (0 ≤ r ∧ ShortS na nm))) ∧ Below w.heap.size w w' := by
  obtain ⟨a0, c0, rfl⟩ := hv.1.form
  obtain ⟨a1, c1, rfl⟩ := hv.2.form
  have HL := hide hl
  clear hv hl
  have hbw := (Below.refl w.heap.size w).alloc (Nat.le_refl _) (.cells #[.slice a0 na c0, .slice a1 nm c1, .int .i64 dn, .bool un] 40)
  go_enter Try.func23, Try.ntmps23
  go_wp2_with fail
  refine (sz_ints _ _ _ _ _ HL.out.1 (by decide) (by decide)).mono ?_
  rintro e w1 ⟨⟨r, rfl, hr⟩, rfl⟩
  rcases hr with hr | ⟨hr, hr0⟩
  · have hrn : r < 0 := by omega
    clear hr
    go_wp2
    go_ret
    exact ⟨⟨_, rfl, .inl (by omega)⟩, hbw⟩
  · have hrn : ¬ r < 0 := by omega
    have hr1 : r ≤ 1048576 := by omega
    have HR := hide hr
    clear hr
    go_wp2_with fail
    refine (sz_moves _ _ _ _ _ HL.out.2 hr0 hr1).mono ?_
    rintro e w2 ⟨⟨r2, rfl, hr2⟩, rfl⟩
    rcases hr2 with hr2 | ⟨hr2, hr20⟩
    · have hrn2 : r2 < 0 := by omega
      clear hr2
      go_wp2
      go_ret
      exact ⟨⟨_, rfl, .inl (by omega)⟩, hbw⟩
    · have hrn2 : ¬ r2 < 0 := by omega
      have HR2 := hide hr2
      clear hr2
      go_wp2
      go_ret
      refine ⟨⟨_, rfl, .inr ⟨hr20, ?_⟩⟩, hbw⟩
      have h1 := HR.out
      have h2 := HR2.out
      exact ⟨by omega, by omega⟩
set_option maxHeartbeats 1000000 in
theorem eq_saga (v0 v1 u0 u1 : Value) (na : Nat) (fa : Nat → Int) (nm : Nat) (fq : Nat → Int) (dn : Int) (un : Bool) (w : World) (hv : SagQ w v0 v1 na fa nm fq) (hu : SagQ w u0 u1 na fa nm fq) (hs : ShortS na nm) :
    Calls Try.prog 16 #[.agg #[v0, v1, .int .i64 dn, .bool un], .agg #[u0, u1, .int .i64 dn, .bool un]] w fun e w' => e = .returned (.bool true) ∧ Below w.heap.size w w' := by
  have hb0 := ((Below.refl w.heap.size w).alloc (Nat.le_refl _) (.cells #[v0, v1, .int .i64 dn, .bool un] 27)).alloc (by simp) (.cells #[u0, u1, .int .i64 dn, .bool un] 27)
  have HM0 := hide ((new4 w v0 v1 (.int .i64 dn) (.bool un) 27).alloc (.cells #[u0, u1, .int .i64 dn, .bool un] 27))
  have HN0 := hide (new4 (w.alloc (.cells #[v0, v1, .int .i64 dn, .bool un] 27)) u0 u1 (.int .i64 dn) (.bool un) 27)
  obtain ⟨a0, c0, rfl⟩ := hv.1.form
  obtain ⟨a1, c1, rfl⟩ := hv.2.form
  obtain ⟨a3, c3, rfl⟩ := hu.1.form
  obtain ⟨a4, c4, rfl⟩ := hu.2.form
  have HV := hide hv
  have HU := hide hu
  have HS := hide hs
  have hx : (dn != dn) = false := by simp
  have hy : (un != un) = false := by simp
  clear hv hu hs
  go_enter Try.func16, Try.ntmps16
  go_wp2_with fail
  refine (eq_ints _ _ _ _ _ (HV.out.1.below hb0) (HU.out.1.below hb0) HS.out.1).mono ?_
  rintro e w1 ⟨rfl, hb⟩
  have hb1 := hb0.trans (hb.mono hb0.size)
  have HM1 := hide (HM0.out.down hb)
  have HN1 := hide (HN0.out.down hb)
  obtain ⟨⟨m0, m1, m2, m3⟩, -⟩ := HM1.out.quad
  obtain ⟨⟨n0, n1, n2, n3⟩, -⟩ := HN1.out.quad
  rw [World.size_alloc] at n0 n1 n2 n3
  clear hb hb0 HM0 HN0
  go_wp2_with fail
  refine (eq_moves _ _ _ _ _ (HV.out.2.below hb1) (HU.out.2.below hb1) HS.out.2).mono ?_
  rintro e w2 ⟨rfl, hb⟩
  have hb2 := hb1.trans (hb.mono hb1.size)
  have HM2 := hide (HM1.out.down hb)
  have HN2 := hide (HN1.out.down hb)
  clear m0 m1 m2 m3 n0 n1 n2 n3
  obtain ⟨⟨m0, m1, m2, m3⟩, -⟩ := HM2.out.quad
  obtain ⟨⟨n0, n1, n2, n3⟩, -⟩ := HN2.out.quad
  rw [World.size_alloc] at n0 n1 n2 n3
  clear hb hb1 HM1 HN1
  go_wp2
  go_ret
  exact ⟨rfl, hb2⟩
set_option maxHeartbeats 2000000 in
theorem to_saga (v0 v1 : Value) (na : Nat) (fa : Nat → Int) (nm : Nat) (fq : Nat → Int) (dn : Int) (un : Bool) (w : World) (hv : SagQ w v0 v1 na fa nm fq) (hs : ShortS na nm) :
    Calls Try.prog 25 #[.agg #[v0, v1, .int .i64 dn, .bool un]] w fun e w' => (∃ u0 u1, e = .returned (.agg #[u0, u1, .int .i64 dn, .bool un]) ∧ AnsQ w' w.heap.size w'.heap.size u0 u1 na fa nm fq) ∧ Below w.heap.size w w' := by
  have HY := hide hv
  have HS := hide hs
  obtain ⟨a0, c0, rfl⟩ := hv.1.form
  obtain ⟨a1, c1, rfl⟩ := hv.2.form
  clear hv hs
  obtain ⟨W, hW⟩ : ∃ W, ((w.alloc (.cells #[.slice a0 na c0, .slice a1 nm c1, .int .i64 dn, .bool un] 40)).alloc (.cells #[.slice none 0 0, .slice none 0 0, .int .i64 0, .bool false] 27)).alloc (.cells #[.slice none 0 0, .slice none 0 0, .int .i64 0, .bool false] 27) = W := ⟨_, rfl⟩
  have HD0 := hide (show Blk W w.heap.size 4 (p4 (.slice a0 na c0) (.slice a1 nm c1) (.int .i64 dn) (.bool un)) 40 from by subst hW; exact ((new4 w _ _ _ _ _).alloc _).alloc _)
  have HE0 := hide (show Blk W (w.heap.size + 1) 4 (p4 (.slice none 0 0) (.slice none 0 0) (.int .i64 0) (.bool false)) 27 from by subst hW; have := (new4 (w.alloc (.cells #[.slice a0 na c0, .slice a1 nm c1, .int .i64 dn, .bool un] 40)) (.slice none 0 0) (.slice none 0 0) (.int .i64 0) (.bool false) 27).alloc (.cells #[.slice none 0 0, .slice none 0 0, .int .i64 0, .bool false] 27); rw [World.size_alloc] at this; exact this)
  have HF0 := hide (show Blk W (w.heap.size + 1 + 1) 4 (p4 (.slice none 0 0) (.slice none 0 0) (.int .i64 0) (.bool false)) 27 from by subst hW; have := new4 ((w.alloc (.cells #[.slice a0 na c0, .slice a1 nm c1, .int .i64 dn, .bool un] 40)).alloc (.cells #[.slice none 0 0, .slice none 0 0, .int .i64 0, .bool false] 27)) (.slice none 0 0) (.slice none 0 0) (.int .i64 0) (.bool false) 27; rw [World.size_alloc, World.size_alloc] at this; exact this)
  have hb0 : Below w.heap.size w W := by subst hW; exact (((Below.refl _ w).alloc (Nat.le_refl _) _).alloc (by simp) _).alloc (by simp; omega) _
  have hs0 : W.heap.size = w.heap.size + 3 := by subst hW; simp
  have HW0 := hide hs0
  have HWW := hide hW
  clear hs0 hW
  go_enter Try.func25, Try.ntmps25
  go_wp2_with fail
  rw [HWW.out]
  clear HWW
  refine (to_ints _ _ _ _ (HY.out.1.below hb0) HS.out.1).mono ?_
  rintro e w1 ⟨⟨rfl, hk1⟩, hb⟩
  have hb1 := hb0.trans (hb.mono hb0.size)
  have hsz := hb.size
  have HI1 := hide hk1
  have HD1 := hide (HD0.out.down hb)
  have HE1 := hide (HE0.out.down hb)
  have HF1 := hide (HF0.out.down hb)
  clear hk1 hb hb0 HD0 HE0 HF0
  obtain ⟨⟨d0, d1, d2, d3⟩, -⟩ := HD1.out.quad
  obtain ⟨⟨f0, f1, f2, f3⟩, g0, g1, g2, g3⟩ := HF1.out.quad
  go_wp2_with fail
  obtain ⟨W2, hW2⟩ : ∃ W2, w1.setCell ⟨w.heap.size + 1 + 1, 0, none⟩ (.slice (some ⟨W.heap.size, 0, none⟩) na na) = W2 := ⟨_, rfl⟩
  rw [hW2]
  have hb2 : Below w.heap.size w W2 := by rw [← hW2]; exact hb1.setCell (p := ⟨w.heap.size + 1 + 1, 0, none⟩) (show w.heap.size ≤ w.heap.size + 1 + 1 by omega) _
  have hsz2 : W.heap.size ≤ W2.heap.size := by rw [← hW2, World.size_setCell]; exact hsz
  have HI2 := hide (show Blk W2 W.heap.size na (iv fa) 3 from by rw [← hW2]; exact HI1.out.set_other (by have := HW0.out; omega) _ _)
  have HD2 := hide (show Blk W2 w.heap.size 4 (p4 (.slice a0 na c0) (.slice a1 nm c1) (.int .i64 dn) (.bool un)) 40 from by rw [← hW2]; exact HD1.out.set_other (by omega) _ _)
  have HE2 := hide (show Blk W2 (w.heap.size + 1) 4 (p4 (.slice none 0 0) (.slice none 0 0) (.int .i64 0) (.bool false)) 27 from by rw [← hW2]; exact HE1.out.set_other (by omega) _ _)
  have HF2 := hide (show Blk W2 (w.heap.size + 1 + 1) 4 (p4 (.slice (some ⟨W.heap.size, 0, none⟩) na na) (.slice none 0 0) (.int .i64 0) (.bool false)) 27 from by rw [← hW2]; exact HF1.out.quad0 _)
  clear hW2 HI1 HD1 HE1 HF1 d0 d1 d2 d3 f0 f1 f2 f3 g0 g1 g2 g3 hb1 hsz
  refine (to_moves _ _ _ _ (HY.out.2.below hb2) HS.out.2).mono ?_
  rintro e w3 ⟨⟨rfl, hk3⟩, hb⟩
  have hb3 := hb2.trans (hb.mono hb2.size)
  have HJ3 := hide hk3
  have HI3 := hide (HI2.out.down hb)
  have HD3 := hide (HD2.out.down hb)
  have HE3 := hide (HE2.out.down hb)
  have HF3 := hide (HF2.out.down hb)
  clear hk3 hb hb2 HI2 HD2 HE2 HF2
  obtain ⟨⟨d0, d1, d2, d3⟩, -⟩ := HD3.out.quad
  obtain ⟨⟨e0, e1, e2, e3⟩, h0, h1, h2, h3⟩ := HE3.out.quad
  obtain ⟨⟨f0, f1, f2, f3⟩, g0, g1, g2, g3⟩ := HF3.out.quad
  obtain ⟨WZ, hWZ⟩ : ∃ WZ, ((((((w3.setCell ⟨w.heap.size + 1 + 1, 1, none⟩ (.slice (some ⟨W2.heap.size, 0, none⟩) nm nm)).setCell ⟨w.heap.size + 1 + 1, 2, none⟩ (.int .i64 dn)).setCell ⟨w.heap.size + 1 + 1, 3, none⟩ (.bool un)).setCell ⟨w.heap.size + 1, 0, none⟩ (.slice (some ⟨W.heap.size, 0, none⟩) na na)).setCell ⟨w.heap.size + 1, 1, none⟩ (.slice (some ⟨W2.heap.size, 0, none⟩) nm nm)).setCell ⟨w.heap.size + 1, 2, none⟩ (.int .i64 dn)).setCell ⟨w.heap.size + 1, 3, none⟩ (.bool un) = WZ := ⟨_, rfl⟩
  have hbf : Below w.heap.size w WZ := by
    rw [← hWZ]
    exact ((((((hb3.setCell (p := ⟨w.heap.size + 1 + 1, 1, none⟩) (show w.heap.size ≤ w.heap.size + 1 + 1 by omega) _).setCell (p := ⟨w.heap.size + 1 + 1, 2, none⟩) (show w.heap.size ≤ w.heap.size + 1 + 1 by omega) _).setCell (p := ⟨w.heap.size + 1 + 1, 3, none⟩) (show w.heap.size ≤ w.heap.size + 1 + 1 by omega) _).setCell (p := ⟨w.heap.size + 1, 0, none⟩) (show w.heap.size ≤ w.heap.size + 1 by omega) _).setCell (p := ⟨w.heap.size + 1, 1, none⟩) (show w.heap.size ≤ w.heap.size + 1 by omega) _).setCell (p := ⟨w.heap.size + 1, 2, none⟩) (show w.heap.size ≤ w.heap.size + 1 by omega) _).setCell (p := ⟨w.heap.size + 1, 3, none⟩) (show w.heap.size ≤ w.heap.size + 1 by omega) _
  have HC := hide (show AnsQ WZ w.heap.size WZ.heap.size (sl W.heap.size na) (sl W2.heap.size nm) na fa nm fq ∧ Blk WZ (w.heap.size + 1) 4 (p4 (.slice (some ⟨W.heap.size, 0, none⟩) na na) (.slice (some ⟨W2.heap.size, 0, none⟩) nm nm) (.int .i64 dn) (.bool un)) 27 from by
    have h0 := HW0.out
    have key : ∀ {g n : Nat} {f : Nat → Value} {t : TypeId}, W.heap.size ≤ g → Blk w3 g n f t → Blk WZ g n f t := fun hg h => by
      rw [← hWZ]
      exact ((((((h.set_other (by omega) _ _).set_other (by omega) _ _).set_other (by omega) _ _).set_other (by omega) _ _).set_other (by omega) _ _).set_other (by omega) _ _).set_other (by omega) _ _
    have kI := key (Nat.le_refl _) HI3.out
    have kJ := key hsz2 HJ3.out
    refine ⟨⟨⟨_, _, rfl, fun _ => ⟨_, _, rfl, by omega, kI.lt, Nat.le_refl _, _, kI, fun _ _ => rfl⟩⟩, ⟨_, _, rfl, Nat.le_refl _, fun _ => ⟨_, _, rfl, by omega, kJ.lt, Nat.le_refl _, _, kJ, fun _ _ => rfl⟩⟩⟩, ?_⟩
    rw [← hWZ]
    exact (((((((HE3.out.set_other (by omega) _ _).set_other (by omega) _ _).set_other (by omega) _ _).quad0 _).quad1 _).quad2 _).quad3 _))
  have HWZ := hide hWZ
  clear HI3 HJ3 HE3 HF3 HD3 hb3 HY HS HW0 hsz2 hWZ
  go_wp2
  rw [HWZ.out]
  clear d0 d1 d2 d3 e0 e1 e2 e3 h0 h1 h2 h3 f0 f1 f2 f3 g0 g1 g2 g3
  obtain ⟨⟨e0, e1, e2, e3⟩, -⟩ := HC.out.2.quad
  exact bodyPost_ret (v := .agg #[.slice (some ⟨W.heap.size, 0, none⟩) na na, .slice (some ⟨W2.heap.size, 0, none⟩) nm nm, .int .i64 dn, .bool un]) (by simp [results, Try.results25, go_sem, e0, e1, e2, e3]) rfl ⟨⟨_, _, rfl, HC.out.1⟩, hbf⟩
theorem mark_ownI (B hi n k0 : Nat) (v : Value) (f : Nat → Int) (w : World) (h : OwnI w B hi v n f) (hn : n ≤ 1048576) (hk0 : k0 ≤ 1000000000) :
    Calls Try.prog 19 #[v, .int .i64 (k0 : Nat)] w fun e w' => e = .returned (.int .i64 ((k0 + n : Nat) : Int)) ∧ OwnI w' B hi v n (mk1 k0) ∧ KeptB B hi w w' ∧ (∀ {v' : Value} {n' : Nat} {f' : Nat → Int}, OwnV w B hi v' n' f' → OwnV w' B hi v' n' f') := by
  obtain ⟨a, cap, rfl, hr⟩ := h
  by_cases hp : 0 < n
  · obtain ⟨b, c, rfl, h1, h2, hc, k, hb, hk⟩ := hr hp
    refine (mark_own b n c cap k0 k w hb (fun i hi => ⟨_, hk i hi⟩) hc hn hk0).mono ?_
    rintro e w' ⟨rfl, hk', ho⟩
    exact ⟨rfl, ⟨_, _, rfl, fun _ => ⟨b, c, rfl, h1, h2, hc, _, hk', fun i hi => by unfold mkd mk1; rw [if_pos hi]⟩⟩, ho.keptB h1 h2, fun h => h.only ho hb⟩
  · obtain rfl : n = 0 := by omega
    refine (mark_noint _ _ _ _).mono ?_
    rintro e w' ⟨rfl, rfl⟩
    exact ⟨rfl, ⟨_, _, rfl, fun h => absurd h hp⟩, KeptB.refl _ _ _, fun h => h⟩
theorem mark_ownV (B hi n k0 : Nat) (v : Value) (f : Nat → Int) (w : World) (h : OwnV w B hi v n f) (hn : n ≤ 1048576) (hk0 : k0 ≤ 1000000000) :
    Calls Try.prog 20 #[v, .int .i64 (k0 : Nat)] w fun e w' => e = .returned (.int .i64 ((k0 + n * 3 : Nat) : Int)) ∧ OwnV w' B hi v n (mk1 k0) ∧ KeptB B hi w w' ∧ (∀ {v' : Value} {n' : Nat} {f' : Nat → Int}, OwnI w B hi v' n' f' → OwnI w' B hi v' n' f') := by
  obtain ⟨a, cap, rfl, hle, hr⟩ := h
  by_cases hp : 0 < n
  · obtain ⟨b, c, rfl, h1, h2, ho⟩ := hr hp
    obtain ⟨_, k, hb, _⟩ := id ho
    refine (mark_moves b n c cap k0 f w ho hn hk0).mono ?_
    rintro e w' ⟨rfl, hk', hO⟩
    exact ⟨rfl, ⟨_, _, rfl, hle, fun _ => ⟨b, c, rfl, h1, h2, hk'⟩⟩, hO.keptB h1 h2, fun h => h.only hO hb⟩
  · obtain rfl : n = 0 := by omega
    refine (mark_none _ _ _ _).mono ?_
    rintro e w' ⟨rfl, rfl⟩
    exact ⟨rfl, ⟨_, _, rfl, hle, fun h => absurd h hp⟩, KeptB.refl _ _ _, fun h => h⟩
set_option maxHeartbeats 1000000 in
theorem mark_saga (B hi : Nat) (v0 v1 : Value) (na : Nat) (fa : Nat → Int) (nm : Nat) (fq : Nat → Int) (dn : Int) (un : Bool) (w : World) (h : AnsQ w B hi v0 v1 na fa nm fq) (hs : ShortS na nm) (hhi : hi ≤ w.heap.size) :
    Calls Try.prog 21 #[.agg #[v0, v1, .int .i64 dn, .bool un], .int .i64 1] w fun e w' => e = .returned (.int .i64 ((1 + na + nm * 3 : Nat) : Int)) ∧ AnsQ w' B hi v0 v1 na (mk1 1) nm (mk1 (1 + na)) ∧ KeptB B hi w w' := by
  have hbA := (Below.refl w.heap.size w).alloc (Nat.le_refl _) (.cells #[v0, v1, .int .i64 dn, .bool un] 27)
  have HN := hide (new4 w v0 v1 (.int .i64 dn) (.bool un) 27)
  have HV := hide (h.down hbA)
  have HS := hide hs
  obtain ⟨a0, c0, rfl⟩ := h.q.1.form
  obtain ⟨a1, c1, rfl⟩ := h.q.2.form
  clear h hs
  go_enter Try.func21, Try.ntmps21
  go_wp2_with fail
  refine (mark_ownI B hi na 1 _ _ _ HV.out.1 HS.out.1 (by omega)).mono ?_
  rintro e w1 ⟨rfl, h1, hk, hm⟩
  have HV1 := hide (hm HV.out.2)
  have HI1 := hide h1
  have hk1 := (Below.keptB hbA B hi).trans hk
  obtain ⟨⟨d0, d1, -, -⟩, -⟩ := (hk.blk HN.out (.inr hhi)).quad
  clear HV h1 hk hm HN hbA
  obtain ⟨m, hm⟩ : ∃ m, 1 + na = m := ⟨_, rfl⟩
  have hm1 : m ≤ 1000000000 := by have := HS.out.1; omega
  rw [hm]
  have HM := hide hm
  clear hm
  go_wp2_with fail
  refine (mark_ownV B hi nm m _ _ _ HV1.out HS.out.2 hm1).mono ?_
  rintro e w2 ⟨rfl, h2, hk, hm⟩
  have hk2 := hk1.trans hk
  have HQ := hide (show AnsQ w2 B hi (.slice a0 na c0) (.slice a1 nm c1) na (mk1 1) nm (mk1 m) from ⟨hm HI1.out, h2⟩)
  obtain ⟨m2, hm2⟩ : ∃ m2, m + nm * 3 = m2 := ⟨_, rfl⟩
  have HM2 := hide hm2
  rw [hm2]
  clear hm2 HV1 HI1 HS h2 hk hm hk1 d0 d1
  go_wp2
  go_ret
  exact ⟨by have e1 := HM.out; have e2 := HM2.out; subst e1; subst e2; rfl, by rw [HM.out]; exact HQ.out, hk2⟩
set_option maxHeartbeats 1000000 in
theorem held_saga (v0 v1 : Value) (na : Nat) (nm : Nat) (dn : Int) (un : Bool) (w : World) (hv : SagQ w v0 v1 na (mk1 1) nm (mk1 (1 + na))) (hs : ShortS na nm) :
    Calls Try.prog 22 #[.agg #[v0, v1, .int .i64 dn, .bool un], .int .i64 1] w fun e w' => e = .returned (.int .i64 ((1 + na + nm * 3 : Nat) : Int)) ∧ Below w.heap.size w w' := by
  have hbA := (Below.refl w.heap.size w).alloc (Nat.le_refl _) (.cells #[v0, v1, .int .i64 dn, .bool un] 27)
  have HV := hide (hv.below hbA)
  have HS := hide hs
  obtain ⟨a0, c0, rfl⟩ := hv.1.form
  obtain ⟨a1, c1, rfl⟩ := hv.2.form
  clear hv hs
  go_enter Try.func22, Try.ntmps22
  go_wp2_with fail
  refine (held_ints _ na 1 _ HV.out.1 HS.out.1 (by omega)).mono ?_
  rintro e w1 ⟨rfl, rfl⟩
  obtain ⟨m, hm⟩ : ∃ m, 1 + na = m := ⟨_, rfl⟩
  have hmn : ¬ ((m : Int) < 0) := by omega
  have hm1 : m ≤ 1000000000 := by have := HS.out.1; omega
  rw [hm] at HV ⊢
  have HM := hide hm
  clear hm
  go_wp2_with fail
  refine (held_moves _ nm m _ HV.out.2 HS.out.2 hm1).mono ?_
  rintro e w2 ⟨rfl, rfl⟩
  obtain ⟨m2, hm2⟩ : ∃ m2, m + nm * 3 = m2 := ⟨_, rfl⟩
  have hmn2 : ¬ ((m2 : Int) < 0) := by omega
  have HM2 := hide hm2
  rw [hm2]
  clear hm2 HV HS
  go_wp2
  go_ret
  exact ⟨by have e1 := HM.out; have e2 := HM2.out; subst e1; subst e2; rfl, hbA⟩
end Go.Proofs.Ytmpedadjikmnhaa

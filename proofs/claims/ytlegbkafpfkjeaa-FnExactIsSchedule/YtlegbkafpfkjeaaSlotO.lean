/-
  Slots that came in, read as data; the law of IsSchedule, walked.
-/
import Derived.Test.YtlegbkafpfkjeaaSlotT
namespace Go.Proofs.Ytlegbkafpfkjeaa
open Go.ChangeShapes Go.WideShapes Go.ChangeAt Go.RowKit Go.Joins Go.Deep
open M
open Clk (upd upd_same upd_other)
open Go.Sort (grow)
set_option maxHeartbeats 2000000 in
theorem sz_tasks2 (v : Value) (k : Nat) (ts : Nat → Tk) (w : World) (hv : TasksOf w v k ts) (hl : Lens k ts) :
    Calls Try.prog 12 #[v, .int .i64 1048576] w fun e w' => (∃ r : Int, e = .returned (.int .i64 r) ∧ ((r = -1) ∨ (0 ≤ r ∧ r ≤ 1048576 ∧ Small k ts))) ∧ Below w.heap.size w w' := by
  obtain ⟨a, cap, rfl, hr⟩ := hv
  have HR := hide hr
  have HL := hide hl.2
  have hk := hl.1
  unfold maxLen at hk
  clear hr hl
  by_cases hs : 1048576 - (k : Int) < 0
  · clear HR HL
    go_enter Try.func12, Try.ntmps12
    go_wp2
    go_ret
    exact ⟨⟨_, rfl, .inl rfl⟩, Below.refl _ _⟩
  · go_enter Try.func12, Try.ntmps12
    go_wp2
    go_loopw [1, 5] (fun x i wr => ∃ (j : Nat) (r : Int), j ≤ k ∧ i = .int .i64 j ∧ x = .int .i64 r ∧ Hid (r = 1048576 - (k : Int) - (tot ts j : Nat)) ∧ 0 ≤ r ∧ r ≤ 1048576 ∧ Below w.heap.size w wr) (fun _ i _ => k - (intOf i).toNat)
    case atStart => exact ⟨0, _, Nat.zero_le _, rfl, rfl, hide (by simp [tot]), by omega, by omega, Below.refl _ _⟩
    case round =>
      obtain ⟨j, r, hj, rfl, rfl, HT, hr0, hr1, hbw⟩ := hrel
      by_cases hlt : j < k
      · obtain ⟨b, off, rfl, hb, hrow⟩ := HR.out (by omega)
        obtain ⟨y, q1, q2, i1⟩ := hrow j hlt
        obtain ⟨a1, c1, rfl⟩ := i1.form
        have c0 := (hbw.cell (p := ⟨b, off + j * 2, none⟩) hb).trans q1
        have c1 := (hbw.cell (p := ⟨b, off + j * 2 + 1, none⟩) hb).trans q2
        have HLj := hide (HL.out j hlt)
        clear hrow HR q1 q2 i1 HL
        go_wp2_with fail
        refine (sz_task _ _ _ _ _ _ HLj.out hr0 hr1).mono ?_
        rintro e w1 ⟨⟨r2, rfl, hr2⟩, hb1⟩
        have hbw1 := hbw.trans (hb1.mono hbw.size)
        rcases hr2 with hr2 | ⟨hr2, hr20⟩
        · have hrn2 : r2 < 0 := by omega
          clear hr2 hb1 c0 c1
          go_wp2
          go_ret
          exact ⟨⟨_, rfl, .inl rfl⟩, hbw1⟩
        · have hrn2 : ¬ r2 < 0 := by omega
          have HT2 := hide (show r2 = 1048576 - (k : Int) - (tot ts (j + 1) : Nat) by have := HT.out; simp only [tot]; omega)
          have hr21 : r2 ≤ 1048576 := by omega
          clear hr2 hb1 c0 c1 HT HLj
          go_wp2
          exact ⟨⟨j + 1, r2, by omega, by go_num, rfl, HT2, hr20, hr21, hbw1⟩, by simp [intOf]; omega⟩
      · obtain rfl : j = k := by omega
        clear HR HL
        go_wp2
        go_ret
        exact ⟨⟨_, rfl, .inr ⟨hr0, hr1, by have := HT.out; unfold Small; omega⟩⟩, hbw⟩

theorem pick_q {α : Type} (z : α) {Pn : Nat → α → Prop} : ∀ n : Nat, (∀ i, i < n → ∃ e : α, Pn i e) → ∃ l : Nat → α, ∀ i, i < n → Pn i (l i)
  | 0, _ => ⟨fun _ => z, fun i h => absurd h (by omega)⟩
  | n + 1, h => by
    obtain ⟨l, hl⟩ := pick_q z n (fun i hi => h i (by omega))
    obtain ⟨e, he⟩ := h n (by omega)
    refine ⟨fun i => if i = n then e else l i, fun i hi => ?_⟩
    show Pn i (if i = n then e else l i)
    by_cases hin : i = n
    · subst hin; rw [if_pos rfl]; exact he
    · rw [if_neg hin]; exact hl i (by omega)
theorem cellsLawSlot : Try.prog.cellsOf 78 = 3 := by kernel_rfl
theorem cellsInt1 : Try.prog.cellsOf 3 = 1 := by kernel_rfl
set_option maxRecDepth 100000 in
theorem trod_slots {H : Type} {enc : TypeId × Value → H} {W : World} {fuel : Nat} {v : Value} {x : DataW H × List MemPlace}
    (hf : DataW.trod enc Try.prog W 0 (fun _ => true) true fuel 43 [v] = some x) : ∃ n f, SlotsOf W v n f ∧ n ≤ maxLen := by
  rcases open_slice Try.underlying43 hf with ⟨hcs, _⟩ | ⟨a, len, cap, m, n, D, Pl, hcs, _, hl, hm, hmm, _, hx⟩
  · simp at hcs
    subst hcs
    exact ⟨0, fun _ => 0, ⟨none, 0, rfl, fun h => absurd h (Nat.lt_irrefl _)⟩, Nat.zero_le _⟩
  · simp at hcs
    subst hcs
    simp only [if_true] at hmm
    subst hmm
    by_cases h0 : len = 0
    · subst h0
      exact ⟨0, fun _ => 0, ⟨some a, _, rfl, fun h => absurd h (Nat.lt_irrefl _)⟩, Nat.zero_le _⟩
    · have key : ∀ i, i < len → ∃ e : Int × Int × Int, W.cell? (a.add (i * 3)) = some (.int .i64 e.1) ∧ W.cell? (a.add (i * 3 + 1)) = some (.int .i64 e.2.1) ∧ W.cell? (a.add (i * 3 + 2)) = some (.int .i64 e.2.2) := by
        intro i hi
        obtain ⟨cs', h1, h2⟩ := hx i (by omega)
        rw [cellsLawSlot] at h1
        obtain ⟨_, hlen, hcell⟩ := World.cells?_some h1
        obtain ⟨xs, k, hk, hxy, _, hxl, hf⟩ := DataW.trod_struct Try.underlying78 h2
        match xs, hxl, cs', hlen with
        | [y0, y1, y2], _, [v0, v1, v2], _ =>
          have g0 := hf 0 _ rfl
          have g1 := hf 1 _ rfl
          have g2 := hf 2 _ rfl
          simp [cellsInt1] at g0 g1 g2
          have e0 := hcell 0 (by omega)
          have e1 := hcell 1 (by omega)
          have e2 := hcell 2 (by omega)
          rw [add_add] at e0 e1 e2
          obtain ⟨q0, r0, -, -⟩ := DataW.trod_int Try.underlying3 g0
          obtain ⟨q1, r1, -, -⟩ := DataW.trod_int Try.underlying3 g1
          obtain ⟨q2, r2, -, -⟩ := DataW.trod_int Try.underlying3 g2
          simp at r0 r1 r2
          subst r0
          subst r1
          subst r2
          exact ⟨(q0, q1, q2), by simpa using e0, by simpa using e1, by simpa using e2⟩
      obtain ⟨b, off, spot⟩ := a
      have hspot : spot = none := by
        obtain ⟨e, h1, _⟩ := key 0 (by omega)
        have := World.cell?_spot h1
        simpa [Addr.add] using this
      subst hspot
      have ha : ∀ n, (⟨b, off, none⟩ : Addr).add n = ⟨b, off + n, none⟩ := fun n => by unfold Addr.add; split <;> simp_all
      simp only [ha] at key
      obtain ⟨ts, hts⟩ := pick_q (0, 0, 0) len key
      refine ⟨len, fun q => if q % 3 = 0 then (ts (q / 3)).1 else if q % 3 = 1 then (ts (q / 3)).2.1 else (ts (q / 3)).2.2, ⟨_, _, rfl, fun _ => ⟨b, off, rfl, World.block_lt_of_cell? W _ (hts 0 (by omega)).1, fun q hq => ?_⟩⟩, by omega⟩
      obtain ⟨c0, c1, c2⟩ := hts (q / 3) (by omega)
      show W.cell? ⟨b, off + q, none⟩ = some (.int .i64 (if q % 3 = 0 then (ts (q / 3)).1 else if q % 3 = 1 then (ts (q / 3)).2.1 else (ts (q / 3)).2.2))
      rcases (show q % 3 = 0 ∨ q % 3 = 1 ∨ q % 3 = 2 by omega) with h | h | h
      · rw [if_pos h, ← c0]
        congr 2; omega
      · rw [if_neg (by omega), if_pos h, ← c1]
        congr 2; omega
      · rw [if_neg (by omega), if_neg (by omega), ← c2]
        congr 2; omega
set_option maxRecDepth 100000 in
theorem open_slots {H : Type} {enc : TypeId × Value → H} {W : World} {b0 : Nat} {v : Value} {d : DataW H} {p : List MemPlace}
    (hv : Value.okWide Try.prog W .any b0 43 v) (h : DataW.Trod enc Try.prog W 0 (fun _ => true) true 43 v d p) :
    ∃ n f, SlotsOf W v n f ∧ n ≤ maxLen := by
  obtain ⟨a0, len0, cap0, rfl⟩ := okWide_slice Try.underlying43 hv
  obtain ⟨fuel, hf⟩ := h
  exact trod_slots hf
set_option maxRecDepth 20000 in
set_option maxHeartbeats 4000000 in
theorem law_sched {Q : Prop} (v : Value) (k : Nat) (ts : Nat → Tk) (p : Int) (u : Value) (n : Nat) (f : Nat → Int) (w : World) (hv : TasksOf w v k ts) (hl : Lens k ts) (_ : Q) (hu : SlotsOf w u n f) (hn : n ≤ maxLen) :
    Calls Try.prog 10 #[v, .int .i64 p, u] w fun e w' => e = .returned (.bool true) ∧ Below w.heap.size w w' := by
  have HV := hide hv
  have HU := hide hu
  obtain ⟨a, cap, rfl⟩ := hv.form
  obtain ⟨a2, cap2, rfl⟩ := hu.form
  have HL := hide hl
  have HNm := hide hn
  clear hv hl hu hn
  go_enter Try.func10, Try.ntmps10
  go_wp2_with fail
  refine (sz_tasks2 _ k ts _ HV.out HL.out).mono ?_
  rintro e w1 ⟨⟨r, rfl, hr⟩, hb1⟩
  by_cases hrn : r < 0
  · clear hr HL HV HU
    go_wp2
    go_ret
    exact ⟨rfl, hb1⟩
  · have hsm : 0 ≤ r ∧ r ≤ 1048576 ∧ Small k ts := by
      rcases hr with h | h
      · omega
      · exact h
    have HSm := hide hsm.2.2
    have HS := hide hsm.2.2.short
    have hr0 := hsm.1
    have hr1 := hsm.2.1
    clear hr hsm HL
    go_wp2_with fail
    refine (sz_slots _ n _ r _ HNm.out hr0 hr1).mono ?_
    rintro e w1' ⟨⟨r2, rfl, hr2⟩, rfl⟩
    by_cases hrn2 : r2 < 0
    · clear hr2 HV HU
      go_wp2
      go_ret
      exact ⟨rfl, hb1⟩
    · have hn1 : n ≤ 1048576 := by omega
      obtain ⟨b2, h2⟩ : ∃ b, decide (SOk k p ts n) = b := ⟨_, rfl⟩
      obtain ⟨b1, h1⟩ : ∃ b, decide (SOk k p ts n ∧ Sched k p ts f n) = b := ⟨_, rfl⟩
      have H2 := hide h2
      have H1 := hide h1
      have hx1 : (b1 != b1) = false := by simp
      have hx2 : (b2 != b2) = false := by simp
      clear hr2 h1 h2
      go_wp2_with fail
      refine (to_tasks _ k ts _ (HV.out.below hb1) HS.out).mono ?_
      rintro e w2 ⟨⟨rfl, X2, hX2⟩, hb⟩
      have hb2 := hb1.trans (hb.mono hb1.size)
      clear hb hb1
      go_wp2_with fail
      refine (to_slots _ n f _ (HU.out.below hb2) hn1).mono ?_
      rintro e w3 ⟨⟨rfl, hY3⟩, hb⟩
      have hb3 := hb2.trans (hb.mono hb2.size)
      have hX3 := hX2.below hb
      clear hb hb2 hX2
      go_wp2_with fail
      refine (spec_sched _ _ k p n f ts b1 b2 _ (hX3.tasks (cap := k)) HS.out (hY3.slots (cap := n)) hn1 H2.out H1.out).mono ?_
      rintro e w4 ⟨rfl, hb⟩
      have hb4 := hb3.trans (hb.mono hb3.size)
      clear hb hb3 hX3 hY3
      go_wp2_with fail
      refine (to_tasks _ k ts _ (HV.out.below hb4) HS.out).mono ?_
      rintro e w5 ⟨⟨rfl, X5, hX5⟩, hb⟩
      have hb5 := hb4.trans (hb.mono hb4.size)
      clear hb hb4
      go_wp2_with fail
      refine (to_slots _ n f _ (HU.out.below hb5) hn1).mono ?_
      rintro e w6 ⟨⟨rfl, hY6⟩, hb⟩
      have hb6 := hb5.trans (hb.mono hb5.size)
      have hX6 := hX5.below hb
      clear hb hb5 hX5
      go_wp2_with fail
      refine (impl_sched _ _ k p n f ts b1 b2 _ (hX6.tasks (cap := k)) HS.out (hY6.slots (cap := n)) hn1 H2.out H1.out).mono ?_
      rintro e w7 ⟨rfl, hb⟩
      have hb7 := hb6.trans (hb.mono hb6.size)
      have HX7 := hide (hX6.below hb)
      have HY7 := hide (hY6.down hb)
      clear hb hb6 hX6 hY6
      go_wp2_with fail
      refine (to_tasks _ k ts _ (HV.out.below hb7) HS.out).mono ?_
      rintro e w8 ⟨⟨rfl, X8, hX8⟩, hb⟩
      have hb8 := hb7.trans (hb.mono hb7.size)
      have HX8 := hide (HX7.out.below hb)
      have HY8 := hide (HY7.out.down hb)
      clear hb hb7 HX7 HY7
      go_wp2_with fail
      refine (eq_tasks _ _ k ts _ (HX8.out.tasks (cap := k)) (hX8.tasks (cap := k)) HS.out).mono ?_
      rintro e w9 ⟨rfl, hb⟩
      have hb9 := hb8.trans (hb.mono hb8.size)
      have HY9 := hide (HY8.out.down hb)
      clear hb hb8 HX8 HY8 hX8
      go_wp2_with fail
      refine (to_slots _ n f _ (HU.out.below hb9) hn1).mono ?_
      rintro e w10 ⟨⟨rfl, hY10⟩, hb⟩
      have hb10 := hb9.trans (hb.mono hb9.size)
      have HY10 := hide (HY9.out.down hb)
      clear hb hb9 HY9
      go_wp2_with fail
      refine (eq_slots _ _ n f _ (HY10.out.slots (cap := n)) (hY10.slots (cap := n)) hn1).mono ?_
      rintro e w11 ⟨rfl, hb⟩
      have hb11 := hb10.trans (hb.mono hb10.size)
      clear hb hb10 HY10 hY10
      go_wp2
      go_ret
      exact ⟨rfl, hb11⟩
end Go.Proofs.Ytlegbkafpfkjeaa

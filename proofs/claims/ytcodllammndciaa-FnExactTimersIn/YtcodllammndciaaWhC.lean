/-
  Wheels in memory: marks on rows, and on wheels.
-/
import Derived.Test.YtcodllammndciaaWhB
namespace Go.Proofs.Ytcodllammndciaa
open Go.RowKit M
open Clk (upd upd_same upd_other)
open Go.Sort (grow)
namespace M
theorem AW.ext2 {t : TypeId} {w : World} {B g cap k : Nat} {rs rs' : Nat → Rw} {β : Nat → Nat} {X : Nat → Value} (h : AW t w B g cap k rs β X) (he : ∀ i, i < k → (rs i).n = (rs' i).n ∧ ∀ q, q < (rs i).n * 2 → (rs i).f q = (rs' i).f q) : AW t w B g cap k rs' β X := by
  refine ⟨h.ge, h.le, h.blk, fun i hi => ?_, fun i j hij hj h1 h2 => ?_⟩
  · obtain ⟨a, c, h1, h2⟩ := h.row i hi
    obtain ⟨e1, e2⟩ := he i hi
    rw [← e1]
    exact ⟨a, c, h1, fun hn => ⟨(h2 hn).1, (h2 hn).2.1, (h2 hn).2.2.ext e2⟩⟩
  · rw [← (he i (by omega)).1] at h1; rw [← (he j hj).1] at h2; exact h.apart i j hij hj h1 h2
theorem AnsW.ext2 {w : World} {B k : Nat} {v : Value} {rs rs' : Nat → Rw} (h : AnsW w B v k rs) (he : ∀ i, i < k → (rs i).n = (rs' i).n ∧ ∀ q, q < (rs i).n * 2 → (rs i).f q = (rs' i).f q) : AnsW w B v k rs' := by
  rcases h with h | ⟨g, cap, cap', β, X, hv, h⟩
  · exact .inl h
  · exact .inr ⟨g, cap, cap', β, X, hv, h.ext2 he⟩
theorem AW.turned {t : TypeId} {w w' : World} {B g cap k : Nat} {rs : Nat → Rw} {β : Nat → Nat} {X : Nat → Value} (h : AW t w B g cap k rs β X) (ht : t ≠ 40) {j : Nat} (hj : j < k) (hn : 0 < (rs j).n) {a : Option Addr} {c : Nat} (hx : X j = .slice a (rs j).n c) {f : Nat → Int}
    (ho : Only (β j) w w') (h1 : OwnT w' (β j) (rs j).n c f) : AW t w' B g cap k (upd rs j ⟨(rs j).n, f⟩) β X := by
  have hne := h.ne ht hj hn
  refine ⟨h.ge, h.le, ho.blk h.blk (fun e => hne e.symm), fun i hi => ?_, fun i i' hii hi' hn1 hn2 => ?_⟩
  · by_cases e : i = j
    · subst e
      rw [upd_same]
      obtain ⟨a', c', h3, h4⟩ := h.row i hi
      rw [hx] at h3
      cases h3
      exact ⟨a, c, hx, fun _ => ⟨(h4 hn).1, (h4 hn).2.1, h1⟩⟩
    · rw [upd_other _ _ _ _ e]
      obtain ⟨a', c', h3, h4⟩ := h.row i hi
      refine ⟨a', c', h3, fun hni => ⟨(h4 hni).1, (h4 hni).2.1, (h4 hni).2.2.only ho ?_⟩⟩
      rcases (show i < j ∨ j < i by omega) with h5 | h5
      · exact h.apart i j h5 hj hni hn
      · exact (h.apart j i h5 hi hn hni).symm
  · have q : ∀ x, (upd rs j ⟨(rs j).n, f⟩ x).n = (rs x).n := fun x => by
      by_cases e : x = j
      · subst e; rw [upd_same]
      · rw [upd_other _ _ _ _ e]
    rw [q] at hn1 hn2
    exact h.apart i i' hii hi' hn1 hn2
/-- Marks on rows. -/
def mkR (k0 : Nat) (rs : Nat → Rw) : Nat → Rw := fun i => ⟨(rs i).n, mkT (k0 + tot rs i * 2)⟩
def mkTo (k0 : Nat) (rs : Nat → Rw) (j : Nat) : Nat → Rw := fun i => if i < j then mkR k0 rs i else rs i
theorem mkTo_n (k0 : Nat) (rs : Nat → Rw) (j i : Nat) : (mkTo k0 rs j i).n = (rs i).n := by unfold mkTo; split <;> rfl
theorem mkTo_succ (k0 : Nat) (rs : Nat → Rw) (j : Nat) : upd (mkTo k0 rs j) j ⟨(rs j).n, mkT (k0 + tot rs j * 2)⟩ = mkTo k0 rs (j + 1) := by
  funext i
  unfold upd mkTo
  by_cases h : i = j
  · subst h; simp [mkR]
  · rw [if_neg h]
    by_cases h2 : i < j
    · rw [if_pos h2, if_pos (by omega)]
    · rw [if_neg h2, if_neg (by omega)]
/-- Only blocks from lo to hi may have turned. -/
structure Rng (lo hi : Nat) (w w' : World) : Prop where
  os : w'.os = w.os
  tape : w'.tape = w.tape
  output : w'.output = w.output
  size : w'.heap.size = w.heap.size
  block : ∀ k, k < lo ∨ hi ≤ k → w'.heap[k]? = w.heap[k]?
theorem Rng.refl (lo hi : Nat) (w : World) : Rng lo hi w w := ⟨rfl, rfl, rfl, rfl, fun _ _ => rfl⟩
theorem Rng.trans {lo hi : Nat} {a b c : World} (h : Rng lo hi a b) (h2 : Rng lo hi b c) : Rng lo hi a c :=
  ⟨h2.os.trans h.os, h2.tape.trans h.tape, h2.output.trans h.output, h2.size.trans h.size, fun k hk => (h2.block k hk).trans (h.block k hk)⟩
theorem Only.rng {g lo hi : Nat} {w w' : World} (h : Only g w w') (h1 : lo ≤ g) (h2 : g < hi) : Rng lo hi w w' :=
  ⟨h.os, h.tape, h.output, h.size, fun k hk => h.block k (by omega)⟩
/-- What was there is kept, but for blocks from lo to hi. -/
structure Kept (lo hi : Nat) (w w' : World) : Prop where
  os : w'.os = w.os
  tape : w'.tape = w.tape
  output : w'.output = w.output
  size : w.heap.size ≤ w'.heap.size
  block : ∀ k, k < w.heap.size → k < lo ∨ hi ≤ k → w'.heap[k]? = w.heap[k]?
theorem Below.kept {w w1 : World} (h : Below w.heap.size w w1) (lo hi : Nat) : Kept lo hi w w1 := ⟨h.os, h.tape, h.output, h.size, fun k hk _ => h.block k hk⟩
theorem Kept.rng {lo hi : Nat} {w w1 w2 : World} (h : Kept lo hi w w1) (h2 : Rng lo hi w1 w2) : Kept lo hi w w2 :=
  ⟨h2.os.trans h.os, h2.tape.trans h.tape, h2.output.trans h.output, by rw [h2.size]; exact h.size, fun k hk hl => (h2.block k hl).trans (h.block k hk hl)⟩
theorem Kept.below {lo hi B : Nat} {w w' : World} (h : Kept lo hi w w') (h1 : B ≤ lo) (h2 : B ≤ w.heap.size) : Below B w w' :=
  ⟨h.os, h.tape, h.output, h.size, fun k hk => h.block k (by omega) (.inl (by omega))⟩
theorem Kept.blk {lo hi : Nat} {w w' : World} (h : Kept lo hi w w') {g n : Nat} {f : Nat → Value} {t : TypeId} (hb : Blk w g n f t) (hg : g < lo ∨ hi ≤ g) : Blk w' g n f t := by
  unfold Blk; rw [h.block g hb.lt hg]; exact hb
theorem AW.kept {t : TypeId} {w w' : World} {lo hi B g cap k : Nat} {rs : Nat → Rw} {β : Nat → Nat} {X : Nat → Value} (h : AW t w B g cap k rs β X) (hk : Kept lo hi w w') (hB : hi ≤ B) : AW t w' B g cap k rs β X := by
  refine ⟨h.ge, h.le, hk.blk h.blk (.inr (by have := h.ge; omega)), fun i hi => ?_, h.apart⟩
  obtain ⟨a, c, h1, h2⟩ := h.row i hi
  refine ⟨a, c, h1, fun hn => ?_⟩
  obtain ⟨e1, e2, hc, k', hb, he⟩ := h2 hn
  exact ⟨e1, e2, hc, k', hk.blk hb (.inr (by omega)), he⟩
/-- Rows as an answer, all in blocks from B to hi. -/
def AnsX (w : World) (B hi : Nat) (v : Value) (k : Nat) (rs : Nat → Rw) : Prop :=
  (v = .slice none 0 0 ∧ k = 0) ∨ ∃ g cap cap' β X, v = .slice (some ⟨g, 0, none⟩) k cap' ∧ AW 52 w B g cap k rs β X ∧ ∀ i, i < k → 0 < (rs i).n → β i < hi
theorem AnsW.x {w : World} {B k : Nat} {v : Value} {rs : Nat → Rw} (h : AnsW w B v k rs) : AnsX w B w.heap.size v k rs := by
  rcases h with h | ⟨g, cap, cap', β, X, hv, h⟩
  · exact .inl h
  · exact .inr ⟨g, cap, cap', β, X, hv, h, fun i hi hn => by obtain ⟨_, _, _, h2⟩ := h.row i hi; exact (h2 hn).2.2.lt⟩
theorem AnsX.w {w : World} {B hi k : Nat} {v : Value} {rs : Nat → Rw} (h : AnsX w B hi v k rs) : AnsW w B v k rs := by
  rcases h with h | ⟨g, cap, cap', β, X, hv, h, _⟩
  · exact .inl h
  · exact .inr ⟨g, cap, cap', β, X, hv, h⟩
theorem AnsX.rows {w : World} {B hi k : Nat} {v : Value} {rs : Nat → Rw} (h : AnsX w B hi v k rs) : RowsOf w v k rs := h.w.rows
theorem AnsX.down {w w' : World} {B hi k : Nat} {v : Value} {rs : Nat → Rw} (h : AnsX w B hi v k rs) (hb : Below w.heap.size w w') : AnsX w' B hi v k rs := by
  rcases h with h | ⟨g, cap, cap', β, X, hv, h, h2⟩
  · exact .inl h
  · exact .inr ⟨g, cap, cap', β, X, hv, h.down hb, h2⟩
theorem AnsX.kept {w w' : World} {lo hi' B hi k : Nat} {v : Value} {rs : Nat → Rw} (h : AnsX w B hi v k rs) (hk : Kept lo hi' w w') (hB : hi' ≤ B) : AnsX w' B hi v k rs := by
  rcases h with h | ⟨g, cap, cap', β, X, hv, h, h2⟩
  · exact .inl h
  · exact .inr ⟨g, cap, cap', β, X, hv, h.kept hk hB, h2⟩
theorem Only.ge {g B : Nat} {w w' : World} (h : Only g w w') (hB : B ≤ g) : Below B w w' ∧ w'.heap.size = w.heap.size := ⟨h.below hB, h.size⟩
end M
set_option maxHeartbeats 2000000 in
theorem mark_rowsA (B hi g cap cap' k k0 : Nat) (rs : Nat → Rw) (β : Nat → Nat) (X : Nat → Value) (w : World) (h : AW 52 w B g cap k rs β X) (hhi : ∀ i, i < k → 0 < (rs i).n → β i < hi) (hs : Small k rs) (hk0 : k0 ≤ 100000000) :
    Calls Try.prog 40 #[.slice (some ⟨g, 0, none⟩) k cap', .int .i64 (k0 : Nat)] w fun e w' => e = .returned (.int .i64 ((k0 + tot rs k * 2 : Nat) : Int)) ∧ AW 52 w' B g cap k (mkR k0 rs) β X ∧ Rng B hi w w' := by
  have HM := hide h
  have HS := hide hs
  have HH := hide hhi
  have hk : k ≤ 1048576 := hs.short.1
  clear h hs hhi
  go_enter Try.func40, Try.ntmps40
  go_wp2
  go_loopw [1, 5] (fun x i wr => ∃ (j m : Nat), j ≤ k ∧ i = .int .i64 j ∧ x = .int .i64 (m : Int) ∧ Hid (m = k0 + tot rs j * 2) ∧ m ≤ 200000000 ∧ Hid (AW 52 wr B g cap k (mkTo k0 rs j) β X ∧ Rng B hi w wr)) (fun _ i _ => k - (intOf i).toNat)
  case atStart => exact ⟨0, k0, Nat.zero_le _, rfl, rfl, hide (by simp [tot]), by omega, hide ⟨HM.out.ext2 (fun i hi => by unfold mkTo; rw [if_neg (by omega)]; exact ⟨rfl, fun _ _ => rfl⟩), Rng.refl _ _ _⟩⟩
  case round =>
    obtain ⟨j, m, hj, rfl, rfl, HT, hm, HA⟩ := hrel
    by_cases hlt : j < k
    · obtain ⟨a, c, hx, hr⟩ := HA.out.1.row j hlt
      rw [mkTo_n] at hx hr
      have c0 := HA.out.1.blk.cell (show j < cap by have := HA.out.1.le; omega)
      rw [hx] at c0
      have hS := HS.out.short.2 j hlt
      have HT2 := hide (show m + (rs j).n * 2 = k0 + tot rs (j + 1) * 2 by rw [HT.out]; simp only [tot]; omega)
      have hm2 : m + (rs j).n * 2 ≤ 200000000 := by
        have h1 := HT2.out
        have h2 := tot_mono rs (i := j + 1) k hlt
        have h3 := HS.out
        unfold Small at h3
        omega
      by_cases hn : 0 < (rs j).n
      · obtain ⟨ha, hB, hO⟩ := hr hn
        subst ha
        have HO := hide hO
        have HX := hide hx
        clear hr hO hx
        go_wp2_with fail
        refine (mark_timers (β j) (rs j).n c m _ _ HO.out hS (by omega)).mono ?_
        rintro e w2 ⟨rfl, hO2, ho⟩
        have hA2 := HA.out.1.turned (by decide) hlt (by rw [mkTo_n]; exact hn) (by rw [mkTo_n]; exact HX.out) ho (by rw [mkTo_n]; exact hO2)
        rw [mkTo_n, show mkT m = mkT (k0 + tot rs j * 2) by rw [HT.out], mkTo_succ] at hA2
        have HA2 := hide (show _ ∧ Rng B hi w w2 from ⟨hA2, HA.out.2.trans (ho.rng hB (HH.out j hlt hn))⟩)
        clear hO2 ho hA2 HO HX HA HT c0
        go_wp2
        exact ⟨⟨j + 1, m + (rs j).n * 2, by omega, by go_num, rfl, HT2, hm2, HA2⟩, by simp [intOf]; omega⟩
      · have hn0 : (rs j).n = 0 := by omega
        rw [hn0] at c0
        have HA2 := hide (show AW 52 wr B g cap k (mkTo k0 rs (j + 1)) β X ∧ Rng B hi w wr from ⟨HA.out.1.ext2 (fun i hi => by
          rw [mkTo_n, mkTo_n]
          refine ⟨rfl, fun q hq => ?_⟩
          unfold mkTo
          by_cases e : i < j
          · rw [if_pos e, if_pos (by omega)]
          · rw [if_neg e]
            by_cases e2 : i = j
            · subst e2; omega
            · rw [if_neg (by omega)]), HA.out.2⟩)
        have HT3 := hide (show m = k0 + tot rs (j + 1) * 2 by have := HT2.out; omega)
        clear hr hx HA HT HT2 hn0 hn hS hm2
        go_wp2_with fail
        refine (mark_none _ _ _ _).mono ?_
        rintro e w2 ⟨rfl, rfl⟩
        go_wp2
        exact ⟨⟨j + 1, m, by omega, by go_num, rfl, HT3, hm, HA2⟩, by simp [intOf]; omega⟩
    · obtain rfl : j = k := by omega
      have HB := hide (show AW 52 wr B g cap j (mkR k0 rs) β X ∧ Rng B hi w wr from ⟨HA.out.1.ext2 (fun i hi => by unfold mkTo; rw [if_pos hi]; exact ⟨rfl, fun _ _ => rfl⟩), HA.out.2⟩)
      have HTT := hide (show (m : Int) = ((k0 + tot rs j * 2 : Nat) : Int) by rw [HT.out])
      clear HM HS HA HT HH
      go_wp2
      go_ret
      exact ⟨by rw [HTT.out]; rfl, HB.out⟩
theorem mark_rows0 (k0 : Int) (w : World) :
    Calls Try.prog 40 #[.slice none 0 0, .int .i64 k0] w fun e w' => e = .returned (.int .i64 k0) ∧ w' = w := by
  go_enter Try.func40, Try.ntmps40
  go_wp2
  refine wp_loop_rounds 1 ?_; rw [rounds_succ]
  go_wp2
  go_ret
  exact ⟨rfl, rfl⟩
theorem mark_rows (B hi k k0 : Nat) (v : Value) (rs : Nat → Rw) (w : World) (h : AnsX w B hi v k rs) (hs : Small k rs) (hk0 : k0 ≤ 100000000) :
    Calls Try.prog 40 #[v, .int .i64 (k0 : Nat)] w fun e w' => e = .returned (.int .i64 ((k0 + tot rs k * 2 : Nat) : Int)) ∧ AnsX w' B hi v k (mkR k0 rs) ∧ Rng B hi w w' := by
  rcases h with ⟨rfl, rfl⟩ | ⟨g, cap, cap', β, X, rfl, h, hhi⟩
  · refine (mark_rows0 _ w).mono ?_
    rintro e w' ⟨rfl, rfl⟩
    exact ⟨by simp [tot], .inl ⟨rfl, rfl⟩, Rng.refl _ _ _⟩
  · refine (mark_rowsA B hi g cap cap' k k0 rs β X w h hhi hs hk0).mono ?_
    rintro e w' ⟨rfl, h1, h2⟩
    exact ⟨rfl, .inr ⟨g, cap, cap', β, X, rfl, h1, hhi⟩, h2⟩
set_option maxHeartbeats 1000000 in
theorem mark_wheel (x : Int) (B hi k k0 : Nat) (v : Value) (rs : Nat → Rw) (w : World) (h : AnsX w B hi v k rs) (hs : Small k rs) (hk0 : k0 ≤ 100000000) :
    Calls Try.prog 14 #[.agg #[.int .i64 x, v], .int .i64 (k0 : Nat)] w fun e w' => e = .returned (.int .i64 ((k0 + tot rs k * 2 : Nat) : Int)) ∧ AnsX w' B hi v k (mkR k0 rs) ∧ Kept B hi w w' := by
  have hbA := (Below.refl w.heap.size w).alloc (Nat.le_refl _) (.cells #[.int .i64 x, v] 24)
  have HV := hide (h.down hbA)
  have HS := hide hs
  obtain ⟨a, cap, rfl⟩ := h.rows.form
  clear h hs
  go_enter Try.func14, Try.ntmps14
  go_wp2_with fail
  refine (mark_rows B hi k k0 _ rs _ HV.out HS.out hk0).mono ?_
  rintro e w1 ⟨rfl, h1, h2⟩
  have hbw := (Below.kept hbA B hi).rng h2
  have H1 := hide h1
  clear HV HS h1 h2 hbA
  obtain ⟨m, hm⟩ : ∃ m, k0 + tot rs k * 2 = m := ⟨_, rfl⟩
  have HM := hide hm
  rw [hm]
  clear hm
  go_wp2
  go_ret
  exact ⟨by rw [HM.out]; rfl, H1.out, hbw⟩
set_option maxHeartbeats 2000000 in
theorem held_rows (v : Value) (k k0 : Nat) (rs : Nat → Rw) (w : World) (hv : RowsOf w v k (mkR k0 rs)) (hs : Small k rs) (hk0 : k0 ≤ 100000000) :
    Calls Try.prog 41 #[v, .int .i64 (k0 : Nat)] w fun e w' => e = .returned (.int .i64 ((k0 + tot rs k * 2 : Nat) : Int)) ∧ w' = w := by
  obtain ⟨a, cap, rfl, hr⟩ := hv
  have HR := hide hr
  have HS := hide hs
  have hk : k ≤ 1048576 := hs.short.1
  clear hr hs
  go_enter Try.func41, Try.ntmps41
  go_wp2
  go_loop [1, 5] (fun x i => ∃ (j m : Nat), j ≤ k ∧ i = .int .i64 j ∧ x = .int .i64 (m : Int) ∧ Hid (m = k0 + tot rs j * 2) ∧ m ≤ 200000000) (fun _ i => k - (intOf i).toNat)
  case atStart => exact ⟨0, k0, Nat.zero_le _, rfl, rfl, hide (by simp [tot]), by omega⟩
  case round =>
    obtain ⟨j, m, hj, rfl, rfl, HT, hm⟩ := hrel
    by_cases hlt : j < k
    · obtain ⟨b, off, rfl, hb, hrow⟩ := HR.out (by omega)
      obtain ⟨y, q1, q2⟩ := hrow j hlt
      have q3 : TimersOf w y (rs j).n (mkT m) := by rw [HT.out]; exact q2
      obtain ⟨a1, c1, rfl⟩ := q3.form
      have HQ := hide q3
      have hS := HS.out.short.2 j hlt
      have HT2 := hide (show m + (rs j).n * 2 = k0 + tot rs (j + 1) * 2 by rw [HT.out]; simp only [tot]; omega)
      have hm2 : m + (rs j).n * 2 ≤ 200000000 := by
        have h1 := HT2.out
        have h2 := tot_mono rs (i := j + 1) k hlt
        have h3 := HS.out
        unfold Small at h3
        omega
      clear hrow HR q2 q3 HT
      go_wp2_with fail
      refine (held_timers _ (rs j).n m _ HQ.out hS (by omega)).mono ?_
      rintro e w2 ⟨rfl, rfl⟩
      have hnn : ¬ ((m + (rs j).n * 2 : Nat) : Int) < 0 := by omega
      clear HQ q1
      generalize m + (rs j).n * 2 = m2 at *
      go_wp2
      go_round
      case rel => exact ⟨j + 1, m2, by omega, by go_num, rfl, HT2, hm2⟩
      case measure => simp [intOf]; omega
    · obtain rfl : j = k := by omega
      have HTT := hide (show (m : Int) = ((k0 + tot rs j * 2 : Nat) : Int) by rw [HT.out])
      clear HR HS HT
      go_wp2
      go_ret
      exact ⟨by rw [HTT.out]; rfl, rfl⟩
set_option maxHeartbeats 1000000 in
theorem held_wheel (x : Int) (k k0 : Nat) (v : Value) (rs : Nat → Rw) (w : World) (hv : RowsOf w v k (mkR k0 rs)) (hs : Small k rs) (hk0 : k0 ≤ 100000000) :
    Calls Try.prog 15 #[.agg #[.int .i64 x, v], .int .i64 (k0 : Nat)] w fun e w' => e = .returned (.int .i64 ((k0 + tot rs k * 2 : Nat) : Int)) ∧ Below w.heap.size w w' := by
  have hbA := (Below.refl w.heap.size w).alloc (Nat.le_refl _) (.cells #[.int .i64 x, v] 24)
  have HV := hide (hv.below hbA)
  have HS := hide hs
  obtain ⟨a, cap, rfl⟩ := hv.form
  have hnn : ¬ ((k0 + tot rs k * 2 : Nat) : Int) < 0 := by omega
  clear hv hs
  go_enter Try.func15, Try.ntmps15
  go_wp2_with fail
  refine (held_rows _ k k0 rs _ HV.out HS.out hk0).mono ?_
  rintro e w1 ⟨rfl, rfl⟩
  clear HV HS
  obtain ⟨m, hm⟩ : ∃ m, k0 + tot rs k * 2 = m := ⟨_, rfl⟩
  have HM := hide hm
  rw [hm] at hnn ⊢
  clear hm
  go_wp2
  go_ret
  exact ⟨by rw [HM.out]; rfl, hbA⟩
end Go.Proofs.Ytcodllammndciaa

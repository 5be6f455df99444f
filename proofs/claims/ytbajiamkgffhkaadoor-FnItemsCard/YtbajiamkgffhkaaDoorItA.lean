/-
  Slices of items in memory (two numbers each), and what the law does with them: how much is left, copies in new memory, two that are told alike, marks that are written and found again.
-/
import Derived.Test.YtbajiamkgffhkaaDoorMem
import Derived.Test.YtbajiamkgffhkaaDoorItM
import Derived.Test.YtbajiamkgffhkaaDoorOwnR
import Derived.Lib.QuietBelow
import Derived.BigQuiet
namespace Go.Proofs.YtbajiamkgffhkaaDoor
open Go.RowKit M
open Clk (upd upd_same upd_other)
open Go.Sort (grow)
namespace M
/-- Only block g may have turned. -/
structure Only (g : Nat) (w w' : World) : Prop where
  os : w'.os = w.os
  tape : w'.tape = w.tape
  output : w'.output = w.output
  size : w'.heap.size = w.heap.size
  block : ∀ k, k ≠ g → w'.heap[k]? = w.heap[k]?
theorem Only.refl (g : Nat) (w : World) : Only g w w := ⟨rfl, rfl, rfl, rfl, fun _ _ => rfl⟩
theorem Only.set {g : Nat} {w w' : World} (h : Only g w w') (i : Nat) (v : Value) : Only g w (w'.setCell ⟨g, i, none⟩ v) :=
  have hb := (Below.refl g w').setCell (p := ⟨g, i, none⟩) (Nat.le_refl _) v
  ⟨hb.os.trans h.os, hb.tape.trans h.tape, hb.output.trans h.output, by rw [World.size_setCell]; exact h.size, fun k hk => by rw [Below.heap_setCell _ _ _ _ hk]; exact h.block k hk⟩
theorem Only.below {g B : Nat} {w w' : World} (h : Only g w w') (hB : B ≤ g) : Below B w w' :=
  ⟨h.os, h.tape, h.output, by rw [h.size]; exact Nat.le_refl _, fun k hk => h.block k (by omega)⟩
theorem Only.blk {g : Nat} {w w' : World} (h : Only g w w') {g' n : Nat} {f : Nat → Value} {t : TypeId} (hb : Blk w g' n f t) (hne : g' ≠ g) : Blk w' g' n f t := by
  unfold Blk; rw [h.block g' hne]; exact hb
abbrev Im.w (x : Im) : Value := .agg #[.int .i64 x.u, .int .i64 x.v]
/-- A slice of items that is read. -/
def ItemsOf (w : World) (v : Value) (n : Nat) (l : Nat → Im) : Prop :=
  ∃ a cap, v = .slice a n cap ∧ (0 < n → ∃ b off, a = some ⟨b, off, none⟩ ∧ b < w.heap.size ∧ ∀ i, i < n → w.cell? ⟨b, off + i * 2, none⟩ = some (.int .i64 (l i).u) ∧ w.cell? ⟨b, off + i * 2 + 1, none⟩ = some (.int .i64 (l i).v))
theorem ItemsOf.below {w w' : World} {v : Value} {n : Nat} {l : Nat → Im} (h : ItemsOf w v n l) (hb : Below w.heap.size w w') : ItemsOf w' v n l := by
  obtain ⟨a, cap, hv, hr⟩ := h
  refine ⟨a, cap, hv, fun hn => ?_⟩
  obtain ⟨b, off, ha, hlt, hrow⟩ := hr hn
  exact ⟨b, off, ha, Nat.lt_of_lt_of_le hlt hb.size, fun i hi => ⟨(hb.cell (p := ⟨b, off + i * 2, none⟩) hlt).trans (hrow i hi).1, (hb.cell (p := ⟨b, off + i * 2 + 1, none⟩) hlt).trans (hrow i hi).2⟩⟩
theorem ItemsOf.form {w : World} {v : Value} {n : Nat} {l : Nat → Im} (h : ItemsOf w v n l) : ∃ a cap, v = .slice a n cap := by
  obtain ⟨a, cap, hv, _⟩ := h; exact ⟨a, cap, hv⟩
theorem ItemsOf.ext {w : World} {v : Value} {n : Nat} {l l' : Nat → Im} (h : ItemsOf w v n l) (he : ∀ i, i < n → l i = l' i) : ItemsOf w v n l' := by
  obtain ⟨a, cap, hv, hr⟩ := h
  refine ⟨a, cap, hv, fun hn => ?_⟩
  obtain ⟨b, off, ha, hlt, hrow⟩ := hr hn
  exact ⟨b, off, ha, hlt, fun i hi => by rw [← he i hi]; exact hrow i hi⟩
theorem ItemsOf.nil (w : World) (a : Option Addr) (c : Nat) (l : Nat → Im) : ItemsOf w (.slice a 0 c) 0 l := ⟨a, c, rfl, fun h => absurd h (Nat.lt_irrefl _)⟩
/-- The cells of items, place by place. -/
def tv (l : Nat → Im) : Nat → Value := fun j => if j % 2 = 0 then .int .i64 (l (j / 2)).u else .int .i64 (l (j / 2)).v
theorem tv_even (l : Nat → Im) (i : Nat) : tv l (i * 2) = .int .i64 (l i).u := by
  unfold tv; rw [if_pos (by omega), show i * 2 / 2 = i by omega]
theorem tv_odd (l : Nat → Im) (i : Nat) : tv l (i * 2 + 1) = .int .i64 (l i).v := by
  unfold tv; rw [if_neg (by omega), show (i * 2 + 1) / 2 = i by omega]
theorem tv_ext {l l' : Nat → Im} {n : Nat} (h : ∀ i, i < n → l i = l' i) : ∀ j, j < n * 2 → tv l j = tv l' j := fun j hj => by
  unfold tv; rw [h (j / 2) (by omega)]
theorem tv_upd (l : Nat → Im) (i : Nat) (c : Im) : upd (upd (tv l) (i * 2) (.int .i64 c.u)) (i * 2 + 1) (.int .i64 c.v) = tv (upd l i c) := by
  funext j
  by_cases h1 : j = i * 2 + 1
  · subst h1
    rw [upd_same, tv_odd, upd_same]
  · rw [upd_other _ _ _ _ h1]
    by_cases h2 : j = i * 2
    · subst h2
      rw [upd_same, tv_even, upd_same]
    · rw [upd_other _ _ _ _ h2]
      have h3 : j / 2 ≠ i := by omega
      unfold tv
      rw [upd_other _ _ _ _ h3]
theorem madeIt (n : Nat) : madeCells #[(.int .i64 0 : Value), .int .i64 0] (n * 2) = cf (n * 2) (tv fun _ => im0) := by
  apply Array.ext_getElem?
  intro j
  by_cases hj : j < n * 2
  · rw [cf_get _ hj]
    have h1 : (madeCells #[(.int .i64 0 : Value), .int .i64 0] (n * 2))[j]? = some (#[(.int .i64 0 : Value), .int .i64 0][j % 2]!) := by simp [madeCells, hj]
    rw [h1]
    unfold tv
    rcases (show j % 2 = 0 ∨ j % 2 = 1 by omega) with h | h
    · rw [h]; rfl
    · rw [h]; rfl
  · rw [Array.getElem?_eq_none (by rw [size_madeCells]; omega), Array.getElem?_eq_none (by rw [cf_size]; omega)]
/-- n items at the head of a block of the call's own, with room behind. -/
def OwnI (w : World) (b n c : Nat) (l : Nat → Im) : Prop := n ≤ c ∧ ∃ h : Nat → Value, Blk w b (c * 2) h 57 ∧ ∀ q, q < n * 2 → h q = tv l q
theorem OwnI.lt {w : World} {b n c : Nat} {l : Nat → Im} (h : OwnI w b n c l) : b < w.heap.size := by
  obtain ⟨_, k, hb, _⟩ := h; exact hb.lt
theorem OwnI.down {w w' : World} {b n c : Nat} {l : Nat → Im} (h : OwnI w b n c l) (hb : Below w.heap.size w w') : OwnI w' b n c l := by
  obtain ⟨hc, k, hk, he⟩ := h
  exact ⟨hc, k, hk.down hb, he⟩
theorem OwnI.cellq {w : World} {b n c : Nat} {l : Nat → Im} (h : OwnI w b n c l) {q : Nat} (hq : q < n * 2) : w.cell? ⟨b, q, none⟩ = some (tv l q) := by
  obtain ⟨hc, k, hb, hk⟩ := h
  rw [← hk q hq]; exact hb.cell (by omega)
theorem OwnI.cell {w : World} {b n c : Nat} {l : Nat → Im} (h : OwnI w b n c l) {i : Nat} (hi : i < n) : w.cell? ⟨b, i * 2, none⟩ = some (.int .i64 (l i).u) ∧ w.cell? ⟨b, i * 2 + 1, none⟩ = some (.int .i64 (l i).v) := by
  rw [← tv_even, ← tv_odd]
  exact ⟨h.cellq (by omega), h.cellq (by omega)⟩
theorem OwnI.thaw {w : World} {b n c : Nat} {l : Nat → Im} (h : OwnI w b n c l) (q : Nat) : w.frozen? ⟨b, q, none⟩ = false := by
  obtain ⟨hc, k, hb, hk⟩ := h; exact hb.thaw q
theorem OwnI.set {w : World} {b n c : Nat} {l : Nat → Im} (h : OwnI w b n c l) (i : Nat) (x : Im) : OwnI ((w.setCell ⟨b, i * 2, none⟩ (.int .i64 x.u)).setCell ⟨b, i * 2 + 1, none⟩ (.int .i64 x.v)) b n c (upd l i x) := by
  obtain ⟨hc, k, hk, he⟩ := h
  refine ⟨hc, _, (hk.set _ _).set _ _, fun j hj => ?_⟩
  rw [← tv_upd]
  by_cases e : j = i * 2 + 1
  · subst e; rw [upd_same, upd_same]
  · rw [upd_other _ _ _ _ e, upd_other _ _ _ _ e]
    by_cases e2 : j = i * 2
    · subst e2; rw [upd_same, upd_same]
    · rw [upd_other _ _ _ _ e2, upd_other _ _ _ _ e2]; exact he j hj
theorem OwnI.setU {w : World} {b n c : Nat} {l : Nat → Im} (h : OwnI w b n c l) (i : Nat) (x : Int) : OwnI (w.setCell ⟨b, i * 2, none⟩ (.int .i64 x)) b n c (upd l i ⟨x, (l i).v⟩) := by
  obtain ⟨hc, k, hk, he⟩ := h
  refine ⟨hc, _, hk.set _ _, fun j hj => ?_⟩
  rw [← tv_upd]
  by_cases e : j = i * 2 + 1
  · subst e
    rw [upd_same, upd_other _ _ _ _ (by omega)]
    rw [he _ hj, tv_odd]
  · rw [upd_other _ _ _ _ e]
    by_cases e2 : j = i * 2
    · subst e2; rw [upd_same, upd_same]
    · rw [upd_other _ _ _ _ e2, upd_other _ _ _ _ e2]; exact he j hj
theorem OwnI.only {w w' : World} {g b n c : Nat} {l : Nat → Im} (h : OwnI w b n c l) (ho : Only g w w') (hne : b ≠ g) : OwnI w' b n c l := by
  obtain ⟨hc, k, hk, he⟩ := h
  exact ⟨hc, k, ho.blk hk hne, he⟩
theorem OwnI.ext {w : World} {b n c : Nat} {l l' : Nat → Im} (h : OwnI w b n c l) (he : ∀ i, i < n → l i = l' i) : OwnI w b n c l' := by
  obtain ⟨hc, k, hk, hq⟩ := h
  exact ⟨hc, k, hk, fun q h => by rw [hq q h, tv_ext he q h]⟩
theorem OwnI.items {w : World} {b n c c' : Nat} {l : Nat → Im} (h : OwnI w b n c l) : ItemsOf w (.slice (some ⟨b, 0, none⟩) n c') n l :=
  ⟨_, _, rfl, fun _ => ⟨b, 0, rfl, h.lt, fun i hi => by rw [Nat.zero_add]; exact h.cell hi⟩⟩
theorem Blk.ownI {w : World} {b n : Nat} {l : Nat → Im} (h : Blk w b (n * 2) (tv l) 57) : OwnI w b n n l := ⟨Nat.le_refl _, _, h, fun _ _ => rfl⟩
/-- Items as an answer: nil, or items at the head of a block from B on. -/
def AnsT (w : World) (B : Nat) (r : Value) (n : Nat) (l : Nat → Im) : Prop := (r = .slice none 0 0 ∧ n = 0) ∨ ∃ b c, r = .slice (some ⟨b, 0, none⟩) n c ∧ B ≤ b ∧ OwnI w b n c l
theorem AnsT.items {w : World} {B n : Nat} {r : Value} {l : Nat → Im} (h : AnsT w B r n l) : ItemsOf w r n l := by
  rcases h with ⟨rfl, rfl⟩ | ⟨b, c, rfl, _, hb⟩
  · exact .nil _ _ _ _
  · exact hb.items
theorem AnsT.form {w : World} {B n : Nat} {r : Value} {l : Nat → Im} (h : AnsT w B r n l) : ∃ a cap, r = .slice a n cap := h.items.form
theorem AnsT.down {w w' : World} {B n : Nat} {r : Value} {l : Nat → Im} (h : AnsT w B r n l) (hb : Below w.heap.size w w') : AnsT w' B r n l := by
  rcases h with h | ⟨b, c, hr, hB, hk⟩
  · exact .inl h
  · exact .inr ⟨b, c, hr, hB, hk.down hb⟩
theorem AnsT.only {w w' : World} {B n g : Nat} {r : Value} {l : Nat → Im} (h : AnsT w B r n l) (ho : Only g w w') (hg : g < B) : AnsT w' B r n l := by
  rcases h with h | ⟨b, c, hr, hB, hk⟩
  · exact .inl h
  · exact .inr ⟨b, c, hr, hB, hk.only ho (by omega)⟩
theorem AnsT.mono {w : World} {B B' n : Nat} {r : Value} {l : Nat → Im} (h : AnsT w B r n l) (hB : B' ≤ B) : AnsT w B' r n l := by
  rcases h with h | ⟨b, c, hr, hB2, hk⟩
  · exact .inl h
  · exact .inr ⟨b, c, hr, by omega, hk⟩
theorem AnsT.ext {w : World} {B n : Nat} {r : Value} {l l' : Nat → Im} (h : AnsT w B r n l) (he : ∀ i, i < n → l i = l' i) : AnsT w B r n l' := by
  rcases h with h | ⟨b, c, hr, hB2, hk⟩
  · exact .inl h
  · exact .inr ⟨b, c, hr, hB2, hk.ext he⟩
/-- The cells of n items as a list. -/
def tvs (n : Nat) (l : Nat → Im) : List Value := (List.range (n * 2)).map (tv l)
theorem tvs_len (n : Nat) (l : Nat → Im) : (tvs n l).length = n * 2 := by simp [tvs]
theorem tvs_get {n : Nat} {l : Nat → Im} {q : Nat} (h : q < n * 2) : (tvs n l)[q]? = some (tv l q) := by simp [tvs, h]
theorem tvs_snoc (n : Nat) (l : Nat → Im) : tvs (n + 1) l = tvs n l ++ [.int .i64 (l n).u, .int .i64 (l n).v] := by
  unfold tvs
  rw [show (n + 1) * 2 = n * 2 + 1 + 1 by omega, List.range_succ, List.range_succ]
  simp [tv_even, tv_odd]
theorem tvs_ext {n : Nat} {l l' : Nat → Im} (h : ∀ i, i < n → l i = l' i) : tvs n l = tvs n l' := by
  unfold tvs
  exact List.map_congr_left fun j hj => tv_ext h j (List.mem_range.1 hj)
theorem tvs_put (n : Nat) (l : Nat → Im) (x : Im) : tvs n l ++ [.int .i64 x.u, .int .i64 x.v] = tvs (n + 1) (upd l n x) := by
  rw [tvs_snoc, upd_same, tvs_ext (l := upd l n x) (l' := l) (fun i hi => upd_other _ _ _ _ (by omega))]
/-- A row that append gathered is such an answer. -/
theorem own_ansT {w : World} {B n : Nat} {v : Value} {l : Nat → Im} (h : w.ownsRow B 57 2 v n (tvs n l)) : AnsT w B v n l := by
  rcases h.2 with ⟨hv, h0⟩ | ⟨g, cap, cur, rfl, hB, hg, hc, hm, hs, ht⟩
  · exact .inl ⟨hv, h0⟩
  · refine .inr ⟨g, cap, rfl, hB, hc, fun i => cur.getD i undef, ?_, fun i hi => ?_⟩
    · unfold Blk
      rw [hg]
      congr 2
      apply Array.ext_getElem?
      intro j
      by_cases hj : j < cap * 2
      · rw [cf_get _ hj]
        have : j < cur.size := by omega
        simp [Array.getD, this]
      · rw [Array.getElem?_eq_none (by omega), Array.getElem?_eq_none (by rw [cf_size]; omega)]
    · have h1 : (tvs n l)[i]? = some (tv l i) := tvs_get hi
      rw [← ht, List.getElem?_take_of_lt (by omega), Array.getElem?_toList] at h1
      have : i < cur.size := by omega
      simp [Array.getD, this] at h1 ⊢
      exact h1
/-- Marks. -/
def mkI (k0 : Nat) : Nat → Im := fun i => ⟨((k0 + i * 2 : Nat) : Int), ((k0 + i * 2 : Nat) : Int) + 1⟩
end M
theorem info_item : (Tryd.prog.info? 57).map (fun i => (i.zero, i.size, i.bytes)) = some (some (.agg #[.int .i64 0, .int .i64 0]), 2, 16) := by kernel_rfl
theorem make_items (n : Nat) (h : n ≤ 1048576) (w : World) : (Instr.makeSlice 24 (.int .i64 (n : Int)) (.int .i64 (n : Int))).run Tryd.prog w = .ok (.slice (some ⟨w.heap.size, 0, none⟩) n n) (w.alloc (.cells (cf (n * 2) (tv fun _ => im0)) 57)) := by
  obtain ⟨i, hi, hz0, hz1, hz2⟩ := info_parts info_item
  have hr := run_make (P := Tryd.prog) w 24 57 i _ Tryd.underlying24 hi hz0 .i64 .i64 (n : Int) (n : Int) (by omega) (Int.le_refl _) (by rw [hz2]; omega) (by omega)
  rw [hr, hz1]
  simp only [Int.toNat_natCast]
  rw [← madeIt]
  rfl
set_option maxHeartbeats 2000000 in
theorem eq_item (x : Im) (w : World) :
    Calls Tryd.prog 30 #[.agg #[.int .i64 x.u, .int .i64 x.v], .agg #[.int .i64 x.u, .int .i64 x.v]] w fun e w' => e = .returned (.bool true) ∧ Below w.heap.size w w' := by
  have hbA := ((Below.refl w.heap.size w).alloc (Nat.le_refl _) (.cells #[.int .i64 x.u, .int .i64 x.v] 57)).alloc (by simp) (.cells #[.int .i64 x.u, .int .i64 x.v] 57)
  go_enter Tryd.func30, Tryd.ntmps30
  go_wp2
  go_ret
  exact ⟨rfl, hbA⟩
set_option maxHeartbeats 2000000 in
theorem eq_items (v u : Value) (n : Nat) (l : Nat → Im) (w : World) (hv : ItemsOf w v n l) (hu : ItemsOf w u n l) (hn : n ≤ 1048576) :
    Calls Tryd.prog 9 #[v, u] w fun e w' => e = .returned (.bool true) ∧ Below w.heap.size w w' := by
  obtain ⟨a, cap, rfl, hr⟩ := hv
  obtain ⟨a2, cap2, rfl, hr2⟩ := hu
  have HR := hide hr
  have HR2 := hide hr2
  have hnn : ((n : Int) != (n : Int)) = false := by simp
  clear hr hr2
  go_enter Tryd.func9, Tryd.ntmps9
  go_wp2
  go_loopw [5] (fun i wr => ∃ j : Nat, j ≤ n ∧ i = .int .i64 j ∧ Below w.heap.size w wr) (fun i _ => n - (intOf i).toNat)
  case atStart => exact ⟨0, Nat.zero_le _, rfl, Below.refl _ _⟩
  case round =>
    obtain ⟨j, hj, rfl, hbw⟩ := hrel
    by_cases hlt : j < n
    · obtain ⟨b, off, rfl, hb, hrow⟩ := HR.out (by omega)
      obtain ⟨b2, off2, rfl, hb2, hrow2⟩ := HR2.out (by omega)
      have k0 := cell_regrown ((hbw.cell (p := ⟨b, off + j * 2, none⟩) hb).trans (hrow j hlt).1)
      have k1 := cell_regrown ((hbw.cell (p := ⟨b, off + j * 2 + 1, none⟩) hb).trans (hrow j hlt).2)
      have g0 := cell_regrown ((hbw.cell (p := ⟨b2, off2 + j * 2, none⟩) hb2).trans (hrow2 j hlt).1)
      have g1 := cell_regrown ((hbw.cell (p := ⟨b2, off2 + j * 2 + 1, none⟩) hb2).trans (hrow2 j hlt).2)
      have hi0 : (0 : Int) ≤ (j : Int) := by omega
      have hi1 : (j : Int) < (n : Int) := by omega
      have HE := hide (show ∀ d os, Calls Tryd.prog 30 #[.agg #[.int .i64 (l j).u, .int .i64 (l j).v], .agg #[.int .i64 (l j).u, .int .i64 (l j).v]] (grow (redrawn wr d) os) fun e w'' => e = .returned (.bool true) ∧ ∃ p : Regrown, w'' = grow (redrawn wr p.d) p.os from fun d os =>
        Calls.regrown_of (eq_item _ _))
      clear hrow hrow2 HR HR2
      go_wp2
      refine wp_region_quiet_below (by kernel_rfl) (by kernel_rfl) ?_
      repeat (go_big_quiet_step (exact HE.out _ _))
      refine wpQuiet_nil ?_
      intro _ hw'
      obtain ⟨⟨dq, osq⟩, hw''⟩ := hw'
      subst hw''
      have hbw2 := hbw.trans ((below_regrown wr dq osq).mono hbw.size)
      go_wp2
      go_roundw
      case rel => exact ⟨j + 1, by omega, by go_num, hbw2⟩
      case measure => simp [intOf]; omega
    · obtain rfl : n = j := by omega
      clear HR HR2
      go_wp2
      go_ret
      exact ⟨rfl, hbw⟩
set_option maxHeartbeats 2000000 in
theorem mark_items (b n c c' k0 : Nat) (f : Nat → Im) (w : World) (hg : OwnI w b n c f) (hn : n ≤ 1048576) (hk0 : k0 ≤ 1000000000) :
    Calls Tryd.prog 12 #[.slice (some ⟨b, 0, none⟩) n c', .int .i64 (k0 : Nat)] w fun e w' => e = .returned (.int .i64 ((k0 + n * 2 : Nat) : Int)) ∧ OwnI w' b n c (mkI k0) ∧ Only b w w' := by
  have HG := hide hg
  clear hg
  go_enter Tryd.func12, Tryd.ntmps12
  go_wp2
  go_loopw [1, 5] (fun x i wr => ∃ (j : Nat) (g : Nat → Im), j ≤ n ∧ i = .int .i64 j ∧ x = .int .i64 ((k0 + j * 2 : Nat) : Int) ∧ Hid (OwnI wr b n c g ∧ ∀ q, q < j → g q = mkI k0 q) ∧ Only b w wr) (fun _ i _ => n - (intOf i).toNat)
  case atStart => exact ⟨0, f, Nat.zero_le _, rfl, rfl, hide ⟨HG.out, fun q hq => by omega⟩, Only.refl _ _⟩
  case round =>
    obtain ⟨j, g, hj, rfl, rfl, HA, hbw⟩ := hrel
    by_cases hlt : j < n
    · have d0 := (HA.out.1.cell hlt).1
      have f0 := HA.out.1.thaw (j * 2)
      have hA1 := HA.out.1.setU j ((k0 + j * 2 : Nat) : Int)
      have d1 := (hA1.cell hlt).2
      simp only [upd_same] at d1
      have f1 := hA1.thaw (j * 2 + 1)
      have hA2 := HA.out.1.set j (mkI k0 j)
      have HA2 := hide (show OwnI _ b n c _ ∧ (∀ q, q < j + 1 → upd g j (mkI k0 j) q = mkI k0 q) from ⟨hA2, fun q hq => by
        by_cases e : q = j
        · subst e; rw [upd_same]
        · rw [upd_other _ _ _ _ e]; exact HA.out.2 q (by omega)⟩)
      simp only [mkI] at HA2
      have hbw2 := (hbw.set (j * 2) (.int .i64 ((k0 + j * 2 : Nat) : Int))).set (j * 2 + 1) (.int .i64 (((k0 + j * 2 : Nat) : Int) + 1))
      have HE := hide (show ((k0 + (j + 1) * 2 : Nat) : Int) = ((k0 + j * 2 : Nat) : Int) + 1 + 1 by omega)
      have hb0 : k0 + j * 2 ≤ 1010000000 := by omega
      clear HA HG hA1 hA2
      generalize k0 + j * 2 = m at *
      go_wp2
      exact ⟨⟨j + 1, _, by omega, by go_num, by rw [HE.out], HA2, hbw2⟩, by simp [intOf]; omega⟩
    · obtain rfl : j = n := by omega
      have HB := hide (HA.out.1.ext HA.out.2)
      clear HA HG
      go_wp2
      go_ret
      exact ⟨rfl, HB.out, hbw⟩
theorem mark_none (a : Option Addr) (c : Nat) (k0 : Int) (w : World) :
    Calls Tryd.prog 12 #[.slice a 0 c, .int .i64 k0] w fun e w' => e = .returned (.int .i64 k0) ∧ w' = w := by
  go_enter Tryd.func12, Tryd.ntmps12
  go_wp2
  refine wp_loop_rounds 1 ?_; rw [rounds_succ]
  go_wp2
  go_ret
  exact ⟨rfl, rfl⟩
theorem mark_ansT (B n k0 : Nat) (r : Value) (f : Nat → Im) (w : World) (h : AnsT w B r n f) (hn : n ≤ 1048576) (hk0 : k0 ≤ 1000000000) :
    Calls Tryd.prog 12 #[r, .int .i64 (k0 : Nat)] w fun e w' => e = .returned (.int .i64 ((k0 + n * 2 : Nat) : Int)) ∧ AnsT w' B r n (mkI k0) ∧ Below B w w' ∧ w'.heap.size = w.heap.size := by
  rcases h with ⟨rfl, rfl⟩ | ⟨b, c, rfl, hB, hk⟩
  · refine (mark_none none 0 (k0 : Nat) w).mono ?_
    rintro e w' ⟨rfl, rfl⟩
    exact ⟨rfl, .inl ⟨rfl, rfl⟩, Below.refl _ _, rfl⟩
  · refine (mark_items b n c c k0 f w hk hn hk0).mono ?_
    rintro e w' ⟨rfl, hk', ho⟩
    exact ⟨rfl, .inr ⟨b, c, rfl, hB, hk'⟩, ho.below hB, ho.size⟩
set_option maxHeartbeats 2000000 in
theorem held_items (v : Value) (n k0 : Nat) (w : World) (hv : ItemsOf w v n (mkI k0)) (hn : n ≤ 1048576) (hk0 : k0 ≤ 1000000000) :
    Calls Tryd.prog 13 #[v, .int .i64 (k0 : Nat)] w fun e w' => e = .returned (.int .i64 ((k0 + n * 2 : Nat) : Int)) ∧ w' = w := by
  obtain ⟨a, cap, rfl, hr⟩ := hv
  have HR := hide hr
  clear hr
  go_enter Tryd.func13, Tryd.ntmps13
  go_wp2
  go_loop [1, 5] (fun x i => ∃ j : Nat, j ≤ n ∧ i = .int .i64 j ∧ x = .int .i64 ((k0 + j * 2 : Nat) : Int)) (fun _ i => n - (intOf i).toNat)
  case atStart => exact ⟨0, Nat.zero_le _, rfl, rfl⟩
  case round =>
    obtain ⟨j, hj, rfl, rfl⟩ := hrel
    by_cases hlt : j < n
    · obtain ⟨b, off, rfl, hb, hrow⟩ := HR.out (by omega)
      obtain ⟨c0, c1⟩ := hrow j hlt
      simp only [mkI] at c0 c1
      have HE := hide (show ((k0 + (j + 1) * 2 : Nat) : Int) = ((k0 + j * 2 : Nat) : Int) + 1 + 1 by omega)
      have hb0 : k0 + j * 2 ≤ 1010000000 := by omega
      generalize k0 + j * 2 = m at *
      clear HR hrow
      go_wp2
      go_round
      case rel => exact ⟨j + 1, by omega, by go_num, by rw [HE.out]⟩
      case measure => simp [intOf]; omega
    · obtain rfl : j = n := by omega
      clear HR
      go_wp2
      go_ret
      exact ⟨rfl, rfl⟩
end Go.Proofs.YtbajiamkgffhkaaDoor

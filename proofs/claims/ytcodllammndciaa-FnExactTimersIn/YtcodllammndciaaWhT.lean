/-
  Rows of timers copied by slices.Clone; a wheel's slots while it turns (the program's turningOf).
-/
import Derived.Test.YtcodllammndciaaWhG
import Derived.Deep.AppendLies
import Derived.Lib.SliceRun
namespace Go.Proofs.Ytcodllammndciaa
open Go.RowKit M
open Clk (upd upd_same upd_other)
open Go.Sort (grow)
namespace M
/-- A row of timers that the call owns, or none at all. -/
def OwnV (w : World) (B : Nat) (a : Option Addr) (n c : Nat) (f : Nat → Int) : Prop := 0 < n → ∃ b, a = some ⟨b, 0, none⟩ ∧ B ≤ b ∧ OwnT w b n c f
def tv (n : Nat) (f : Nat → Int) : List Value := (List.range (n * 2)).map (iv f)
theorem tv_len (n : Nat) (f : Nat → Int) : (tv n f).length = n * 2 := by simp [tv]
theorem tv_get {n q : Nat} {f : Nat → Int} (h : q < n * 2) : (tv n f)[q]? = some (.int .i64 (f q)) := by unfold tv; rw [List.getElem?_map, List.getElem?_range h]; rfl
theorem tv_one {n : Nat} {f : Nat → Int} : ∀ u ∈ tv n f, u.oneCell' = true := by
  intro u hu
  unfold tv at hu
  obtain ⟨q, _, rfl⟩ := List.mem_map.1 hu
  rfl
theorem own_empty (w : World) (e size : Nat) : (w.alloc (.cells #[] e)).ownsRow w.heap.size e size (.slice (some ⟨w.heap.size, 0, none⟩) 0 0) 0 [] := by
  refine ⟨by simp, .inr ⟨w.heap.size, 0, #[], rfl, Nat.le_refl _, heap_alloc_new w _, Nat.le_refl _, Nat.zero_le _, by simp, by simp⟩⟩
theorem own_V {w : World} {B n : Nat} {v : Value} {f : Nat → Int} (h : w.ownsRow B 40 2 v n (tv n f)) : ∃ a c, v = .slice a n c ∧ n ≤ c ∧ OwnV w B a n c f := by
  rcases h.2 with ⟨rfl, rfl⟩ | ⟨g, cap, cur, rfl, hB, hg, hc, hm, hs, ht⟩
  · exact ⟨_, _, rfl, Nat.le_refl _, fun h => absurd h (Nat.lt_irrefl _)⟩
  · refine ⟨_, _, rfl, hc, fun _ => ⟨g, rfl, hB, hc, fun i => cur.getD i undef, ?_, fun i hi => ?_⟩⟩
    · unfold Blk
      rw [hg]
      congr 2
      apply Array.ext_getElem?
      intro j
      by_cases hj : j < cap * 2
      · rw [cf_get _ hj]
        have : j < cur.size := by omega
        simp [Array.getD, this]
      · rw [Array.getElem?_eq_none (by omega), Array.getElem?_eq_none (by rw [cf_size]; omega)]
    · have h1 := tv_get (f := f) hi
      rw [← ht, List.getElem?_take_of_lt (by omega), Array.getElem?_toList] at h1
      have : i < cur.size := by omega
      simp [Array.getD, this] at h1 ⊢
      exact h1
theorem Blk.same {w wx : World} {g n : Nat} {f : Nat → Value} {t : TypeId} (h : Blk w g n f t) (hh : wx.heap = w.heap) : Blk wx g n f t := by unfold Blk; rw [hh]; exact h
theorem AW.same {t : TypeId} {w wx : World} {B g cap k : Nat} {rs : Nat → Rw} {β : Nat → Nat} {X : Nat → Value} (h : AW t w B g cap k rs β X) (hh : wx.heap = w.heap) : AW t wx B g cap k rs β X := by
  refine ⟨h.ge, h.le, h.blk.same hh, fun i hi => ?_, h.apart⟩
  obtain ⟨a, c, h1, h2⟩ := h.row i hi
  refine ⟨a, c, h1, fun hn => ?_⟩
  obtain ⟨e1, e2, hc, k', hb, he⟩ := h2 hn
  exact ⟨e1, e2, hc, k', hb.same hh, he⟩
theorem owns_same {w wx : World} {B e s n : Nat} {v : Value} {xs : List Value} (h : w.ownsRow B e s v n xs) (hh : wx.heap = w.heap) : wx.ownsRow B e s v n xs := by
  refine ⟨h.1, ?_⟩
  rcases h.2 with h0 | ⟨g, cap, cur, hv, hB, hg, r⟩
  · exact .inl h0
  · exact .inr ⟨g, cap, cur, hv, hB, by rw [hh]; exact hg, r⟩
theorem owns_set {w : World} {B e s n g m : Nat} {v : Value} {xs : List Value} {f : Nat → Value} {e' : TypeId} (h : w.ownsRow B e s v n xs) (hb : Blk w g m f e') (hne : e' ≠ e) (i : Nat) (x : Value) : (w.setCell ⟨g, i, none⟩ x).ownsRow B e s v n xs := by
  refine ⟨h.1, ?_⟩
  rcases h.2 with h0 | ⟨g', cap, cur, hv, hB, hg, r⟩
  · exact .inl h0
  · refine .inr ⟨g', cap, cur, hv, hB, ?_, r⟩
    rw [Go.heap_setCell_other]
    · exact hg
    · intro e2
      have e3 : g' = g := e2
      unfold Blk at hb
      rw [← e3, hg] at hb
      simp only [Option.some.injEq, Obj.cells.injEq] at hb
      exact hne hb.2.1.symm
/-- A wheel's slots while it turns: block g has the 24 headers, each row is the call's own, whole, and apart from the others. -/
structure TW (w : World) (B g : Nat) (rs : Nat → Rw) (X : Nat → Value) : Prop where
  ge : B ≤ g
  blk : Blk w g 24 X 99
  row : ∀ i, i < 24 → w.ownsRow B 40 2 (X i) (rs i).n (tv (rs i).n (rs i).f)
  apart : ∀ i j, i < 24 → j < 24 → i ≠ j → ∀ q, (X i).ownBlock = some q → (X j).ownBlock ≠ some q
theorem TW.same {w wx : World} {B g : Nat} {rs : Nat → Rw} {X : Nat → Value} (h : TW w B g rs X) (hh : wx.heap = w.heap) : TW wx B g rs X :=
  ⟨h.ge, h.blk.same hh, fun i hi => owns_same (h.row i hi) hh, h.apart⟩
theorem TW.down {w w' : World} {B g : Nat} {rs : Nat → Rw} {X : Nat → Value} (h : TW w B g rs X) (hb : Below w.heap.size w w') : TW w' B g rs X :=
  ⟨h.ge, h.blk.down hb, fun i hi => owns_below (h.row i hi) hb, h.apart⟩
theorem TW.mono {w : World} {B B' g : Nat} {rs : Nat → Rw} {X : Nat → Value} (h : TW w B g rs X) (hB : B' ≤ B) : TW w B' g rs X :=
  ⟨Nat.le_trans hB h.ge, h.blk, fun i hi => owns_mono (h.row i hi) hB, h.apart⟩
theorem TW.ext {w : World} {B g : Nat} {rs rs' : Nat → Rw} {X : Nat → Value} (h : TW w B g rs X) (he : ∀ i, i < 24 → rs i = rs' i) : TW w B g rs' X :=
  ⟨h.ge, h.blk, fun i hi => by rw [← he i hi]; exact h.row i hi, h.apart⟩
/-- Another row in the place of row j, in a block that is no other row's. -/
theorem TW.put {w : World} {B g : Nat} {rs : Nat → Rw} {X : Nat → Value} (h : TW w B g rs X) {j : Nat} (hj : j < 24) (v : Value) (r : Rw) (ho : w.ownsRow B 40 2 v r.n (tv r.n r.f)) (hne : ∀ i, i < 24 → i ≠ j → ∀ q, (X i).ownBlock = some q → v.ownBlock ≠ some q) :
    TW (w.setCell ⟨g, j, none⟩ v) B g (upd rs j r) (upd X j v) := by
  refine ⟨h.ge, h.blk.set _ _, fun i hi => ?_, fun i i' hi hi' hii q hq => ?_⟩
  · by_cases e : i = j
    · subst e; rw [upd_same, upd_same]; exact owns_set ho h.blk (by decide) _ _
    · rw [upd_other _ _ _ _ e, upd_other _ _ _ _ e]; exact owns_set (h.row i hi) h.blk (by decide) _ _
  · by_cases e : i = j
    · subst e
      rw [upd_same] at hq
      rw [upd_other _ _ _ _ (fun e => hii e.symm)]
      intro h2
      exact hne i' hi' (fun e => hii e.symm) q h2 hq
    · rw [upd_other _ _ _ _ e] at hq
      by_cases e' : i' = j
      · subst e'; rw [upd_same]; exact hne i hi e q hq
      · rw [upd_other _ _ _ _ e']; exact h.apart i i' hi hi' hii q hq
theorem tw_new (w : World) (rs : Nat → Rw) (B : Nat) (hB : B ≤ w.heap.size) : TW (w.alloc (.cells (cf 24 (fun _ => .slice none 0 0)) 99)) B w.heap.size (cut rs 0) (fun _ => .slice none 0 0) := by
  refine ⟨hB, Blk.new w 24 _ _, fun i hi => ?_, fun i j _ _ _ q hq => by simp [Value.ownBlock] at hq⟩
  have : cut rs 0 i = noRow := by unfold cut; rw [if_neg (by omega)]
  rw [this]
  exact World.ownsRow_nil _ _ _ _
theorem TW.lt {w : World} {B g : Nat} {rs : Nat → Rw} {X : Nat → Value} (h : TW w B g rs X) {i : Nat} (hi : i < 24) {q : Nat} (hq : (X i).ownBlock = some q) : q < w.heap.size := ((h.row i hi).lt q hq).2
/-- One timer more in a row. -/
def Rw.snoc (r : Rw) (tm id : Int) : Rw := ⟨r.n + 1, upd (upd r.f (r.n * 2) tm) (r.n * 2 + 1) id⟩
theorem tv_snoc (r : Rw) (tm id : Int) : tv (r.snoc tm id).n (r.snoc tm id).f = tv r.n r.f ++ [.int .i64 tm, .int .i64 id] := by
  unfold tv Rw.snoc
  rw [show (r.n + 1) * 2 = r.n * 2 + 1 + 1 by omega, List.range_succ, List.range_succ]
  simp only [List.map_append, List.map_cons, List.map_nil, List.append_assoc, List.cons_append, List.nil_append]
  congr 1
  · apply List.map_congr_left
    intro q hq
    have hq' := List.mem_range.1 hq
    unfold iv
    rw [upd_other _ _ _ _ (by omega), upd_other _ _ _ _ (by omega)]
  · unfold iv
    rw [upd_other _ _ _ _ (by omega), upd_same, upd_same]
end M
set_option maxRecDepth 20000 in
set_option maxHeartbeats 2000000 in
theorem clone_timers (v : Value) (n : Nat) (f : Nat → Int) (w : World) (hv : TimersOf w v n f) (hn : n ≤ 1048576) :
    Calls Try.prog 77 #[v] w fun e w' => (∃ v', e = .returned v' ∧ w'.ownsRow w.heap.size 40 2 v' n (tv n f)) ∧ Below w.heap.size w w' := by
  obtain ⟨i0, hi, hz0, hz1, hz2⟩ := info_parts info_timer
  obtain ⟨a, cap, rfl, hr⟩ := hv
  have hq := fun (w : World) (a : Option Addr) (n c n' c' : Nat) => Lib.run_eql_slice_nil (P := Try.prog) w 52 _ a n c n' c' Try.underlying52
  cases a with
  | none =>
    have hn0 : n = 0 := by
      rcases Nat.eq_zero_or_pos n with h | h
      · exact h
      · obtain ⟨b, off, h2, _⟩ := hr h; cases h2
    subst hn0
    clear hr
    go_enter Try.func77, Try.ntmps77
    go_wp2
    go_ret
    exact ⟨⟨_, rfl, World.ownsRow_nil _ _ _ _⟩, Below.refl _ _⟩
  | some ad =>
    have hbA := (Below.refl w.heap.size w).alloc (Nat.le_refl _) (.cells #[] 40)
    have hO := own_empty w 40 2
    have hnews : ∀ j u, (tv n f)[j]? = some u → (w.alloc (.cells #[] 40)).cell? (ad.add j) = some u := by
      intro j u hj
      have hjn : j < n * 2 := by have := (List.getElem?_eq_some_iff.1 hj).1; rwa [tv_len] at this
      rw [tv_get hjn] at hj
      cases hj
      obtain ⟨b, off, h1, h2, h3⟩ := hr (by omega)
      cases h1
      rw [show (⟨b, off, none⟩ : Addr).add j = ⟨b, off + j, none⟩ by unfold Addr.add; split <;> simp_all]
      exact (hbA.cell (p := ⟨b, off + j, none⟩) h2).trans (h3 j hjn)
    have HNw := hide hnews
    have HTv := hide (tv_len n f)
    clear hr hnews
    go_enter Try.func77, Try.ntmps77
    go_wp2_with (at_builtin; refine wpList_append_own _ rfl _ _ 52 rfl w.heap.size 40 i0 _ 2 16 Try.underlying52 hi hz0 hz1 hz2 rfl (by decide) _ 0 _ rfl hO ad n cap (tv n f) rfl HTv.out HNw.out tv_one (by unfold maxLen; omega) (by omega) (by simp) ?_)
    intro v7 w7 hown7 hgrow7 _
    obtain ⟨a7, c7, rfl⟩ := own_form hown7
    have hb7 : Below w.heap.size w w7 := hbA.grown hgrow7 (by simp) (fun q hq => (hO.lt q hq).1)
    have HV := hide hown7
    clear hgrow7 hown7 hO HNw
    go_wp2
    go_ret
    exact ⟨⟨_, rfl, HV.out⟩, hb7⟩
set_option maxRecDepth 20000 in
set_option maxHeartbeats 4000000 in
theorem turning_of (x : Int) (v : Value) (rs : Nat → Rw) (w : World) (hv : RowsOf w v 24 rs) (hs : Short 24 rs) :
    Calls Try.prog 58 #[.agg #[.int .i64 x, v]] w fun e w' => (∃ g X, e = .returned (.pointer (some ⟨g, 0, none⟩)) ∧ TW w' w.heap.size g rs X) ∧ Below w.heap.size w w' := by
  obtain ⟨a, cap, rfl, hr⟩ := hv
  have HR := hide hr
  have HS := hide hs.2
  have hbA := (Below.refl w.heap.size w).alloc (Nat.le_refl _) (.cells #[.int .i64 x, .slice a 24 cap] 24)
  clear hr hs
  have hA0 := tw_new (w.alloc (.cells #[.int .i64 x, .slice a 24 cap] 24)) rs w.heap.size (by simp)
  rw [World.size_alloc] at hA0
  have HA0 := hide hA0
  have hb0 := hbA.alloc hbA.size (.cells (cf 24 (fun _ => .slice none 0 0)) 99)
  clear hA0
  go_enter Try.func58, Try.ntmps58
  go_wp2_with fail
  go_loopw [9] (fun i wr => ∃ (j : Nat) (X : Nat → Value), j ≤ 24 ∧ i = .int .i64 (j : Int) ∧ Hid (TW wr w.heap.size (w.heap.size + 1) (cut rs j) X) ∧ Below w.heap.size w wr) (fun i _ => 24 - (intOf i).toNat)
  case atStart => exact ⟨0, _, Nat.zero_le _, rfl, HA0, hb0⟩
  case round =>
    rename World => wo
    obtain ⟨j, X, hj, rfl, HA, hbw⟩ := hrel
    by_cases hlt : j < 24
    · obtain ⟨b, off, rfl, hb, hrow⟩ := HR.out (by omega)
      obtain ⟨y, q1, i1⟩ := hrow j hlt
      have c0 := (hbw.cell (p := ⟨b, off + j, none⟩) hb).trans q1
      have I1 := hide (i1.below hbw)
      have HSj := hide (HS.out j hlt)
      obtain ⟨a1, c1, rfl⟩ := i1.form
      have hj0 : (0 : Int) ≤ (j : Int) := by omega
      have hj1 : (j : Int) < 24 := by omega
      obtain ⟨lv, hlv⟩ : ∃ l, j / 8 = l := ⟨_, rfl⟩
      obtain ⟨im, him⟩ : ∃ l, j % 8 = l := ⟨_, rfl⟩
      have hq : (j : Int).tdiv 8 = (lv : Int) := by rw [Int.tdiv_eq_ediv_of_nonneg (by omega)]; omega
      have hm : (j : Int).tmod 8 = (im : Int) := by rw [Int.tmod_eq_emod_of_nonneg (by omega)]; omega
      have hlv0 : (0 : Int) ≤ (lv : Int) := by omega
      have hlv3 : (lv : Int) < 3 := by omega
      have him0 : (0 : Int) ≤ (im : Int) := by omega
      have him8 : (im : Int) < 8 := by omega
      have HJe := hide (show lv * 8 + im = j by omega)
      have hw1 : IntKind.i64.wrap (lv : Int) = (lv : Int) := by rw [IntKind.wrap_i64]; omega
      have hw2 : IntKind.i64.wrap (im : Int) = (im : Int) := by rw [IntKind.wrap_i64]; omega
      have hnl : lv < 3 := by omega
      have hni : im < 8 := by omega
      have hA1 := HA.out
      obtain ⟨a', c', hx⟩ := own_form (hA1.row j hlt)
      have hgl := hA1.blk.lt
      have HJ := hide (show ∀ wx wy : World, wx.heap = wo.heap → Below wx.heap.size wx wy → TW wy w.heap.size (w.heap.size + 1) (cut rs j) X ∧ wy.cell? ⟨w.heap.size + 1, lv * 8 + im, none⟩ = some (.slice a' (cut rs j j).n c') ∧ wy.frozen? ⟨w.heap.size + 1, lv * 8 + im, none⟩ = false ∧ wx.heap.size = wo.heap.size from fun wx wy hh hb => by
        have h1 : TW wx w.heap.size (w.heap.size + 1) (cut rs j) X := hA1.same hh
        have h2 := h1.down hb
        exact ⟨h2, by rw [HJe.out, ← hx]; exact h2.blk.cell hlt, h2.blk.thaw _, by rw [hh]⟩)
      clear hrow HR q1 i1 hx hlv him
      go_wp2_with fail
      go_region_with (go_at_call 77; refine (clone_timers _ (rs j).n (rs j).f _ (I1.out.below (Below.refl _ _).drew) HSj.out).mono ?_; rintro e wj ⟨⟨vj, rfl, hVj⟩, hbj⟩; obtain ⟨aj, cj, rfl⟩ := own_form hVj; obtain ⟨hAj, y0, y1, hsz⟩ := HJ.out wo.drew wj rfl hbj)
      all_goals
        have hVj' := owns_mono hVj (B' := w.heap.size) hbw.size
        have hp := hAj.put (show lv * 8 + im < 24 by omega) (.slice aj (rs j).n cj) (rs j) hVj' (fun i hi hne q hq e => by
          have h1 := HA.out.lt hi hq
          have h2 := (hVj.lt q e).1
          rw [show wo.drew.heap.size = wo.heap.size from rfl] at h2
          omega)
        rw [show upd (cut rs j) (lv * 8 + im) (rs j) = cut rs (j + 1) by rw [HJe.out]; exact cut_succ rs j] at hp
        have HA2 := hide hp
        have hbw2 := (hbw.drew.trans (hbj.mono hbw.size)).setCell (p := ⟨w.heap.size + 1, lv * 8 + im, none⟩) (by simp) (.slice aj (rs j).n cj)
        clear HA HJ hAj hbj y0 y1 hVj hVj' hp c0 I1 HSj HA0 hb0 hbA
        go_wp2
        exact ⟨⟨j + 1, _, by omega, by go_num, HA2, hbw2⟩, by simp [intOf]; omega⟩
    · obtain rfl : j = 24 := by omega
      have HB := hide (HA.out.ext (rs' := rs) (fun i hi => cut_full rs hi))
      clear HR HS HA
      go_wp2
      go_ret
      exact ⟨⟨_, _, rfl, HB.out⟩, hbw⟩
end Go.Proofs.Ytcodllammndciaa

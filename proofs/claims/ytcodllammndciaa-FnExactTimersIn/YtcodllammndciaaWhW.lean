/-
  The slots of a turning wheel are handed out (the program's wheelAt).
-/
import Derived.Test.YtcodllammndciaaWhV
namespace Go.Proofs.Ytcodllammndciaa
open Go.RowKit M
open Clk (upd upd_same upd_other)
open Go.Sort (grow)
namespace M
/-- Headers, by their parts. -/
abbrev sX (F : Nat → Option Addr × Nat × Nat) : Nat → Value := fun i => .slice (F i).1 (F i).2.1 (F i).2.2
theorem TW.extX {w : World} {B g : Nat} {rs : Nat → Rw} {X X' : Nat → Value} (h : TW w B g rs X) (he : ∀ i, i < 24 → X i = X' i) : TW w B g rs X' :=
  ⟨h.ge, h.blk.ext he, fun i hi => by rw [← he i hi]; exact h.row i hi, fun i j hi hj hij => by rw [← he i hi, ← he j hj]; exact h.apart i j hi hj hij⟩
def hdr (X : Nat → Value) (n : Nat) : List Value := (List.range n).map X
theorem hdr_add (X : Nat → Value) (n : Nat) : hdr X (n + 8) = hdr X n ++ [X n, X (n + 1), X (n + 2), X (n + 3), X (n + 4), X (n + 5), X (n + 6), X (n + 7)] := by
  unfold hdr
  rw [show n + 8 = n + 1 + 1 + 1 + 1 + 1 + 1 + 1 + 1 by omega]
  simp only [List.range_succ, List.map_append, List.map_cons, List.map_nil, List.append_assoc, List.cons_append, List.nil_append]
/-- The handed-out rows are an answer. -/
theorem tw_ans {w : World} {B g : Nat} {rs : Nat → Rw} {X : Nat → Value} (h : TW w B g rs X) {v : Value} {B' : Nat} (ho : w.ownsRow B' 52 1 v 24 (hdr X 24)) (hB : B ≤ B') : AnsW w B v 24 rs := by
  rcases ho.2 with ⟨_, h0⟩ | ⟨gH, cap, cur, rfl, hBg, hg, hc, hm, hs, ht⟩
  · omega
  · refine .inr ⟨gH, cap, cap, fun i => match (X i).ownBlock with | some q => q | none => 0, fun i => cur.getD i undef, rfl, ?_⟩
    have hX : ∀ i, i < 24 → cur.getD i undef = X i := fun i hi => by
      have h1 : (hdr X 24)[i]? = some (X i) := by unfold hdr; rw [List.getElem?_map, List.getElem?_range hi]; rfl
      rw [← ht, List.getElem?_take_of_lt (by omega), Array.getElem?_toList] at h1
      have : i < cur.size := by omega
      simp [Array.getD, this] at h1 ⊢
      exact h1
    refine ⟨Nat.le_trans hB hBg, hc, ?_, fun i hi => ?_, fun i j hij hj hn hn' => ?_⟩
    · unfold Blk
      rw [hg]
      congr 2
      apply Array.ext_getElem?
      intro j
      by_cases hj : j < cap
      · rw [cf_get _ hj]
        have : j < cur.size := by omega
        simp [Array.getD, this]
      · rw [Array.getElem?_eq_none (by omega), Array.getElem?_eq_none (by rw [cf_size]; omega)]
    · obtain ⟨a, c, hx, hnc, hV⟩ := own_V (h.row i hi)
      refine ⟨a, c, by show cur.getD i undef = _; rw [hX i hi, hx], fun hn => ?_⟩
      obtain ⟨b, e1, e2, e3⟩ := hV hn
      have hb : (match (X i).ownBlock with | some q => q | none => 0) = b := by rw [hx, e1]; rfl
      show a = some ⟨(match (X i).ownBlock with | some q => q | none => 0), 0, none⟩ ∧ B ≤ (match (X i).ownBlock with | some q => q | none => 0) ∧ OwnT w (match (X i).ownBlock with | some q => q | none => 0) _ _ _
      rw [hb]
      exact ⟨e1, e2, e3⟩
    · obtain ⟨a, c, hx, _, hV⟩ := own_V (h.row i (by omega))
      obtain ⟨a', c', hx', _, hV'⟩ := own_V (h.row j hj)
      obtain ⟨b, e1, _, _⟩ := hV hn
      obtain ⟨b', e1', _, _⟩ := hV' hn'
      have hb : (X i).ownBlock = some b := by rw [hx, e1]; rfl
      have hb' : (X j).ownBlock = some b' := by rw [hx', e1']; rfl
      show (match (X i).ownBlock with | some q => q | none => 0) ≠ (match (X j).ownBlock with | some q => q | none => 0)
      rw [hb, hb']
      intro e
      have e' : b = b' := e
      subst e'
      exact h.apart i j (by omega) hj (by omega) b hb hb'
theorem news8 {W : World} {g : Nat} {X : Nat → Value} {t : TypeId} {n : Nat} (h : Blk W g 8 (fun q => X (n + q)) t) : ∀ (j : Nat) u, [X n, X (n + 1), X (n + 2), X (n + 3), X (n + 4), X (n + 5), X (n + 6), X (n + 7)][j]? = some u → W.cell? ((⟨g, 0, none⟩ : Addr).add j) = some u := by
  intro j u hj
  have hj8 : j < 8 := (List.getElem?_eq_some_iff.1 hj).1
  have ha : (⟨g, 0, none⟩ : Addr).add j = ⟨g, j, none⟩ := by unfold Addr.add; split <;> simp_all
  rw [ha, h.cell hj8]
  match j, hj8, hj with
  | 0, _, hj => simpa using hj
  | 1, _, hj => simpa using hj
  | 2, _, hj => simpa using hj
  | 3, _, hj => simpa using hj
  | 4, _, hj => simpa using hj
  | 5, _, hj => simpa using hj
  | 6, _, hj => simpa using hj
  | 7, _, hj => simpa using hj
end M
set_option maxRecDepth 20000 in
set_option maxHeartbeats 8000000 in
theorem wheel_at' (B g : Nat) (rs : Nat → Rw) (F : Nat → Option Addr × Nat × Nat) (now : Int) (w : World) (h : TW w B g rs (sX F)) (hB : B ≤ w.heap.size) :
    Calls Try.prog 60 #[.pointer (some ⟨g, 0, none⟩), .int .i64 now] w fun e w' => (∃ v, e = .returned (.agg #[.int .i64 now, v]) ∧ AnsW w' B v 24 rs) ∧ Below w.heap.size w w' := by
  obtain ⟨i0, hi, hz0, hz1, hz2⟩ := info_parts info_timers
  have HT := hide h
  have hgl := h.blk.lt
  have hb0 := ((Below.refl w.heap.size w).alloc (Nat.le_refl _) (.cells #[.int .i64 0, .slice none 0 0] 24)).alloc (by simp) (.cells #[.int .i64 now, .slice none 0 0] 24)
  have hR0 := (Blk.fresh w #[.int .i64 0, .slice none 0 0] 2 (p2 (.int .i64 0) (.slice none 0 0)) 24 rfl).alloc (.cells #[.int .i64 now, .slice none 0 0] 24)
  have hW0 := Blk.fresh (w.alloc (.cells #[.int .i64 0, .slice none 0 0] 24)) #[.int .i64 now, .slice none 0 0] 2 (p2 (.int .i64 now) (.slice none 0 0)) 24 rfl
  rw [World.size_alloc] at hW0
  have HI0 := hide (show Blk _ w.heap.size 2 (p2 (.int .i64 0) (.slice none 0 0)) 24 ∧ Blk _ (w.heap.size + 1) 2 (p2 (.int .i64 now) (.slice none 0 0)) 24 ∧ Below w.heap.size w _ from ⟨hR0, hW0, hb0⟩)
  clear h hR0 hW0 hb0
  go_enter Try.func60, Try.ntmps60
  go_wp2_with fail
  go_loopw [12] (fun y wr => ∃ (i : Nat) (v : Value), i ≤ 3 ∧ y = .int .i64 (i : Int) ∧ Hid (wr.ownsRow w.heap.size 52 1 v (i * 8) (hdr (sX F) (i * 8)) ∧ Blk wr w.heap.size 2 (p2 (.int .i64 0) (.slice none 0 0)) 24 ∧ Blk wr (w.heap.size + 1) 2 (p2 (.int .i64 now) v) 24 ∧ Below w.heap.size w wr)) (fun y _ => 3 - (intOf y).toNat)
  case atStart => exact ⟨0, _, by omega, rfl, hide ⟨World.ownsRow_nil _ _ _ _, HI0.out⟩⟩
  case round =>
    rename World => wo
    obtain ⟨i, v, hi3, rfl, HI⟩ := hrel
    obtain ⟨av, cv, rfl⟩ := own_form HI.out.1
    by_cases hlt : i < 3
    · obtain ⟨hOw, hRe, hWh, hbo⟩ := HI.out
      have hTo := HT.out.down hbo
      have hi0 : (0 : Int) ≤ (i : Int) := by omega
      have hi1 : (i : Int) < 3 := by omega
      have c0 := hTo.blk.cell (show i * 8 < 24 by omega)
      have c1 := hTo.blk.cell (show i * 8 + 1 < 24 by omega)
      have c2 := hTo.blk.cell (show i * 8 + 2 < 24 by omega)
      have c3 := hTo.blk.cell (show i * 8 + 3 < 24 by omega)
      have c4 := hTo.blk.cell (show i * 8 + 4 < 24 by omega)
      have c5 := hTo.blk.cell (show i * 8 + 5 < 24 by omega)
      have c6 := hTo.blk.cell (show i * 8 + 6 < 24 by omega)
      have c7 := hTo.blk.cell (show i * 8 + 7 < 24 by omega)
      have HOne := hide (show ∀ u ∈ [sX F (i * 8), sX F (i * 8 + 1), sX F (i * 8 + 2), sX F (i * 8 + 3), sX F (i * 8 + 4), sX F (i * 8 + 5), sX F (i * 8 + 6), sX F (i * 8 + 7)], u.oneCell' = true from by
        intro u hu
        simp only [List.mem_cons, List.not_mem_nil, or_false] at hu
        rcases hu with rfl | rfl | rfl | rfl | rfl | rfl | rfl | rfl <;> rfl)
      simp only [sX] at c0 c1 c2 c3 c4 c5 c6 c7
      have hdn := (Below.refl wo.heap.size wo).alloc (Nat.le_refl _) (.cells #[.slice (F (i * 8)).1 (F (i * 8)).2.1 (F (i * 8)).2.2, .slice (F (i * 8 + 1)).1 (F (i * 8 + 1)).2.1 (F (i * 8 + 1)).2.2, .slice (F (i * 8 + 2)).1 (F (i * 8 + 2)).2.1 (F (i * 8 + 2)).2.2, .slice (F (i * 8 + 3)).1 (F (i * 8 + 3)).2.1 (F (i * 8 + 3)).2.2, .slice (F (i * 8 + 4)).1 (F (i * 8 + 4)).2.1 (F (i * 8 + 4)).2.2, .slice (F (i * 8 + 5)).1 (F (i * 8 + 5)).2.1 (F (i * 8 + 5)).2.2, .slice (F (i * 8 + 6)).1 (F (i * 8 + 6)).2.1 (F (i * 8 + 6)).2.2, .slice (F (i * 8 + 7)).1 (F (i * 8 + 7)).2.1 (F (i * 8 + 7)).2.2] 97)
      have hRg := Blk.fresh wo #[.slice (F (i * 8)).1 (F (i * 8)).2.1 (F (i * 8)).2.2, .slice (F (i * 8 + 1)).1 (F (i * 8 + 1)).2.1 (F (i * 8 + 1)).2.2, .slice (F (i * 8 + 2)).1 (F (i * 8 + 2)).2.1 (F (i * 8 + 2)).2.2, .slice (F (i * 8 + 3)).1 (F (i * 8 + 3)).2.1 (F (i * 8 + 3)).2.2, .slice (F (i * 8 + 4)).1 (F (i * 8 + 4)).2.1 (F (i * 8 + 4)).2.2, .slice (F (i * 8 + 5)).1 (F (i * 8 + 5)).2.1 (F (i * 8 + 5)).2.2, .slice (F (i * 8 + 6)).1 (F (i * 8 + 6)).2.1 (F (i * 8 + 6)).2.2, .slice (F (i * 8 + 7)).1 (F (i * 8 + 7)).2.1 (F (i * 8 + 7)).2.2] 8 (fun q => sX F (i * 8 + q)) 97 rfl
      have hOw1 := owns_below hOw hdn
      have hRe1 := hRe.down hdn
      have hWh1 := hWh.down hdn
      have hb1 := hbo.trans (hdn.mono hbo.size)
      obtain ⟨x0, x1, x2, x3⟩ := hWh1.pair
      have HOw := hide hOw1
      have HRe := hide hRe1
      have HWh := hide hWh1
      have HRg := hide hRg
      clear hOw hRe hWh hTo hOw1 hRe1 hWh1 hRg HI
      go_wp2_with fail
      generalize hWE : wo.alloc _ = wE at *
      have hsE : wo.heap.size < wE.heap.size := by rw [← hWE]; simp
      clear hWE c0 c1 c2 c3 c4 c5 c6 c7 hdn
      have HG := hide (show ∀ W w7 : World, W.grownBy w7 (Value.slice av (i * 8) cv).ownBlock → W.heap = wE.heap → w7.cell? ⟨w.heap.size + 1, 1, none⟩ = some (.slice av (i * 8) cv) ∧ w7.frozen? ⟨w.heap.size + 1, 1, none⟩ = false from fun W w7 hg hh => by
        have hb := (HWh.out.same hh).grown (owns_same HOw.out hh) (by decide) hg
        exact ⟨hb.pair.2.1, hb.pair.2.2.2⟩)
      have HFi := hide (show ∀ (W w7 : World) (g7 cap7 : Nat), W.grownBy w7 (Value.slice av (i * 8) cv).ownBlock → W.heap = wE.heap → Below w.heap.size w W → w7.ownsRow w.heap.size 52 1 (.slice (some ⟨g7, 0, none⟩) (i * 8 + 8) cap7) (i * 8 + 8) (hdr (sX F) (i * 8) ++ [sX F (i * 8), sX F (i * 8 + 1), sX F (i * 8 + 2), sX F (i * 8 + 3), sX F (i * 8 + 4), sX F (i * 8 + 5), sX F (i * 8 + 6), sX F (i * 8 + 7)]) →
          (w7.setCell ⟨w.heap.size + 1, 1, none⟩ (.slice (some ⟨g7, 0, none⟩) (i * 8 + 8) cap7)).ownsRow w.heap.size 52 1 (.slice (some ⟨g7, 0, none⟩) (i * 8 + 8) cap7) ((i + 1) * 8) (hdr (sX F) ((i + 1) * 8)) ∧ Blk (w7.setCell ⟨w.heap.size + 1, 1, none⟩ (.slice (some ⟨g7, 0, none⟩) (i * 8 + 8) cap7)) w.heap.size 2 (p2 (.int .i64 0) (.slice none 0 0)) 24 ∧ Blk (w7.setCell ⟨w.heap.size + 1, 1, none⟩ (.slice (some ⟨g7, 0, none⟩) (i * 8 + 8) cap7)) (w.heap.size + 1) 2 (p2 (.int .i64 now) (.slice (some ⟨g7, 0, none⟩) (i * 8 + 8) cap7)) 24 ∧ Below w.heap.size w (w7.setCell ⟨w.heap.size + 1, 1, none⟩ (.slice (some ⟨g7, 0, none⟩) (i * 8 + 8) cap7)) from fun W w7 g7 cap7 hg hh hbW ho => by
        have hO := owns_same HOw.out hh
        have hb := (HWh.out.same hh).grown hO (by decide) hg
        have hr := (HRe.out.same hh).grown hO (by decide) hg
        refine ⟨?_, hr.set_other (by omega) _ _, (hb.set 1 _).ext (fun q hq => ?_), (hbW.grown hg (by have := hbW.size; omega) (fun q hq => (hO.lt q hq).1)).setCell (by simp) _⟩
        · rw [show (i + 1) * 8 = i * 8 + 8 by omega, hdr_add]
          exact owns_set ho hb (by decide) _ _
        · match q, hq with
          | 0, _ => rfl
          | 1, _ => rfl)
      go_region_law (refine step_append_lies _ rfl (.tmp 18) (.tmp 20) 22 rfl w.heap.size 52 i0 _ 1 24 Try.underlying22 hi hz0 hz1 hz2 rfl (by decide) (.slice av (i * 8) cv) (i * 8) _ (by simp [Act.eval]) (owns_same HOw.out rfl) ⟨wo.heap.size, 0, none⟩ 8 8 [sX F (i * 8), sX F (i * 8 + 1), sX F (i * 8 + 2), sX F (i * 8 + 3), sX F (i * 8 + 4), sX F (i * 8 + 5), sX F (i * 8 + 6), sX F (i * 8 + 7)] (by simp [Act.eval]) rfl (news8 (HRg.out.same rfl)) HOne.out (by omega) (by unfold maxLen; omega) (by omega) (by show w.heap.size ≤ wE.heap.size; exact hb1.size) _ rfl ?_; intro g7 cap7 w7 hown7 hgrow7 hat hlt7; obtain ⟨z0, z1⟩ := HG.out _ w7 hgrow7 rfl)
      all_goals
        have HE := hide (HFi.out _ w7 g7 cap7 hgrow7 rfl hb1.drew hown7)
        clear HFi HG hgrow7 hown7 hat z0 z1 HOw HRe HWh HRg HOne x0 x1 x2 x3
        go_wp2
        exact ⟨⟨i + 1, _, by omega, by go_num, HE⟩, by simp [intOf]; omega⟩
    · obtain rfl : i = 3 := by omega
      obtain ⟨hOw, hRe, hWh, hbo⟩ := HI.out
      obtain ⟨x0, x1, -, -⟩ := hWh.pair
      obtain ⟨y0, y1, y2, y3⟩ := hRe.pair
      have HO := hide hOw
      have HFin := hide (show ∀ W, W = (wo.setCell ⟨w.heap.size, 0, none⟩ (.int .i64 now)).setCell ⟨w.heap.size, 1, none⟩ (.slice av (3 * 8) cv) → AnsW W B (.slice av (3 * 8) cv) 24 rs ∧ Below w.heap.size w W from by
        rintro W rfl
        have hb2 := (hbo.setCell (p := ⟨w.heap.size, 0, none⟩) (Nat.le_refl _) (.int .i64 now)).setCell (p := ⟨w.heap.size, 1, none⟩) (Nat.le_refl _) (.slice av (3 * 8) cv)
        refine ⟨tw_ans (HT.out.down hb2) (B' := w.heap.size) ?_ hB, hb2⟩
        have h1 := owns_set HO.out hRe (by decide) 0 (.int .i64 now)
        exact owns_set h1 (hRe.set 0 _) (by decide) 1 (.slice av (3 * 8) cv))
      clear HI HI0 HT hOw hRe hWh
      go_wp2
      refine bodyPost_ret (v := .agg #[.int .i64 now, .slice av (3 * 8) cv]) (by simp [results, Try.results60, go_sem, y0, y1]) rfl ⟨⟨_, rfl, (HFin.out _ rfl).1⟩, (HFin.out _ rfl).2⟩
theorem wheel_at (B g : Nat) (rs : Nat → Rw) (X : Nat → Value) (now : Int) (w : World) (h : TW w B g rs X) (hB : B ≤ w.heap.size) :
    Calls Try.prog 60 #[.pointer (some ⟨g, 0, none⟩), .int .i64 now] w fun e w' => (∃ v, e = .returned (.agg #[.int .i64 now, v]) ∧ AnsW w' B v 24 rs) ∧ Below w.heap.size w w' := by
  refine wheel_at' B g rs (fun i => match X i with | .slice a n c => (a, n, c) | _ => (none, 0, 0)) now w ?_ hB
  refine h.extX fun i hi => ?_
  obtain ⟨a, c, hx⟩ := own_form (h.row i hi)
  simp only [sX, hx]
end Go.Proofs.Ytcodllammndciaa

/-
  SetTimer: the specification's text.
-/
import Derived.Test.YtcodllammndciaaWhSO
import Derived.Test.YtcodllammndciaaWhM
namespace Go.Proofs.Ytcodllammndciaa
open Go.RowKit M
open Clk (upd upd_same upd_other)
open Go.Sort (grow)
namespace M
theorem own_blk1 {w : World} {B e n g cap : Nat} {xs : List Value} (h : w.ownsRow B e 1 (.slice (some ⟨g, 0, none⟩) n cap) n xs) : n ≤ cap ∧ ∃ H, Blk w g cap H e ∧ ∀ i u, xs[i]? = some u → H i = u := by
  rcases h.2 with ⟨e1, _⟩ | ⟨g', cap', cur, e1, hB, hg, hc, hm, hs, ht⟩
  · cases e1
  · cases e1
    refine ⟨hc, fun i => cur.getD i undef, ?_, fun i u hu => ?_⟩
    · unfold Blk
      rw [hg]
      congr 2
      apply Array.ext_getElem?
      intro j
      by_cases hj : j < cap
      · rw [cf_get _ hj]
        have : j < cur.size := by omega
        simp [Array.getD, this]
      · rw [Array.getElem?_eq_none (by omega), Array.getElem?_eq_none (by rw [cf_size]; omega)]
    · have hil : i < n := by have := (List.getElem?_eq_some_iff.1 hu).1; rw [h.1] at this; omega
      rw [← ht, List.getElem?_take_of_lt (by omega), Array.getElem?_toList] at hu
      have : i < cur.size := by omega
      simp [Array.getD, this] at hu ⊢
      exact hu
theorem ow_form {w : World} {B : Nat} {u : Value} {rs : Nat → Rw} {X : Nat → Value} (h : OW 24 w B u rs X) : ∃ gH cap, u = .slice (some ⟨gH, 0, none⟩) 24 cap := by
  rcases h.hd.2 with ⟨_, h0⟩ | ⟨g, cap, cur, e, _⟩
  · omega
  · exact ⟨g, cap, e⟩
theorem ow_cell {w : World} {B gH cap : Nat} {rs : Nat → Rw} {X : Nat → Value} (h : OW 24 w B (.slice (some ⟨gH, 0, none⟩) 24 cap) rs X) {k : Nat} (hk : k < 24) : w.cell? ⟨gH, k, none⟩ = some (X k) ∧ w.frozen? ⟨gH, k, none⟩ = false := by
  obtain ⟨hc, H, hb, hH⟩ := own_blk1 h.hd
  exact ⟨by rw [← hH k (X k) (by unfold hdr; rw [List.getElem?_map, List.getElem?_range hk]; rfl)]; exact hb.cell (by omega), hb.thaw _⟩
theorem OW.grownHd {w w' : World} {B gH cap : Nat} {rs : Nat → Rw} {X : Nat → Value} (h : OW 24 w B (.slice (some ⟨gH, 0, none⟩) 24 cap) rs X) {k : Nat} (hk : k < 24) (hg : w.grownBy w' (X k).ownBlock) : w'.ownsRow B 52 1 (.slice (some ⟨gH, 0, none⟩) 24 cap) 24 (hdr X 24) :=
  owns_other h.hd hg (owns_apart h.hd (h.row k hk) (by decide))
theorem own_set_in {w : World} {B e n g cap : Nat} {xs : List Value} (h : w.ownsRow B e 1 (.slice (some ⟨g, 0, none⟩) n cap) n xs) (k : Nat) (v : Value) : (w.setCell ⟨g, k, none⟩ v).ownsRow B e 1 (.slice (some ⟨g, 0, none⟩) n cap) n (xs.set k v) := by
  refine ⟨by rw [List.length_set]; exact h.1, ?_⟩
  rcases h.2 with ⟨e1, _⟩ | ⟨g', cap', cur, e1, hB, hg, hc, hm, hs, ht⟩
  · cases e1
  · cases e1
    refine .inr ⟨g, cap, cur.setIfInBounds k v, rfl, hB, Go.heap_setCell_same _ g k _ e v hg, hc, hm, by rw [Array.size_setIfInBounds]; exact hs, ?_⟩
    rw [Array.toList_setIfInBounds, List.take_set, ht]
theorem hdr_set (X : Nat → Value) (n k : Nat) (v : Value) : (hdr X n).set k v = hdr (upd X k v) n := by
  apply List.ext_getElem?
  intro i
  unfold hdr
  rw [List.getElem?_set, List.getElem?_map, List.getElem?_map]
  by_cases hi : i < n
  · rw [List.getElem?_range hi]
    by_cases e : k = i
    · subst e; rw [if_pos rfl, if_pos (by simp [hi])]; simp [upd_same]
    · rw [if_neg e]; simp [upd_other _ _ _ _ (fun h => e h.symm)]
  · rw [List.getElem?_eq_none (by simp; omega)]
    split
    · split
      · rename_i h1 h2; simp at h2; omega
      · rfl
    · rfl
theorem ow_put {w w' : World} {B gH cap : Nat} {rs : Nat → Rw} {X : Nat → Value} (h : OW 24 w B (.slice (some ⟨gH, 0, none⟩) 24 cap) rs X) {k : Nat} (hk : k < 24) (hg : w.grownBy w' (X k).ownBlock) {v : Value} {r : Rw} (ho : w'.ownsRow B 40 2 v r.n (tv r.n r.f)) (hat : ∀ q, v.ownBlock = some q → (X k).ownBlock = some q ∨ q = w.heap.size) :
    OW 24 (w'.setCell ⟨gH, k, none⟩ v) B (.slice (some ⟨gH, 0, none⟩) 24 cap) (upd rs k r) (upd X k v) := by
  have hh := h.grownHd hk hg
  obtain ⟨hc, H, hb, hH⟩ := own_blk1 hh
  refine ⟨by rw [← hdr_set]; exact own_set_in hh k v, fun i hi => ?_, fun i i' hi hi' hii q hq => ?_⟩
  · by_cases e : i = k
    · subst e; rw [upd_same, upd_same]; exact owns_set ho hb (by decide) _ _
    · rw [upd_other _ _ _ _ e, upd_other _ _ _ _ e]
      exact owns_set (owns_other (h.row i hi) hg (fun q hq e2 => h.apart i k hi hk e q hq e2.symm)) hb (by decide) _ _
  · by_cases e : i = k
    · subst e
      rw [upd_same] at hq
      rw [upd_other _ _ _ _ (fun e => hii e.symm)]
      intro h2
      rcases hat q hq with h3 | h3
      · exact h.apart i i' hi hi' hii q h3 h2
      · have := ((h.row i' hi').lt q h2).2; omega
    · rw [upd_other _ _ _ _ e] at hq
      by_cases e' : i' = k
      · subst e'
        rw [upd_same]
        intro h2
        rcases hat q h2 with h3 | h3
        · exact h.apart i i' hi hi' hii q hq h3
        · have := ((h.row i hi).lt q hq).2; omega
      · rw [upd_other _ _ _ _ e']; exact h.apart i i' hi hi' hii q hq
theorem OW.kept {m : Nat} {w : World} {B g n : Nat} {v : Value} {rs : Nat → Rw} {X : Nat → Value} {f : Nat → Value} (h : OW m w B v rs X) (hb : Blk w g n f 24) (i : Nat) (x : Value) : OW m (w.setCell ⟨g, i, none⟩ x) B v rs X :=
  ⟨owns_set h.hd hb (by decide) _ _, fun j hj => owns_set (h.row j hj) hb (by decide) _ _, h.apart⟩
theorem owns_at {w W : World} {B e s n : Nat} {v : Value} {xs : List Value} (h : w.ownsRow B e s v n xs) (hh : ∀ b, B ≤ b → b < w.heap.size → W.heap[b]? = w.heap[b]?) : W.ownsRow B e s v n xs := by
  refine ⟨h.1, ?_⟩
  rcases h.2 with h0 | ⟨g, cap, cur, hv, hB, hg, r⟩
  · exact .inl h0
  · refine .inr ⟨g, cap, cur, hv, hB, ?_, r⟩
    have hlt : g < w.heap.size := by
      rcases Nat.lt_or_ge g w.heap.size with h' | h'
      · exact h'
      · rw [Array.getElem?_eq_none h'] at hg; cases hg
    rw [hh g hB hlt]; exact hg
/-- Rows that are read, whatever turns in blocks below L. -/
def RowsK (L : Nat) (w : World) (u : Value) (k : Nat) (rs : Nat → Rw) : Prop := ∀ W : World, (∀ b, L ≤ b → b < w.heap.size → W.heap[b]? = w.heap[b]?) → w.heap.size ≤ W.heap.size → RowsOf W u k rs
theorem RowsK.rows {L : Nat} {w : World} {u : Value} {k : Nat} {rs : Nat → Rw} (h : RowsK L w u k rs) : RowsOf w u k rs := h w (fun _ _ _ => rfl) (Nat.le_refl _)
theorem RowsK.down {L : Nat} {w w' : World} {u : Value} {k : Nat} {rs : Nat → Rw} (h : RowsK L w u k rs) (hb : Below w.heap.size w w') : RowsK L w' u k rs := fun W h1 h2 => h W (fun b hl hlt => (h1 b hl (Nat.lt_of_lt_of_le hlt hb.size)).trans (hb.block b hlt)) (Nat.le_trans hb.size h2)
theorem RowsK.set {L : Nat} {w : World} {u : Value} {k : Nat} {rs : Nat → Rw} (h : RowsK L w u k rs) {g : Nat} (hg : g < L) (i : Nat) (x : Value) : RowsK L (w.setCell ⟨g, i, none⟩ x) u k rs := fun W h1 h2 => h W (fun b hl hlt => (h1 b hl (by rw [World.size_setCell]; exact hlt)).trans (Go.heap_setCell_other _ _ _ _ (show b ≠ g by omega))) (by rw [World.size_setCell] at h2; exact h2)
theorem OW.k {w : World} {B L : Nat} {u : Value} {rs : Nat → Rw} {X : Nat → Value} (h : OW 24 w B u rs X) (hL : L ≤ B) : RowsK L w u 24 rs := fun _ h1 _ =>
  OW.rows ⟨owns_at h.hd (fun b hb hlt => h1 b (Nat.le_trans hL hb) hlt), fun i hi => owns_at (h.row i hi) (fun b hb hlt => h1 b (Nat.le_trans hL hb) hlt), h.apart⟩
theorem slotA_of {now tm : Int} (hn : GoodN now) (ht : GoodT now tm) : slotA now tm = (match slotF now tm with | some k => (k, true) | none => (0, false)) := by unfold slotA; rw [if_pos ⟨hn, ht⟩]; cases slotF now tm <;> rfl
theorem Small.of60 {rs : Nat → Rw} (h : tot rs 24 ≤ 61) : Small 24 rs := by unfold Small; omega
end M
set_option maxRecDepth 20000 in
set_option maxHeartbeats 8000000 in
theorem spec_set (now : Int) (v : Value) (k : Nat) (rs : Nat → Rw) (tm id : Int) (w : World) (hv : RowsOf w v k rs) (hs : Small k rs) :
    Calls Try.prog 20 #[.agg #[.int .i64 now, v], .agg #[.int .i64 tm, .int .i64 id]] w fun e w' => ((SetOk now k rs tm id ∧ ∃ u, e = .returned (.tuple #[.agg #[.int .i64 now, u], .bool true]) ∧ RowsK w.heap.size w' u 24 (putR rs now tm id)) ∨ (¬ SetOk now k rs tm id ∧ e = .returned (.tuple #[.agg #[.int .i64 0, .slice none 0 0], .bool false]))) ∧ Below w.heap.size w w' := by
  obtain ⟨i0, hi, hz0, hz1, hz2⟩ := info_parts info_timer
  have HV := hide hv
  have HS := hide hs
  obtain ⟨a, cap, rfl⟩ := hv.form
  clear hv hs
  obtain ⟨bg, hbg⟩ : ∃ b, decide (GoodW now k rs) = b := ⟨_, rfl⟩
  have HBg := hide hbg
  go_enter Try.func20, Try.ntmps20
  go_wp2_with fail
  generalize hW : ((w.alloc _).alloc _).alloc _ = W0
  obtain ⟨m0, m1, m2, hbW, hsW⟩ := three2 w _ _ _ _ _ _ (p2 _ _) (p2 _ _) (p2 _ _) rfl rfl rfl W0 hW.symm
  have hX0 : Bx w W0 now (.slice a k cap) tm id := ⟨m0, m1, m2, hbW, by omega⟩
  clear hW m0 m1 m2 hbW hsW
  refine (spec_good now _ k rs bg _ (HV.out.below hX0.2.2.2.1) HS.out HBg.out).mono ?_
  rintro e w1 ⟨rfl, hb⟩
  have hX1 := hX0.down hb hX0.2.2.2.2
  clear hb hX0
  cases bg with
  | false =>
    obtain ⟨_, _, y2, y3⟩ := hX1.2.2.1.pair
    have y0 := hX1.2.2.1.pair.1
    have y1 := hX1.2.2.1.pair.2.1
    have hbf := (hX1.2.2.2.1.setCell (p := ⟨w.heap.size + 1 + 1, 0, none⟩) (show w.heap.size ≤ w.heap.size + 1 + 1 by omega) (.int .i64 0)).setCell (p := ⟨w.heap.size + 1 + 1, 1, none⟩) (show w.heap.size ≤ w.heap.size + 1 + 1 by omega) (.slice none 0 0)
    have HNo := hide (show ¬ SetOk now k rs tm id from fun h => of_decide_eq_false hbg h.1)
    clear HV HS HBg hX1 hbg
    go_wp2
    exact bodyPost_ret (v := .tuple #[.agg #[.int .i64 0, .slice none 0 0], .bool false]) (by simp [results, Try.results20, go_sem, y0, y1]) rfl ⟨.inr ⟨HNo.out, rfl⟩, hbf⟩
  | true =>
    have hG := of_decide_eq_true hbg
    obtain rfl : k = 24 := hG.2.1
    have hn0 : 0 ≤ now ∧ now ≤ 100000 := hG.1
    have HG := hide hG
    have ht60 : tot rs 24 ≤ 60 := hG.2.2.2
    clear hbg HBg
    have HSh := hide HS.out.short
    obtain ⟨x0, x1, -, -⟩ := hX1.1.pair
    obtain ⟨t0, t1, -, -⟩ := hX1.2.1.pair
    obtain ⟨bi, hbi⟩ : ∃ b, decide (GoodI id ∧ GoodT now tm) = b := ⟨_, rfl⟩
    have HBi := hide hbi
    go_wp2_with fail
    refine (l5_timer tm id now bi _ hn0 HBi.out).mono ?_
    rintro e w2 ⟨rfl, hb⟩
    have hX2 := hX1.down hb hX1.2.2.2.2
    clear hb hX1 x0 x1 t0 t1
    cases bi with
    | false =>
      obtain ⟨_, _, y2, y3⟩ := hX2.2.2.1.pair
      have y0 := hX2.2.2.1.pair.1
      have y1 := hX2.2.2.1.pair.2.1
      have hbf := (hX2.2.2.2.1.setCell (p := ⟨w.heap.size + 1 + 1, 0, none⟩) (show w.heap.size ≤ w.heap.size + 1 + 1 by omega) (.int .i64 0)).setCell (p := ⟨w.heap.size + 1 + 1, 1, none⟩) (show w.heap.size ≤ w.heap.size + 1 + 1 by omega) (.slice none 0 0)
      have HNo := hide (show ¬ SetOk now 24 rs tm id from fun h => of_decide_eq_false hbi ⟨h.2.1, (slotA_lies h.2.2.2.2).2.1⟩)
      clear HV HS hX2 hbi HBi
      go_wp2
      exact bodyPost_ret (v := .tuple #[.agg #[.int .i64 0, .slice none 0 0], .bool false]) (by simp [results, Try.results20, go_sem, y0, y1]) rfl ⟨.inr ⟨HNo.out, rfl⟩, hbf⟩
    | true =>
      obtain ⟨hI, hT⟩ := of_decide_eq_true hbi
      have htm : now < tm ∧ tm < now + 512 := hT
      clear hbi HBi
      obtain ⟨x0, x1, -, -⟩ := hX2.1.pair
      go_wp2_with fail
      refine (l5_many now _ rs _ (HV.out.below hX2.2.2.2.1) ht60).mono ?_
      rintro e w3 ⟨rfl, hb⟩
      have hX3 := hX2.down hb hX2.2.2.2.2
      clear hb hX2 x0 x1
      obtain ⟨nT, hnT⟩ : ∃ n, tot rs 24 = n := ⟨_, rfl⟩
      have HnT := hide hnT
      rw [hnT] at ht60 ⊢
      clear hnT
      by_cases h60 : nT = 60
      · have hd : ((nT : Int) == 60) = true := by simp [h60]
        have HH60 := hide h60
        clear h60
        obtain ⟨_, _, y2, y3⟩ := hX3.2.2.1.pair
        have y0 := hX3.2.2.1.pair.1
        have y1 := hX3.2.2.1.pair.2.1
        have hbf := (hX3.2.2.2.1.setCell (p := ⟨w.heap.size + 1 + 1, 0, none⟩) (show w.heap.size ≤ w.heap.size + 1 + 1 by omega) (.int .i64 0)).setCell (p := ⟨w.heap.size + 1 + 1, 1, none⟩) (show w.heap.size ≤ w.heap.size + 1 + 1 by omega) (.slice none 0 0)
        have HNo := hide (show ¬ SetOk now 24 rs tm id from fun h => h.2.2.1 (HnT.out.trans HH60.out))
        clear HV HS hX3
        go_wp2
        exact bodyPost_ret (v := .tuple #[.agg #[.int .i64 0, .slice none 0 0], .bool false]) (by simp [results, Try.results20, go_sem, y0, y1]) rfl ⟨.inr ⟨HNo.out, rfl⟩, hbf⟩
      · have hd : ((nT : Int) == 60) = false := by simp; omega
        have HH60 := hide h60
        clear h60
        obtain ⟨x0, x1, -, -⟩ := hX3.1.pair
        obtain ⟨t0, t1, -, -⟩ := hX3.2.1.pair
        have HSA := hide (slotA_of (tm := tm) HG.out.1 hT)
        go_wp2_with fail
        refine (l5_slot now tm _ (by omega) (by omega)).mono ?_
        rintro e w4 ⟨rfl, hb⟩
        have hX4 := hX3.down hb hX3.2.2.2.2
        clear hb hX3 x0 x1 t0 t1
        rcases slotF_bool now tm with hsf | ⟨kk, hsf⟩
        · have hsn : slotN now tm = -1 := by unfold slotN; rw [hsf]
          have HNs := hide (show (slotA now tm).2 = false by rw [HSA.out, hsf])
          clear hsf
          obtain ⟨_, _, y2, y3⟩ := hX4.2.2.1.pair
          have y0 := hX4.2.2.1.pair.1
          have y1 := hX4.2.2.1.pair.2.1
          have hbf := (hX4.2.2.2.1.setCell (p := ⟨w.heap.size + 1 + 1, 0, none⟩) (show w.heap.size ≤ w.heap.size + 1 + 1 by omega) (.int .i64 0)).setCell (p := ⟨w.heap.size + 1 + 1, 1, none⟩) (show w.heap.size ≤ w.heap.size + 1 + 1 by omega) (.slice none 0 0)
          have HNo := hide (show ¬ SetOk now 24 rs tm id from fun h => absurd (HNs.out.symm.trans h.2.2.2.2) (by decide))
          clear HV HS hX4
          go_wp2
          exact bodyPost_ret (v := .tuple #[.agg #[.int .i64 0, .slice none 0 0], .bool false]) (by simp [results, Try.results20, go_sem, y0, y1]) rfl ⟨.inr ⟨HNo.out, rfl⟩, hbf⟩
        · have hsn : slotN now tm = kk := by unfold slotN; rw [hsf]
          have hkr := slotF_range hsf
          obtain ⟨kN, rfl⟩ := Int.eq_ofNat_of_zero_le hkr.1
          have hk24 : kN < 24 := by omega
          have HYs := hide (show slotA now tm = ((kN : Int), true) by rw [HSA.out, hsf])
          have HL := hide (show Lies now kN tm from by
            have h1 := (slotA_lies (show (slotA now tm).2 = true by rw [HYs.out])).2.2
            rw [HYs.out] at h1
            simpa using h1)
          have hk0 : (0 : Int) ≤ (kN : Int) := by omega
          have hk1 : (kN : Int) < 24 := by omega
          have hkn : ¬ ((kN : Int) < 0) := by omega
          clear hsf hkr
          obtain ⟨x0, x1, x2, x3⟩ := hX4.1.pair
          go_wp2_with fail
          refine (l5_own now _ rs _ (HV.out.below hX4.2.2.2.1) HSh.out).mono ?_
          rintro e w5 ⟨⟨u, X, rfl, hO5⟩, hb⟩
          have hX5 := hX4.down hb hX4.2.2.2.2
          have hs4 := hX4.2.2.2.2
          have hs45 := hb.size
          obtain ⟨gH, cH, rfl⟩ := ow_form hO5
          clear hb hX4 x0 x1 x2 x3
          obtain ⟨x0, x1, x2, x3⟩ := hX5.1.pair
          have hX6 : Bx w ((w5.setCell ⟨w.heap.size, 0, none⟩ (.int .i64 now)).setCell ⟨w.heap.size, 1, none⟩ (.slice (some ⟨gH, 0, none⟩) 24 cH)) now (.slice (some ⟨gH, 0, none⟩) 24 cH) tm id := by
            refine ⟨((hX5.1.set 0 _).set 1 _).ext (fun q hq => ?_), (hX5.2.1.set_other (by omega) _ _).set_other (by omega) _ _, (hX5.2.2.1.set_other (by omega) _ _).set_other (by omega) _ _, (hX5.2.2.2.1.setCell (Nat.le_refl _) _).setCell (Nat.le_refl _) _, by rw [World.size_setCell, World.size_setCell]; exact hX5.2.2.2.2⟩
            match q, hq with
            | 0, _ => rfl
            | 1, _ => rfl
          have hO6 : OW 24 ((w5.setCell ⟨w.heap.size, 0, none⟩ (.int .i64 now)).setCell ⟨w.heap.size, 1, none⟩ (.slice (some ⟨gH, 0, none⟩) 24 cH)) w4.heap.size (.slice (some ⟨gH, 0, none⟩) 24 cH) rs X := by
            have k1 : ∀ {e s n : Nat} {v : Value} {xs : List Value}, 24 ≠ e → w5.ownsRow w4.heap.size e s v n xs → ((w5.setCell ⟨w.heap.size, 0, none⟩ (.int .i64 now)).setCell ⟨w.heap.size, 1, none⟩ (.slice (some ⟨gH, 0, none⟩) 24 cH)).ownsRow w4.heap.size e s v n xs := fun hne h => owns_set (owns_set h hX5.1 hne _ _) (hX5.1.set 0 _) hne _ _
            exact ⟨k1 (by decide) hO5.hd, fun j hj => k1 (by decide) (hO5.row j hj), hO5.apart⟩
          have hB6 : w4.heap.size ≤ ((w5.setCell ⟨w.heap.size, 0, none⟩ (.int .i64 now)).setCell ⟨w.heap.size, 1, none⟩ (.slice (some ⟨gH, 0, none⟩) 24 cH)).heap.size := by rw [World.size_setCell, World.size_setCell]; exact hs45
          clear hX5 hO5
          go_wp2_with fail
          generalize (w5.setCell _ _).setCell _ _ = w6 at *
          clear x0 x1 x2 x3
          obtain ⟨ar, cr, hxk⟩ := own_form (hO6.row kN hk24)
          obtain ⟨nk, hnk⟩ : ∃ n, (rs kN).n = n := ⟨_, rfl⟩
          rw [hnk] at hxk
          have hsk : nk ≤ 1048576 := by rw [← hnk]; exact HSh.out.2 kN hk24
          obtain ⟨x0, x1, -, -⟩ := hX6.1.pair
          obtain ⟨t0, t1, -, -⟩ := hX6.2.1.pair
          have c0 := (ow_cell hO6 hk24).1
          rw [hxk] at c0
          have hdn := (Below.refl w6.heap.size w6).alloc (Nat.le_refl _) (.cells #[.int .i64 tm, .int .i64 id] 40)
          have hX7 := hX6.down hdn hX6.2.2.2.2
          have hO7 := hO6.down hdn
          obtain ⟨v0, v1, -, -⟩ := hX7.1.pair
          obtain ⟨r0, r1, -, -⟩ := hX7.2.1.pair
          have c1 := (ow_cell hO7 hk24).1
          rw [hxk] at c1
          have HXk := hide hxk
          have HO7 := hide hO7
          have HX7 := hide hX7
          have HNk := hide hnk
          have HGs := hide (show ∀ W w7 : World, W.grownBy w7 (Value.slice ar nk cr).ownBlock → W.heap = (w6.alloc (.cells #[.int .i64 tm, .int .i64 id] 40)).heap → w7.cell? ⟨gH, kN, none⟩ = some (.slice ar nk cr) ∧ w7.frozen? ⟨gH, kN, none⟩ = false ∧ w7.cell? ⟨w.heap.size, 1, none⟩ = some (.slice (some ⟨gH, 0, none⟩) 24 cH) from fun W w7 hg hh => by
            have hW := HO7.out.same hh
            have hWb := (HX7.out.1.same hh).grown (hW.row kN hk24) (by decide) (by rw [HXk.out]; exact hg)
            obtain ⟨hc, H, hbb, hH⟩ := own_blk1 (hW.grownHd hk24 (by rw [HXk.out]; exact hg))
            exact ⟨by rw [← HXk.out, ← hH kN (X kN) (by unfold hdr; rw [List.getElem?_map, List.getElem?_range hk24]; rfl)]; exact hbb.cell (by omega), hbb.thaw _, hWb.pair.2.1⟩)
          have HFs := hide (show ∀ (W w7 : World) (g7 cap7 : Nat), W.grownBy w7 (Value.slice ar nk cr).ownBlock → W.heap = (w6.alloc (.cells #[.int .i64 tm, .int .i64 id] 40)).heap → Below w.heap.size w W → w7.ownsRow w4.heap.size 40 2 (.slice (some ⟨g7, 0, none⟩) (nk + 1) cap7) (nk + 1) (tv nk (rs kN).f ++ [.int .i64 tm, .int .i64 id]) → ((Value.slice ar nk cr).ownBlock = some g7 ∨ g7 = W.heap.size) →
              OW 24 (w7.setCell ⟨gH, kN, none⟩ (.slice (some ⟨g7, 0, none⟩) (nk + 1) cap7)) w4.heap.size (.slice (some ⟨gH, 0, none⟩) 24 cH) (upd rs kN ((rs kN).snoc tm id)) (upd X kN (.slice (some ⟨g7, 0, none⟩) (nk + 1) cap7)) ∧ Bx w (w7.setCell ⟨gH, kN, none⟩ (.slice (some ⟨g7, 0, none⟩) (nk + 1) cap7)) now (.slice (some ⟨gH, 0, none⟩) 24 cH) tm id from fun W w7 g7 cap7 hg hh hbW ho hat => by
            have hW := HO7.out.same hh
            have hgk : W.grownBy w7 (X kN).ownBlock := by rw [HXk.out]; exact hg
            have hrow : w7.ownsRow w4.heap.size 40 2 (.slice (some ⟨g7, 0, none⟩) (nk + 1) cap7) ((rs kN).snoc tm id).n (tv ((rs kN).snoc tm id).n ((rs kN).snoc tm id).f) := by
              rw [tv_snoc, HNk.out]
              show w7.ownsRow w4.heap.size 40 2 _ ((rs kN).n + 1) _
              rw [HNk.out]; exact ho
            refine ⟨ow_put hW hk24 hgk hrow (fun q hq => by rw [HXk.out]; simp only [Value.ownBlock, Option.some.injEq] at hq; subst hq; exact hat), ?_⟩
            have hX8 := HX7.out
            have hgB : ∀ q, (X kN).ownBlock = some q → w4.heap.size ≤ q := fun q hq => ((hW.row kN hk24).lt q hq).1
            obtain ⟨_, Hh, hHb, _⟩ := own_blk1 hW.hd
            have hgH : w4.heap.size ≤ gH := (hW.hd.lt gH rfl).1
            have keep : ∀ {g n : Nat} {f : Nat → Value} {t : TypeId}, Blk (w6.alloc (.cells #[.int .i64 tm, .int .i64 id] 40)) g n f t → g < w4.heap.size → Blk (w7.setCell ⟨gH, kN, none⟩ (.slice (some ⟨g7, 0, none⟩) (nk + 1) cap7)) g n f t := fun {g n f t} hb hl => by
              have h1 : Blk W g n f t := hb.same hh
              have h2 : Blk w7 g n f t := by
                unfold Blk
                rw [hgk.block g h1.lt (fun e => by have := hgB g e.symm; omega)]
                exact h1
              exact h2.set_other (by omega) _ _
            have hb9 := (hbW.grown hgk (by have := hbW.size; omega) (fun q hq => Nat.le_trans (by omega) (hgB q hq))).setCell (p := ⟨gH, kN, none⟩) (show w.heap.size ≤ gH by omega) (.slice (some ⟨g7, 0, none⟩) (nk + 1) cap7)
            exact ⟨keep hX8.1 (by omega), keep hX8.2.1 (by omega), keep hX8.2.2.1 (by omega), hb9, by rw [World.size_setCell]; have := hgk.size; have := hh ▸ hX8.2.2.2.2; omega⟩)
          have hb6w := hX6.2.2.2.1
          obtain ⟨b9, hb9d⟩ : ∃ b, decide (GoodW now 24 (upd rs kN ((rs kN).snoc tm id))) = b := ⟨_, rfl⟩
          have HSp := hide (show ∀ W, RowsOf W (.slice (some ⟨gH, 0, none⟩) 24 cH) 24 (upd rs kN ((rs kN).snoc tm id)) → Calls Try.prog 17 #[.agg #[.int .i64 now, .slice (some ⟨gH, 0, none⟩) 24 cH]] W fun e w' => e = .returned (.bool b9) ∧ Below W.heap.size W w' from fun W hW => spec_good now _ 24 _ b9 W hW (Small.of60 (by rw [tot_put, if_pos hk24, HnT.out]; omega)) hb9d)
          have hgp := good_put HG.out hk24 hI HL.out (fun h => HH60.out (HnT.out.symm.trans h))
          have hb9c : (b9 = false ∧ Hid (¬ SetOk now 24 rs tm id)) ∨ (b9 = true ∧ Hid (SetOk now 24 rs tm id)) := by
            cases b9 with
            | false => exact .inl ⟨rfl, fun h => of_decide_eq_false hb9d (hgp.2 h.2.2.2.1)⟩
            | true => exact .inr ⟨rfl, HG.out, hI, fun h => HH60.out (HnT.out.symm.trans h), hgp.1 (of_decide_eq_true hb9d), by rw [HYs.out]⟩
          have HPu := hide (show putR rs now tm id = upd rs kN ((rs kN).snoc tm id) by unfold putR; rw [HYs.out]; simp)
          clear hgp hb9d
          clear hX6 hO6 hX7 hO7 hnk hxk
          go_region_law (refine step_append_lies _ rfl (.tmp 40) (.tmp 42) 52 rfl w4.heap.size 40 i0 _ 2 16 Try.underlying52 hi hz0 hz1 hz2 rfl (by decide) (.slice ar nk cr) nk (tv nk (rs kN).f) (by simp [Act.eval]) (by have h9 := owns_same ((HO7.out.row kN hk24)) (wx := (w6.alloc (.cells #[.int .i64 tm, .int .i64 id] 40)).drew) rfl; rw [HXk.out, HNk.out] at h9; exact h9) ⟨w6.heap.size, 0, none⟩ 1 1 [.int .i64 tm, .int .i64 id] (by simp [Act.eval]) rfl (news2 _ _ _ _ _ rfl) (by intro u hu; simp at hu; rcases hu with rfl | rfl <;> rfl) (by omega) (by unfold maxLen; omega) (by omega) (by simp; omega) _ rfl ?_; intro g7 cap7 w7 hown7 hgrow7 hat hlt7; obtain ⟨z0, z1, z2⟩ := HGs.out _ w7 hgrow7 rfl)
          all_goals
            obtain ⟨hR8, hX8⟩ := HFs.out _ w7 g7 cap7 hgrow7 rfl (hb6w.alloc (by omega) _).drew hown7 hat
            have HR8 := hide hR8
            clear hgrow7 hown7 hat z0 z1 z2 hR8 c0 c1 v0 v1 r0 r1 x0 x1 t0 t1
            generalize w7.setCell _ _ = w8 at *
            obtain ⟨x0, x1, -, -⟩ := hX8.1.pair
            go_wp2_with fail
            refine (HSp.out _ HR8.out.rows).mono ?_
            rintro e w9 ⟨rfl, hb⟩
            have hX9 := hX8.down hb hX8.2.2.2.2
            have HR9 := hide (HR8.out.down hb)
            have y0 := hX9.2.2.1.pair.1
            have y1 := hX9.2.2.1.pair.2.1
            obtain ⟨_, _, y2, y3⟩ := hX9.2.2.1.pair
            obtain ⟨q0, q1, -, -⟩ := hX9.1.pair
            have hb9 := hX9.2.2.2.1
            have HRb := hide hX9.2.2.1
            clear hb hX8 HR8 x0 x1 hX9
            rcases hb9c with ⟨rfl, HNo⟩ | ⟨rfl, HYes⟩
            · have hbf := (hb9.setCell (p := ⟨w.heap.size + 1 + 1, 0, none⟩) (show w.heap.size ≤ w.heap.size + 1 + 1 by omega) (.int .i64 0)).setCell (p := ⟨w.heap.size + 1 + 1, 1, none⟩) (show w.heap.size ≤ w.heap.size + 1 + 1 by omega) (.slice none 0 0)
              clear HR9 hb9
              go_wp2
              exact bodyPost_ret (v := .tuple #[.agg #[.int .i64 0, .slice none 0 0], .bool false]) (by simp [results, Try.results20, go_sem, y0, y1]) rfl ⟨.inr ⟨HNo.out, rfl⟩, hbf⟩
            · have hbf := (hb9.setCell (p := ⟨w.heap.size + 1 + 1, 0, none⟩) (show w.heap.size ≤ w.heap.size + 1 + 1 by omega) (.int .i64 now)).setCell (p := ⟨w.heap.size + 1 + 1, 1, none⟩) (show w.heap.size ≤ w.heap.size + 1 + 1 by omega) (.slice (some ⟨gH, 0, none⟩) 24 cH)
              have HRf := hide (((HR9.out.kept HRb.out 0 (.int .i64 now)).kept (HRb.out.set 0 _) 1 (.slice (some ⟨gH, 0, none⟩) 24 cH)).k (L := w.heap.size) (by omega))
              clear HR9 hb9
              go_wp2
              exact bodyPost_ret (v := .tuple #[.agg #[.int .i64 now, .slice (some ⟨gH, 0, none⟩) 24 cH], .bool true]) (by simp [results, Try.results20, go_sem, y0, y1]) rfl ⟨.inl ⟨HYes.out, _, rfl, by rw [HPu.out]; exact HRf.out⟩, hbf⟩
end Go.Proofs.Ytcodllammndciaa

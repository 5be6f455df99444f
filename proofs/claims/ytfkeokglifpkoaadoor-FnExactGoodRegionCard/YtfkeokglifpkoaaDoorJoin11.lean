/-
  Events in memory of a call's own, and the law's helpers on them whatever their number and wherever the marks begin: size, marks, and that marks are found again.
-/
import Derived.Test.YtfkeokglifpkoaaDoorJoin10
namespace Go.Proofs.YtfkeokglifpkoaaDoor
open Go.RowKit M
open Go.Sort (grow)
namespace M
/-- What a size leaves. -/
def szr (left : Int) (n : Nat) : Int := if (n : Int) ≤ left then left - n else -1
theorem szr_yes {left : Int} {n : Nat} (h : (n : Int) ≤ left) : szr left n = left - n := if_pos h
theorem szr_no {left : Int} {n : Nat} (h : left < (n : Int)) : szr left n = -1 := if_neg (by omega)
def wt (es : List Ev) : Nat := es.length + tot es
/-- Events that a call owns. -/
def OwnE (w : World) (B : Nat) (v : Value) (es : List Ev) : Prop := w.ownsRow B 45 4 v es.length (cellsE es)
theorem OwnE.down {w w' : World} {B : Nat} {v : Value} {es : List Ev} (h : OwnE w B v es) (hb : Below w.heap.size w w') : OwnE w' B v es := owns_below h hb
theorem OwnE.mono {w : World} {B B' : Nat} {v : Value} {es : List Ev} (h : OwnE w B v es) (hB : B' ≤ B) : OwnE w B' v es := owns_mono h hB
theorem OwnE.nil (w : World) (B : Nat) : OwnE w B (.slice none 0 0) [] := ⟨rfl, .inl ⟨rfl, rfl⟩⟩
theorem OwnE.other {w w' : World} {B : Nat} {v : Value} {es : List Ev} {row : Option Nat} (h : OwnE w B v es) (hg : w.grownBy w' row) (hne : ∀ g, v.ownBlock = some g → some g ≠ row) : OwnE w' B v es := owns_other h hg hne
theorem OwnE.slice {w : World} {B : Nat} {v : Value} {es : List Ev} (h : OwnE w B v es) : SliceOf w v es := by
  rcases h.2 with ⟨rfl, h0⟩ | ⟨g, cap, cur, rfl, hB, hg, hn, hc, hs, ht⟩
  · have : es = [] := List.eq_nil_of_length_eq_zero h0
    subst this
    exact ⟨none, 0, rfl, fun h => absurd rfl h⟩
  · refine ⟨_, cap, rfl, fun _ => ⟨g, 0, rfl, ?_, ?_⟩⟩
    · rcases Nat.lt_or_ge g w.heap.size with h' | h'
      · exact h'
      · rw [Array.getElem?_eq_none h'] at hg; cases hg
    · have hcur : cur = (cellsE es ++ cur.toList.drop (es.length * 4)).toArray := by
        apply Array.toList_inj.1
        rw [← ht]
        simp
      rw [hcur] at hg
      exact row_of_block hg
theorem OwnE.split {w : World} {B : Nat} {v : Value} {es : List Ev} (h : OwnE w B v es) : (v = .slice none 0 0 ∧ es = []) ∨ ∃ g cap rest, v = .slice (some ⟨g, 0, none⟩) es.length cap ∧ B ≤ g ∧ g < w.heap.size ∧ es.length ≤ cap ∧ cap ≤ maxLen ∧ (cellsE es ++ rest).length = cap * 4 ∧ w.heap[g]? = some (.cells (cellsE es ++ rest).toArray 45 (0, 0)) := by
  rcases h.2 with ⟨rfl, h0⟩ | ⟨g, cap, cur, rfl, hB, hg, hn, hc, hs, ht⟩
  · exact .inl ⟨rfl, List.eq_nil_of_length_eq_zero h0⟩
  · have hcur : cur = (cellsE es ++ cur.toList.drop (es.length * 4)).toArray := by
      apply Array.toList_inj.1
      rw [← ht]
      simp
    refine .inr ⟨g, cap, cur.toList.drop (es.length * 4), rfl, hB, ?_, hn, hc, ?_, by rw [← hcur]; exact hg⟩
    · rcases Nat.lt_or_ge g w.heap.size with h' | h'
      · exact h'
      · rw [Array.getElem?_eq_none h'] at hg; cases hg
    · have := congrArg Array.size hcur
      rw [hs, List.size_toArray] at this
      exact this.symm
theorem OwnE.of {w : World} {B g cap n : Nat} {es : List Ev} {rest : List Value} (hB : B ≤ g) (hn : n = es.length) (h1 : es.length ≤ cap) (h2 : cap ≤ maxLen) (hl : (cellsE es ++ rest).length = cap * 4) (hg : w.heap[g]? = some (.cells (cellsE es ++ rest).toArray 45 (0, 0))) : OwnE w B (.slice (some ⟨g, 0, none⟩) n cap) es := by
  subst hn
  refine ⟨cellsE_len es, .inr ⟨g, cap, _, rfl, hB, hg, h1, h2, by rw [List.size_toArray]; exact hl, ?_⟩⟩
  rw [List.take_append_of_le_length (by rw [cellsE_len]; exact Nat.le_refl _), List.take_of_length_le (by rw [cellsE_len]; exact Nat.le_refl _)]
theorem OwnE.lt {w : World} {B g : Nat} {v : Value} {es : List Ev} (h : OwnE w B v es) (hg : v.ownBlock = some g) : B ≤ g ∧ g < w.heap.size := by
  rcases h.split with ⟨rfl, _⟩ | ⟨g', cap, rest, rfl, hB, hl, _⟩
  · simp [Value.ownBlock] at hg
  · simp only [Value.ownBlock, Option.some.injEq] at hg
    subst hg; exact ⟨hB, hl⟩
/-- A copy that was made whole. -/
theorem OwnE.made {w : World} {g : Nat} {es : List Ev} (hl : es.length ≤ 1048576) (hg : w.heap[g]? = some (.cells (cellsE es).toArray 45 (0, 0))) : OwnE w g (.slice (some ⟨g, 0, none⟩) es.length es.length) es :=
  OwnE.of (rest := []) (Nat.le_refl _) rfl (Nat.le_refl _) (by unfold maxLen; omega) (by rw [List.append_nil, cellsE_len]) (by rw [List.append_nil]; exact hg)
/-- Marks on events from k on. -/
def mkA (k i : Nat) : Ev := ⟨((k + 4 * i : Nat) : Int), ((k + 4 * i : Nat) : Int) + 1, ((k + 4 * i : Nat) : Int) + 1 + 1, mtx (k + 4 * i + 3)⟩
def mkE (k n : Nat) : List Ev := (List.range n).map (mkA k)
theorem mkE_len (k n : Nat) : (mkE k n).length = n := by simp [mkE]
theorem mkE_at {k n i : Nat} (h : i < n) : (mkE k n)[i]? = some (mkA k i) := by simp [mkE, h]
theorem mkE_cells (k0 n k q : Nat) (h : k < n) (hq : q = k0 + 4 * k) : cellsE ((mkE k0 n).take (k + 1)) = cellsE ((mkE k0 n).take k) ++ [.int .i64 (q : Int), .int .i64 ((q : Int) + 1), .int .i64 ((q : Int) + 1 + 1), .string (mtx (q + 3))] := by
  subst hq
  rw [cellsE_split (mkE k0 n) k _ (mkE_at h)]; rfl
theorem setA3 (A R : List Value) (x0 x1 x2 x3 y0 y1 y2 : Value) (o : Nat) (ho : o = A.length) :
    (((A ++ x0 :: x1 :: x2 :: x3 :: R).toArray.setIfInBounds o y0).setIfInBounds (o + 1) y1).setIfInBounds (o + 2) y2 = (A ++ y0 :: y1 :: y2 :: x3 :: R).toArray := by
  subst ho
  simp
theorem setA1 (A R : List Value) (x0 x1 x2 x3 y3 : Value) (o : Nat) (ho : o = A.length) :
    (A ++ x0 :: x1 :: x2 :: x3 :: R).toArray.setIfInBounds (o + 3) y3 = (A ++ x0 :: x1 :: x2 :: y3 :: R).toArray := by
  subst ho
  simp
end M
set_option maxHeartbeats 1600000 in
theorem sz_evs (v : Value) (es : List Ev) (left : Int) (w : World) (hv : SliceOf w v es) (hlen : es.length ≤ maxLen) (hnm : ∀ e ∈ es, e.name.size ≤ maxLen) (hl0 : 0 ≤ left) (hl1 : left ≤ 1048576) :
    Calls Tryd.prog 37 #[v, .int .i64 left] w fun e w' => e = .returned (.int .i64 (szr left (wt es))) ∧ Below w.heap.size w w' := by
  obtain ⟨a, cap, rfl, hr⟩ := hv
  have hlen' := hlen
  unfold maxLen at hlen
  have HN := hide hnm
  clear hnm
  by_cases hbig : left < (es.length : Int)
  · have hge : (left - (es.length : Int) < 0) := by omega
    have HZ := hide (szr_no (left := left) (n := wt es) (by unfold wt; omega))
    go_enter Tryd.func37, Tryd.ntmps37
    go_wp2
    go_ret
    exact ⟨ret_int (by rw [HZ.out]), Below.refl _ _⟩
  · have hge : ¬ (left - (es.length : Int) < 0) := by omega
    have HR := hide hr
    clear hr
    go_enter Tryd.func37, Tryd.ntmps37
    go_wp2
    go_loopw [1, 5] (fun x i wr => ∃ k : Nat, k ≤ es.length ∧ i = .int .i64 k ∧ x = .int .i64 (left - (es.length : Int) - (tot (es.take k) : Nat)) ∧ ((es.length + tot (es.take k) : Nat) : Int) ≤ left ∧ Below w.heap.size w wr) (fun _ i _ => es.length - (intOf i).toNat)
    case atStart => exact ⟨0, Nat.zero_le _, rfl, by simp [tot], by simp [tot]; omega, Below.refl _ _⟩
    case round =>
      obtain ⟨k, hk, rfl, rfl, hfit, hbw⟩ := hrel
      by_cases hlt2 : k < es.length
      · obtain ⟨e, he⟩ : ∃ e, es[k]? = some e := ⟨es[k], List.getElem?_eq_getElem hlt2⟩
        obtain ⟨b, off, rfl, hlt, hrow⟩ := HR.out (by intro h; subst h; simp at hlt2)
        obtain ⟨c0, c1, c2, c3⟩ := (hrow k e he).below hbw hlt
        have HT := hide (tot_take es k e he)
        have hne := HN.out e (List.mem_of_getElem? he)
        have HL := hide (tot_take_le es (k + 1))
        clear hrow HR he
        by_cases hfit2 : ((es.length + tot (es.take k) + e.name.size : Nat) : Int) ≤ left
        · have hge2 : ¬ (left - (es.length : Int) - ((tot (es.take k) : Nat) : Int) - (e.name.size : Int) < 0) := by omega
          go_wp2_with fail
          refine (sz_yes _ _ _ _ _ _ (by omega) (by omega) (by omega)).mono ?_
          rintro e' w2 ⟨rfl, hb2⟩
          have hbw2 := hbw.trans (hb2.mono hbw.size)
          clear hb2 c0 c1 c2 c3
          go_wp2
          go_roundw
          case rel => exact ⟨k + 1, by omega, by go_num, by rw [HT.out]; go_num, by rw [HT.out]; omega, hbw2⟩
          case measure => simp [intOf]; omega
        · have hm1 : ((-1 : Int) < 0) := by omega
          have HZ := hide (szr_no (left := left) (n := wt es) (by unfold wt; have := HT.out; have := HL.out; omega))
          go_wp2_with fail
          refine (sz_no _ _ _ _ _ _ hne (by omega) (by omega) (by omega)).mono ?_
          rintro e' w2 ⟨rfl, hb2⟩
          have hbw2 := hbw.trans (hb2.mono hbw.size)
          clear hb2 c0 c1 c2 c3
          go_wp2
          go_ret
          exact ⟨ret_int (by rw [HZ.out]), hbw2⟩
      · rw [List.take_of_length_le (by omega)] at hfit ⊢
        have HZ := hide (szr_yes (left := left) (n := wt es) hfit)
        clear HR
        go_wp2
        go_ret
        exact ⟨ret_int (by rw [HZ.out]; unfold wt; omega), hbw⟩
end Go.Proofs.YtfkeokglifpkoaaDoor

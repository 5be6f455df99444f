/-
  Texts that follow one another, joined: BrE, StG.
-/
import Derived.Test.YtfkeokglifpkoaaGreatDoorJoin6
/-
  Events in memory of a call's own, and the law's helpers on them whatever their number and wherever the marks begin: size, marks, and that marks are found again.
-/
namespace Go.Proofs.YtfkeokglifpkoaaGreatDoor
open Go.RowKit M
open Go.Sort (grow)
namespace M
/-- What a size leaves. -/
def szr (left : Int) (n : Nat) : Int := if (n : Int) ≤ left then left - n else -1
theorem szr_yes {left : Int} {n : Nat} (h : (n : Int) ≤ left) : szr left n = left - n := if_pos h
theorem szr_no {left : Int} {n : Nat} (h : left < (n : Int)) : szr left n = -1 := if_neg (by omega)
def wt (es : List Ev) : Nat := es.length + tot es
/-- Events that a call owns. -/
def OwnE (w : World) (B : Nat) (v : Value) (es : List Ev) : Prop := w.ownsRow B 74 4 v es.length (cellsE es)
theorem OwnE.down {w w' : World} {B : Nat} {v : Value} {es : List Ev} (h : OwnE w B v es) (hb : Below w.heap.size w w') : OwnE w' B v es := owns_below h hb
theorem OwnE.mono {w : World} {B B' : Nat} {v : Value} {es : List Ev} (h : OwnE w B v es) (hB : B' ≤ B) : OwnE w B' v es := owns_mono h hB
theorem OwnE.nil (w : World) (B : Nat) : OwnE w B (.slice none 0 0) [] := ⟨rfl, .inl ⟨rfl, rfl⟩⟩
theorem OwnE.other {w w' : World} {B : Nat} {v : Value} {es : List Ev} {row : Option Nat} (h : OwnE w B v es) (hg : w.grownBy w' row) (hne : ∀ g, v.ownBlock = some g → some g ≠ row) : OwnE w' B v es := owns_other h hg hne
theorem OwnE.slice {w : World} {B : Nat} {v : Value} {es : List Ev} (h : OwnE w B v es) : SliceOf w v es := by
  rcases h.2 with ⟨rfl, h0⟩ | ⟨g, cap, cur, rfl, hB, hg, hn, hc, hs, ht⟩
  · have : es = [] := List.eq_nil_of_length_eq_zero h0
    subst this
    exact ⟨none, 0, rfl, fun h => absurd rfl h⟩
  · refine ⟨_, cap, rfl, fun _ => ⟨g, 0, rfl, ?_, ?_⟩⟩
    · rcases Nat.lt_or_ge g w.heap.size with h' | h'
      · exact h'
      · rw [Array.getElem?_eq_none h'] at hg; cases hg
    · have hcur : cur = (cellsE es ++ cur.toList.drop (es.length * 4)).toArray := by
        apply Array.toList_inj.1
        rw [← ht]
        simp
      rw [hcur] at hg
      exact row_of_block hg
theorem OwnE.split {w : World} {B : Nat} {v : Value} {es : List Ev} (h : OwnE w B v es) : (v = .slice none 0 0 ∧ es = []) ∨ ∃ g cap rest, v = .slice (some ⟨g, 0, none⟩) es.length cap ∧ B ≤ g ∧ g < w.heap.size ∧ es.length ≤ cap ∧ cap ≤ maxLen ∧ (cellsE es ++ rest).length = cap * 4 ∧ w.heap[g]? = some (.cells (cellsE es ++ rest).toArray 74 (0, 0)) := by
  rcases h.2 with ⟨rfl, h0⟩ | ⟨g, cap, cur, rfl, hB, hg, hn, hc, hs, ht⟩
  · exact .inl ⟨rfl, List.eq_nil_of_length_eq_zero h0⟩
  · have hcur : cur = (cellsE es ++ cur.toList.drop (es.length * 4)).toArray := by
      apply Array.toList_inj.1
      rw [← ht]
      simp
    refine .inr ⟨g, cap, cur.toList.drop (es.length * 4), rfl, hB, ?_, hn, hc, ?_, by rw [← hcur]; exact hg⟩
    · rcases Nat.lt_or_ge g w.heap.size with h' | h'
      · exact h'
      · rw [Array.getElem?_eq_none h'] at hg; cases hg
    · have := congrArg Array.size hcur
      rw [hs, List.size_toArray] at this
      exact this.symm
theorem OwnE.of {w : World} {B g cap n : Nat} {es : List Ev} {rest : List Value} (hB : B ≤ g) (hn : n = es.length) (h1 : es.length ≤ cap) (h2 : cap ≤ maxLen) (hl : (cellsE es ++ rest).length = cap * 4) (hg : w.heap[g]? = some (.cells (cellsE es ++ rest).toArray 74 (0, 0))) : OwnE w B (.slice (some ⟨g, 0, none⟩) n cap) es := by
  subst hn
  refine ⟨cellsE_len es, .inr ⟨g, cap, _, rfl, hB, hg, h1, h2, by rw [List.size_toArray]; exact hl, ?_⟩⟩
  rw [List.take_append_of_le_length (by rw [cellsE_len]; exact Nat.le_refl _), List.take_of_length_le (by rw [cellsE_len]; exact Nat.le_refl _)]
theorem OwnE.lt {w : World} {B g : Nat} {v : Value} {es : List Ev} (h : OwnE w B v es) (hg : v.ownBlock = some g) : B ≤ g ∧ g < w.heap.size := by
  rcases h.split with ⟨rfl, _⟩ | ⟨g', cap, rest, rfl, hB, hl, _⟩
  · simp [Value.ownBlock] at hg
  · simp only [Value.ownBlock, Option.some.injEq] at hg
    subst hg; exact ⟨hB, hl⟩
/-- A copy that was made whole. -/
theorem OwnE.made {w : World} {g : Nat} {es : List Ev} (hl : es.length ≤ 1048576) (hg : w.heap[g]? = some (.cells (cellsE es).toArray 74 (0, 0))) : OwnE w g (.slice (some ⟨g, 0, none⟩) es.length es.length) es :=
  OwnE.of (rest := []) (Nat.le_refl _) rfl (Nat.le_refl _) (by unfold maxLen; omega) (by rw [List.append_nil, cellsE_len]) (by rw [List.append_nil]; exact hg)
/-- Marks on events from k on. -/
def mkA (k i : Nat) : Ev := ⟨((k + 4 * i : Nat) : Int), ((k + 4 * i : Nat) : Int) + 1, ((k + 4 * i : Nat) : Int) + 1 + 1, mtx (k + 4 * i + 3)⟩
def mkE (k n : Nat) : List Ev := (List.range n).map (mkA k)
theorem mkE_len (k n : Nat) : (mkE k n).length = n := by simp [mkE]
theorem mkE_at {k n i : Nat} (h : i < n) : (mkE k n)[i]? = some (mkA k i) := by simp [mkE, h]
theorem mkE_cells (k0 n k q : Nat) (h : k < n) (hq : q = k0 + 4 * k) : cellsE ((mkE k0 n).take (k + 1)) = cellsE ((mkE k0 n).take k) ++ [.int .i64 (q : Int), .int .i64 ((q : Int) + 1), .int .i64 ((q : Int) + 1 + 1), .string (mtx (q + 3))] := by
  subst hq
  rw [cellsE_split (mkE k0 n) k _ (mkE_at h)]; rfl
theorem setA3 (A R : List Value) (x0 x1 x2 x3 y0 y1 y2 : Value) (o : Nat) (ho : o = A.length) :
    (((A ++ x0 :: x1 :: x2 :: x3 :: R).toArray.setIfInBounds o y0).setIfInBounds (o + 1) y1).setIfInBounds (o + 2) y2 = (A ++ y0 :: y1 :: y2 :: x3 :: R).toArray := by
  subst ho
  simp
theorem setA1 (A R : List Value) (x0 x1 x2 x3 y3 : Value) (o : Nat) (ho : o = A.length) :
    (A ++ x0 :: x1 :: x2 :: x3 :: R).toArray.setIfInBounds (o + 3) y3 = (A ++ x0 :: x1 :: x2 :: y3 :: R).toArray := by
  subst ho
  simp
end M
set_option maxHeartbeats 1600000 in
theorem sz_evs (v : Value) (es : List Ev) (left : Int) (w : World) (hv : SliceOf w v es) (hlen : es.length ≤ maxLen) (hnm : ∀ e ∈ es, e.name.size ≤ maxLen) (hl0 : 0 ≤ left) (hl1 : left ≤ 1048576) :
    Calls Tryz.prog 173 #[v, .int .i64 left] w fun e w' => e = .returned (.int .i64 (szr left (wt es))) ∧ Below w.heap.size w w' := by
  obtain ⟨a, cap, rfl, hr⟩ := hv
  have hlen' := hlen
  unfold maxLen at hlen
  have HN := hide hnm
  clear hnm
  by_cases hbig : left < (es.length : Int)
  · have hge : (left - (es.length : Int) < 0) := by omega
    have HZ := hide (szr_no (left := left) (n := wt es) (by unfold wt; omega))
    go_enter Tryz.func173, Tryz.ntmps173
    go_wp2
    go_ret
    exact ⟨ret_int (by rw [HZ.out]), Below.refl _ _⟩
  · have hge : ¬ (left - (es.length : Int) < 0) := by omega
    have HR := hide hr
    clear hr
    go_enter Tryz.func173, Tryz.ntmps173
    go_wp2
    go_loopw [1, 5] (fun x i wr => ∃ k : Nat, k ≤ es.length ∧ i = .int .i64 k ∧ x = .int .i64 (left - (es.length : Int) - (tot (es.take k) : Nat)) ∧ ((es.length + tot (es.take k) : Nat) : Int) ≤ left ∧ Below w.heap.size w wr) (fun _ i _ => es.length - (intOf i).toNat)
    case atStart => exact ⟨0, Nat.zero_le _, rfl, by simp [tot], by simp [tot]; omega, Below.refl _ _⟩
    case round =>
      obtain ⟨k, hk, rfl, rfl, hfit, hbw⟩ := hrel
      by_cases hlt2 : k < es.length
      · obtain ⟨e, he⟩ : ∃ e, es[k]? = some e := ⟨es[k], List.getElem?_eq_getElem hlt2⟩
        obtain ⟨b, off, rfl, hlt, hrow⟩ := HR.out (by intro h; subst h; simp at hlt2)
        obtain ⟨c0, c1, c2, c3⟩ := (hrow k e he).below hbw hlt
        have HT := hide (tot_take es k e he)
        have hne := HN.out e (List.mem_of_getElem? he)
        have HL := hide (tot_take_le es (k + 1))
        clear hrow HR he
        by_cases hfit2 : ((es.length + tot (es.take k) + e.name.size : Nat) : Int) ≤ left
        · have hge2 : ¬ (left - (es.length : Int) - ((tot (es.take k) : Nat) : Int) - (e.name.size : Int) < 0) := by omega
          go_wp2_with fail
          refine (sz_yes _ _ _ _ _ _ (by omega) (by omega) (by omega)).mono ?_
          rintro e' w2 ⟨rfl, hb2⟩
          have hbw2 := hbw.trans (hb2.mono hbw.size)
          clear hb2 c0 c1 c2 c3
          go_wp2
          go_roundw
          case rel => exact ⟨k + 1, by omega, by go_num, by rw [HT.out]; go_num, by rw [HT.out]; omega, hbw2⟩
          case measure => simp [intOf]; omega
        · have hm1 : ((-1 : Int) < 0) := by omega
          have HZ := hide (szr_no (left := left) (n := wt es) (by unfold wt; have := HT.out; have := HL.out; omega))
          go_wp2_with fail
          refine (sz_no _ _ _ _ _ _ hne (by omega) (by omega) (by omega)).mono ?_
          rintro e' w2 ⟨rfl, hb2⟩
          have hbw2 := hbw.trans (hb2.mono hbw.size)
          clear hb2 c0 c1 c2 c3
          go_wp2
          go_ret
          exact ⟨ret_int (by rw [HZ.out]), hbw2⟩
      · rw [List.take_of_length_le (by omega)] at hfit ⊢
        have HZ := hide (szr_yes (left := left) (n := wt es) hfit)
        clear HR
        go_wp2
        go_ret
        exact ⟨ret_int (by rw [HZ.out]; unfold wt; omega), hbw⟩
set_option maxHeartbeats 1600000 in
theorem mark_own (B k0 : Nat) (v : Value) (es : List Ev) (w : World) (h : OwnE w B v es) (hn : es.length ≤ 1048576) (h1 : 1 ≤ k0) (hk0 : k0 ≤ 20000000) :
    Calls Tryz.prog 158 #[v, .int .i64 (k0 : Int)] w fun e w' => e = .returned (.int .i64 ((k0 + 4 * es.length : Nat) : Int)) ∧ OwnE w' B v (mkE k0 es.length) ∧ w.grownBy w' v.ownBlock := by
  rcases h.split with ⟨rfl, rfl⟩ | ⟨g, cap, rest, rfl, hB, hlg, hc, hcm, hsz, hg⟩
  · go_enter Tryz.func158, Tryz.ntmps158
    go_wp2
    refine wp_loop_rounds 1 ?_; rw [rounds_succ]
    go_wp2
    go_ret
    exact ⟨rfl, OwnE.nil _ _, gbT_refl _ _⟩
  · have HG := hide hg
    have HSZ := hide hsz
    clear hg h hsz
    go_enter Tryz.func158, Tryz.ntmps158
    go_wp2
    go_loopw [1, 5] (fun x i wr => ∃ k q : Nat, k ≤ es.length ∧ i = .int .i64 k ∧ x = .int .i64 q ∧ Hid (q = k0 + 4 * k) ∧ q ≤ 30000000 ∧ Hid (wr.heap[g]? = some (.cells (cellsE ((mkE k0 es.length).take k) ++ (cellsE (es.drop k) ++ rest)).toArray 74 (0, 0))) ∧ w.grownBy wr (some g)) (fun _ i _ => es.length - (intOf i).toNat)
    case atStart => exact ⟨0, k0, Nat.zero_le _, rfl, rfl, hide rfl, by omega, HG, gbT_refl _ _⟩
    case round =>
      obtain ⟨k, q, hk, rfl, rfl, HQ, hq, HB, hgb⟩ := hrel
      by_cases hlt : k < es.length
      · have hB0 := HB.out
        rw [List.drop_eq_getElem_cons hlt] at hB0
        have hAl : k * 4 = (cellsE ((mkE k0 es.length).take k)).length := by rw [cellsE_len, List.length_take, mkE_len]; omega
        have hB' : wr.heap[g]? = some (.cells (cellsE ((mkE k0 es.length).take k) ++ .int .i64 es[k].id :: .int .i64 es[k].ver :: .int .i64 es[k].kind :: .string es[k].name :: (cellsE (es.drop (k + 1)) ++ rest)).toArray 74 (0, 0)) := hB0
        obtain ⟨⟨f0, f1, f2, f3⟩, d0, d1, d2, d3⟩ := there4 hB' hAl
        have e1 := heap_setCell_same _ g (k * 4) _ 74 (.int .i64 (q : Int)) hB'
        have e2 := heap_setCell_same _ g (k * 4 + 1) _ 74 (.int .i64 ((q : Int) + 1)) e1
        have e3 := heap_setCell_same _ g (k * 4 + 2) _ 74 (.int .i64 ((q : Int) + 1 + 1)) e2
        rw [setA3 _ _ _ _ _ _ _ _ _ _ hAl] at e3
        have HB3 := hide e3
        have hgb3 := gbT_set (o := k * 4 + 2) (v := .int .i64 ((q : Int) + 1 + 1)) (gbT_set (o := k * 4 + 1) (v := .int .i64 ((q : Int) + 1)) (gbT_set (o := k * 4) (v := .int .i64 (q : Int)) hgb))
        have HAL := hide hAl
        have hq1 := HQ.out
        have hq2 : q ≤ 29000000 := by omega
        have hq3 : 1 ≤ q := by omega
        clear hB0 hB' e1 e2 e3 hAl hq1 HB HG
        go_wp2_with fail
        rw [show ((q : Int) + 1 + 1 + 1) = ((q + 3 : Nat) : Int) by omega]
        refine (mark_tx (q + 3) _ (by omega) (by omega)).mono ?_
        rintro e' w4 ⟨rfl, hb4⟩
        have hB4 := blk_below HB3.out hb4
        obtain ⟨⟨i0, i1, i2, i3⟩, j0, j1, j2, j3⟩ := there4 hB4 HAL.out
        have h5 := heap_setCell_same _ g (k * 4 + 3) _ 74 (.string (mtx (q + 3))) hB4
        rw [setA1 _ _ _ _ _ _ _ _ HAL.out] at h5
        have HB5 := hide h5
        have hgb5 := gbT_set (o := k * 4 + 3) (v := .string (mtx (q + 3))) (gbT_below hgb3 hb4)
        have HM := hide (mkE_cells k0 es.length k q hlt HQ.out)
        have HQ2 := hide (show q + 4 = k0 + 4 * (k + 1) by have := HQ.out; omega)
        clear hB4 h5 hb4 hgb hgb3 HB3 f0 f1 f2 f3 d0 d1 d2 d3
        go_wp2
        exact ⟨⟨k + 1, q + 4, by omega, by go_num, by go_num, HQ2, by omega, hide (by rw [HM.out, List.append_assoc]; exact HB5.out), hgb5⟩, by simp [intOf]; omega⟩
      · have hke : k = es.length := by omega
        subst hke
        have hB0 := HB.out
        rw [List.drop_length, List.take_of_length_le (by rw [mkE_len]; omega)] at hB0
        have HB2 := hide (show wr.heap[g]? = some (.cells (cellsE (mkE k0 es.length) ++ rest).toArray 74 (0, 0)) from hB0)
        clear hB0 HB HG
        go_wp2
        go_ret
        exact ⟨ret_int (by have := HQ.out; omega), OwnE.of hB (by rw [mkE_len]) (by rw [mkE_len]; exact hc) hcm (by have := HSZ.out; rw [List.length_append, cellsE_len] at this ⊢; rw [mkE_len]; exact this) HB2.out, hgb⟩
set_option maxHeartbeats 1600000 in
theorem held_evs (v : Value) (k0 n : Nat) (w : World) (hv : SliceOf w v (mkE k0 n)) (hn : n ≤ 1048576) (h1 : 1 ≤ k0) (hk0 : k0 ≤ 20000000) :
    Calls Tryz.prog 159 #[v, .int .i64 (k0 : Int)] w fun e w' => e = .returned (.int .i64 ((k0 + 4 * n : Nat) : Int)) ∧ Below w.heap.size w w' := by
  obtain ⟨a, cap, rfl, hr⟩ := hv
  rw [mkE_len]
  have HR := hide hr
  clear hr
  go_enter Tryz.func159, Tryz.ntmps159
  go_wp2
  go_loopw [1, 5] (fun x i wr => ∃ k q : Nat, k ≤ n ∧ i = .int .i64 k ∧ x = .int .i64 q ∧ Hid (q = k0 + 4 * k) ∧ q ≤ 30000000 ∧ Below w.heap.size w wr) (fun _ i _ => n - (intOf i).toNat)
  case atStart => exact ⟨0, k0, Nat.zero_le _, rfl, rfl, hide rfl, by omega, Below.refl _ _⟩
  case round =>
    obtain ⟨k, q, hk, rfl, rfl, HQ, hq, hbw⟩ := hrel
    by_cases hlt2 : k < n
    · obtain ⟨b, off, rfl, hlt, hrow⟩ := HR.out (by intro h; have := congrArg List.length h; rw [mkE_len] at this; simp at this; omega)
      have hat := (hrow k _ (mkE_at hlt2)).below hbw hlt
      unfold mkA at hat
      rw [← HQ.out] at hat
      obtain ⟨c0, c1, c2, c3⟩ := hat
      simp only at c0 c1 c2 c3
      have hq1 := HQ.out
      have hq2 : q ≤ 29000000 := by omega
      have hq3 : 1 ≤ q := by omega
      have HQ2 := hide (show q + 4 = k0 + 4 * (k + 1) by omega)
      have u0 := cell_regrown c0
      have u3 := cell_regrown c3
      have hi0 : (0 : Int) ≤ (k : Int) := by omega
      have hi1 : (k : Int) < (n : Int) := by omega
      have cM : ∀ d os, Calls Tryz.prog 129 #[.int .i64 ((q + 3 : Nat) : Int)] (grow (redrawn wr d) os) fun e w'' => e = .returned (.string (mtx (q + 3))) ∧ ∃ p : Regrown, w'' = grow (redrawn wr p.d) p.os := fun d os => Calls.regrown_of (mark_tx (q + 3) _ (by omega) (by omega))
      rw [show ((q + 3 : Nat) : Int) = (q : Int) + 1 + 1 + 1 by omega] at cM
      have HE := hide cM
      clear cM hq1 HR hrow
      go_wp2
      refine wp_region_quiet_below (by kernel_rfl) (by kernel_rfl) ?_
      repeat (go_big_quiet_step (exact HE.out _ _))
      refine wpQuiet_nil ?_
      intro _ hw'
      obtain ⟨⟨dq, osq⟩, hw''⟩ := hw'
      subst hw''
      have hbw2 := hbw.trans ((below_regrown wr dq osq).mono hbw.size)
      go_wp2
      go_roundw
      case rel => exact ⟨k + 1, q + 4, by omega, by go_num, by go_num, HQ2, by omega, hbw2⟩
      case measure => simp [intOf]; omega
    · have hke : k = n := by omega
      subst hke
      clear HR
      go_wp2
      go_ret
      exact ⟨ret_int (by have := HQ.out; omega), hbw⟩
end Go.Proofs.YtfkeokglifpkoaaGreatDoor

/-
  Names that are good, and GoodState in both texts: each returns whether; nothing that was there is turned.
-/
namespace Go.Proofs.YtfkeokglifpkoaaGreatDoor
open Go.RowKit M
open Go.Sort (grow)
namespace M
/-- A slice of texts that is read, its length within its capacity. -/
def TxC (w : World) (v : Value) (l : Txs) : Prop := TxsOf w v l ∧ ∃ a c, v = .slice a l.length c ∧ l.length ≤ c ∧ (a = none → c = 0)
theorem TxC.below {w w' : World} {v : Value} {l : Txs} (h : TxC w v l) (hb : Below w.heap.size w w') : TxC w' v l := ⟨h.1.below hb, h.2⟩
theorem OwnT.c {w : World} {B : Nat} {v : Value} {l : Txs} (h : OwnT w B v l) : TxC w v l := by
  refine ⟨h.txs, ?_⟩
  rcases h.split with ⟨rfl, rfl⟩ | ⟨g, cap, rfl, _, _, hc, _⟩
  · exact ⟨_, _, rfl, Nat.le_refl _, fun _ => rfl⟩
  · exact ⟨_, _, rfl, hc, fun h => by cases h⟩
theorem TxC.parts {w : World} {v : Value} {l : Txs} (h : TxC w v l) : ∃ a cap, v = .slice a l.length cap ∧ l.length ≤ cap ∧ (0 < l.length → ∃ b off, a = some ⟨b, off, none⟩ ∧ b < w.heap.size ∧ ∀ i x, l[i]? = some x → w.cell? ⟨b, off + i, none⟩ = some (.string x)) := by
  obtain ⟨⟨a, cap, rfl, hr⟩, a', c', hv, hc, -⟩ := h
  simp only [Value.slice.injEq, true_and] at hv
  obtain ⟨rfl, rfl⟩ := hv
  exact ⟨a, cap, rfl, hc, hr⟩
theorem TxC.nil0 {w : World} {n c : Nat} {l : Txs} (h : TxC w (.slice none n c) l) : n = 0 ∧ c = 0 ∧ l = [] := by
  obtain ⟨⟨a, cap, hv1, hr⟩, a', c', hv, hc, h0⟩ := h
  simp only [Value.slice.injEq] at hv hv1
  obtain ⟨rfl, h1, rfl⟩ := hv
  have := h0 rfl
  have h2 : l.length = 0 := by omega
  exact ⟨by omega, this, List.length_eq_zero_iff.1 h2⟩
theorem gt_of {x y : ByteArray} (hne : y ≠ x) (h : ltS y x = false) : ltS x y = true := by
  rcases lt_tri x y with h1 | h1 | h1
  · exact h1
  · exact absurd h1.symm hne
  · rw [h] at h1; cases h1
/-- Those ahead of place j are told apart from x, which stands at place k. -/
def Ahd (r : Bool) (l : Txs) (x : ByteArray) (k j : Nat) : Prop := ∀ m y, m < j → l[m]? = some y → y ≠ x ∧ (r = true → m + 1 = k → ltS x y = false)
theorem Ahd.zero (r : Bool) (l : Txs) (x : ByteArray) (k : Nat) : Ahd r l x k 0 := fun m y hm => by omega
theorem Ahd.succ {r : Bool} {l : Txs} {x y : ByteArray} {k j : Nat} (h : Ahd r l x k j) (hy : l[j]? = some y) (h2 : y ≠ x) (h3 : r = true → j + 1 = k → ltS x y = false) : Ahd r l x k (j + 1) := fun m z hm hz => by
  by_cases c : m = j
  · subst c
    rw [hy] at hz
    simp only [Option.some.injEq] at hz
    subst hz; exact ⟨h2, h3⟩
  · exact h m z (by omega) hz
theorem Ahd.at {r : Bool} {l : Txs} {x : ByteArray} {k : Nat} (h : Ahd r l x k k) (hx : l[k]? = some x) (hg : gN x = true) : NmAt r l k := fun z hz => by
  rw [hx] at hz
  simp only [Option.some.injEq] at hz
  subst hz; exact ⟨hg, h⟩
theorem NmUp.bad {r : Bool} {l : Txs} {k : Nat} (hk : k < l.length) (h : ¬ NmAt r l k) : ¬ Nms r l := fun hn => h (hn.2 k hk)
end M
set_option maxHeartbeats 1000000 in
theorem index_txs (v : Value) (l : Txs) (x : ByteArray) (w : World) (hv : TxsOf w v l) (hn : l.length ≤ 1048576) :
    Calls Tryz.prog 153 #[v, .string x] w fun e w' => (∃ r : Int, e = .returned (.int .i64 r) ∧ (0 ≤ r ↔ x ∈ l)) ∧ w' = w := by
  obtain ⟨a, cap, rfl, hr⟩ := hv
  have HR := hide hr
  clear hr
  go_enter Tryz.func153, Tryz.ntmps153
  go_wp2
  go_loop [8] (fun i => ∃ k : Nat, k ≤ l.length ∧ i = .int .i64 k ∧ Hid (x ∉ l.take k)) (fun i => l.length - (intOf i).toNat)
  case atStart => exact ⟨0, Nat.zero_le _, rfl, hide (by simp)⟩
  case round =>
    obtain ⟨k, hk, rfl, HX⟩ := hrel
    by_cases hlt : k < l.length
    · obtain ⟨b, off, rfl, hb, hrow⟩ := HR.out (by omega)
      obtain ⟨y, hy⟩ : ∃ y, l[k]? = some y := ⟨l[k], List.getElem?_eq_getElem hlt⟩
      have c0 := hrow k y hy
      have HY := hide hy
      clear hrow hy HR
      by_cases hxy : x = y
      · have hd : (x.toList == y.toList) = true := by rw [eqS]; exact decide_eq_true hxy
        have HM := hide (show x ∈ l from by rw [hxy]; exact List.mem_of_getElem? HY.out)
        clear hxy
        go_wp2
        go_ret
        exact ⟨⟨_, rfl, fun _ => HM.out, fun _ => by omega⟩, rfl⟩
      · have hd : (x.toList == y.toList) = false := by rw [eqS]; exact decide_eq_false hxy
        have HX2 := hide (show x ∉ l.take (k + 1) from by
          rw [take_snoc' HY.out]; simp only [List.mem_append, List.mem_singleton, not_or]; exact ⟨HX.out, hxy⟩)
        clear hxy
        go_wp2
        go_round
        case rel => exact ⟨k + 1, by omega, by go_num, HX2⟩
        case measure => simp [intOf]; omega
    · have HN := hide (show x ∉ l from by have := HX.out; rwa [List.take_of_length_le (by omega)] at this)
      clear HR HX
      go_wp2
      go_ret
      exact ⟨⟨_, rfl, fun h => by omega, fun h => absurd h HN.out⟩, rfl⟩
theorem contains_txs (v : Value) (l : Txs) (x : ByteArray) (b : Bool) (w : World) (hv : TxsOf w v l) (hn : l.length ≤ 1048576) (hb : BP b (x ∈ l)) :
    Calls Tryz.prog 106 #[v, .string x] w fun e w' => e = .returned (.bool b) ∧ w' = w := by
  have HB := hide hb
  clear hb
  have HV := hide hv
  obtain ⟨a, cap, rfl⟩ := hv.form
  clear hv
  go_enter Tryz.func106, Tryz.ntmps106
  go_wp2_with fail
  refine (index_txs _ l x _ HV.out hn).mono ?_
  rintro e w' ⟨⟨r, rfl, hr⟩, hw⟩
  have HR := hide hr
  have HW := hide hw
  clear hr hw
  go_wp2
  go_ret
  exact ⟨ret_bool (by rw [Bool.eq_iff_iff]; simp only [decide_eq_true_eq]; exact HR.out.trans HB.out.symm), HW.out⟩
set_option maxHeartbeats 2000000 in
theorem spec_names (r : Bool) (v : Value) (l : Txs) (b : Bool) (w : World) (hv : TxC w v l) (hn : l.length ≤ 1048576) (hnm : ∀ x ∈ l, x.size ≤ maxLen) (hb : BP b (Nms r l)) :
    Calls Tryz.prog 178 #[v, .bool r] w fun e w' => e = .returned (.bool b) ∧ w' = w := by
  obtain ⟨a, cap, rfl, hcap, hr⟩ := hv.parts
  have HR := hide hr
  have HN := hide hnm
  have HB := hide hb
  clear hr hv hnm hb
  go_enter Tryz.func178, Tryz.ntmps178
  go_wp2
  go_loop [11] (fun i => ∃ k : Nat, k ≤ l.length ∧ i = .int .i64 k ∧ Hid (NmUp r l k)) (fun i => l.length - (intOf i).toNat)
  case atStart => exact ⟨0, Nat.zero_le _, rfl, hide (fun i hi => by omega)⟩
  case round =>
    obtain ⟨k, hk, rfl, HU⟩ := hrel
    by_cases hlt : k < l.length
    · obtain ⟨bb, off, rfl, hbb, hrow⟩ := HR.out (by omega)
      obtain ⟨x, hx⟩ : ∃ x, l[k]? = some x := ⟨l[k], List.getElem?_eq_getElem hlt⟩
      have c0 := hrow k x hx
      have HX := hide hx
      have HRow := hide hrow
      have HXN := hide (HN.out x (List.mem_of_getElem? hx))
      clear hrow hx HR HN
      cases hg : gN x
      · have HF := hide (HB.out.no (NmUp.bad hlt (fun h => by have := (h x HX.out).1; rw [hg] at this; cases this)))
        go_wp2_with (go_at_call 99; refine (spec_name _ _ HXN.out).mono ?_; rintro e w' ⟨rfl, rfl⟩; rw [show goodName x.data.toList = false from hg])
        go_ret
        exact ⟨ret_bool HF.out.symm, rfl⟩
      · have HG := hide hg
        have hkc : k ≤ cap := by omega
        have hkc2 : (k : Int) ≤ (cap : Int) := by omega
        go_wp2_with (go_at_call 99; refine (spec_name _ _ HXN.out).mono ?_; rintro e w' ⟨rfl, rfl⟩; rw [show goodName x.data.toList = true from hg])
        clear hg
        go_loop [23] (fun i => ∃ j : Nat, j ≤ k ∧ i = .int .i64 j ∧ Hid (Ahd r l x k j)) (fun i => k - (intOf i).toNat)
        case atStart => exact ⟨0, Nat.zero_le _, rfl, hide (Ahd.zero _ _ _ _)⟩
        case round =>
          obtain ⟨j, hj, rfl, HJ⟩ := hrel
          by_cases hlt2 : j < k
          · obtain ⟨y, hy⟩ : ∃ y, l[j]? = some y := ⟨l[j], List.getElem?_eq_getElem (by omega)⟩
            have c1 := HRow.out j y hy
            have HY := hide hy
            have hjl : j < l.length := by omega
            clear hy
            by_cases hyx : y = x
            · have hd : (y.toList == x.toList) = true := by rw [eqS]; exact decide_eq_true hyx
              have HF := hide (HB.out.no (NmUp.bad hlt (fun h => ((h x HX.out).2 j y hlt2 HY.out).1 hyx)))
              clear hyx HJ HRow
              go_wp2
              go_ret
              exact ⟨ret_bool HF.out.symm, rfl⟩
            · have hd : (y.toList == x.toList) = false := by rw [eqS]; exact decide_eq_false hyx
              have HYX := hide hyx
              clear hyx
              by_cases hr : r = true
              · subst hr
                by_cases hjk : j + 1 = k
                · have HJK := hide hjk
                  cases hl : ltS y x
                  · have hl2 : Op.bytesLess y.toList x.toList = false := hl
                    have HF := hide (HB.out.no (NmUp.bad hlt (fun h => by
                      have h1 := ((h x HX.out).2 j y hlt2 HY.out).2 rfl hjk
                      rw [gt_of HYX.out hl] at h1; cases h1)))
                    clear hjk hl HJ HRow
                    go_wp2
                    all_goals first
                      | (go_ret; exact ⟨ret_bool HF.out.symm, rfl⟩)
                      | (exfalso; have := HJK.out; omega)
                  · have hl2 : Op.bytesLess y.toList x.toList = true := hl
                    have HJ2 := hide (HJ.out.succ HY.out HYX.out (fun _ _ => lt_asym hl))
                    clear hjk hl HJ
                    go_wp2
                    all_goals first
                      | (exfalso; have := HJK.out; omega)
                      | exact ⟨⟨j + 1, by omega, by go_num, HJ2⟩, by simp [intOf]; omega⟩
                · have hq2 : ¬ (j : Int) = (k : Int) - 1 := by omega
                  have HJ2 := hide (HJ.out.succ HY.out HYX.out (fun _ h => absurd h hjk))
                  clear hjk HJ
                  go_wp2
                  go_round
                  case rel => exact ⟨j + 1, by omega, by go_num, HJ2⟩
                  case measure => simp [intOf]; omega
              · obtain rfl : r = false := by cases r <;> simp_all
                have HJ2 := hide (HJ.out.succ HY.out HYX.out (fun h => by cases h))
                clear hr HJ
                go_wp2
                go_round
                case rel => exact ⟨j + 1, by omega, by go_num, HJ2⟩
                case measure => simp [intOf]; omega
          · obtain rfl : j = k := by omega
            have HU2 := hide (HU.out.succ (HJ.out.at HX.out HG.out))
            clear HJ HU HRow
            go_wp2
            go_round
            case rel => exact ⟨j + 1, by omega, by go_num, HU2⟩
            case measure => simp [intOf]; omega
    · obtain rfl : k = l.length := by omega
      have HE := hide (show b = decide (l.length ≤ 30) from by
        rw [Bool.eq_iff_iff, decide_eq_true_eq]
        exact ⟨fun h => (HB.out.1 h).1, fun h => HB.out.2 ⟨h, HU.out⟩⟩)
      clear HR HN HB HU
      go_wp2
      go_ret
      exact ⟨ret_bool (by rw [HE.out]; exact decide_eq_decide.2 (by omega)), rfl⟩
set_option maxHeartbeats 2000000 in
theorem impl_signals (v : Value) (l : Txs) (b : Bool) (w : World) (hv : TxC w v l) (hn : l.length ≤ 1048576) (hnm : ∀ x ∈ l, x.size ≤ maxLen) (hb : BP b (Nms false l)) :
    Calls Tryz.prog 179 #[v] w fun e w' => e = .returned (.bool b) ∧ w' = w := by
  obtain ⟨a, cap, rfl, hcap, hr⟩ := hv.parts
  have HR := hide hr
  have HN := hide hnm
  have HB := hide hb
  clear hr hv hnm hb
  by_cases h30 : l.length ≤ 30
  case neg =>
    have hgt : (30 : Int) < (l.length : Int) := by omega
    have HF := hide (HB.out.no (fun h => h30 h.1))
    go_enter Tryz.func179, Tryz.ntmps179
    go_wp2
    go_ret
    exact ⟨ret_bool HF.out.symm, rfl⟩
  have hgt : ¬ (30 : Int) < (l.length : Int) := by omega
  go_enter Tryz.func179, Tryz.ntmps179
  go_wp2
  go_loop [10] (fun i => ∃ k : Nat, k ≤ l.length ∧ i = .int .i64 k ∧ Hid (NmUp false l k)) (fun i => l.length - (intOf i).toNat)
  case atStart => exact ⟨0, Nat.zero_le _, rfl, hide (fun i hi => by omega)⟩
  case round =>
    obtain ⟨k, hk, rfl, HU⟩ := hrel
    by_cases hlt : k < l.length
    · obtain ⟨bb, off, rfl, hbb, hrow⟩ := HR.out (by omega)
      obtain ⟨x, hx⟩ : ∃ x, l[k]? = some x := ⟨l[k], List.getElem?_eq_getElem hlt⟩
      have c0 := hrow k x hx
      have HX := hide hx
      have HT := hide (show TxsOf w (.slice (some ⟨bb, off, none⟩) k cap) (l.take k) from
        ⟨_, _, by rw [List.length_take, Nat.min_eq_left (by omega)], fun _ => ⟨bb, off, rfl, hbb, fun i y hi => by
          rw [List.getElem?_take] at hi
          split at hi
          · exact hrow i y hi
          · cases hi⟩⟩)
      have HXN := hide (HN.out x (List.mem_of_getElem? hx))
      clear hrow hx HR HN
      have hkc : k ≤ cap := by omega
      have hkc2 : (k : Int) ≤ (cap : Int) := by omega
      cases hg : gN x
      · have HF := hide (HB.out.no (NmUp.bad hlt (fun h => by have := (h x HX.out).1; rw [hg] at this; cases this)))
        go_wp2_with (go_at_call 152; refine (impl_name _ _ HXN.out).mono ?_; rintro e w' ⟨rfl, rfl⟩; rw [show goodName x.data.toList = false from hg])
        go_ret
        exact ⟨ret_bool HF.out.symm, rfl⟩
      · have HG := hide hg
        by_cases hm : x ∈ l.take k
        · have HF := hide (HB.out.no (NmUp.bad hlt (fun h => ((sg_iff l k).1 h x HX.out).2 hm)))
          have HBM := hide (show BP true (x ∈ l.take k) from ⟨fun _ => hm, fun _ => rfl⟩)
          clear hm
          go_wp2_with (first
            | (go_at_call 152; refine (impl_name _ _ HXN.out).mono ?_; rintro e w' ⟨rfl, rfl⟩; rw [show goodName x.data.toList = true from hg])
            | (go_at_call 106; refine (contains_txs _ (l.take k) x true _ HT.out (by rw [List.length_take]; omega) HBM.out).mono ?_; rintro e w' ⟨rfl, rfl⟩))
          go_ret
          exact ⟨ret_bool HF.out.symm, rfl⟩
        · have HU2 := hide (HU.out.succ ((sg_iff l k).2 (fun z hz => by
            have e := HX.out
            rw [hz] at e
            simp only [Option.some.injEq] at e
            subst e
            exact ⟨HG.out, hm⟩)))
          have HBM := hide (show BP false (x ∈ l.take k) from ⟨fun h => (by cases h), fun h => absurd h hm⟩)
          clear hm HU
          go_wp2_with (first
            | (go_at_call 152; refine (impl_name _ _ HXN.out).mono ?_; rintro e w' ⟨rfl, rfl⟩; rw [show goodName x.data.toList = true from hg])
            | (go_at_call 106; refine (contains_txs _ (l.take k) x false _ HT.out (by rw [List.length_take]; omega) HBM.out).mono ?_; rintro e w' ⟨rfl, rfl⟩))
          go_round
          case rel => exact ⟨k + 1, by omega, by go_num, HU2⟩
          case measure => simp [intOf]; omega
    · obtain rfl : k = l.length := by omega
      have HE := hide (HB.out.yes ⟨h30, HU.out⟩)
      clear HR HN HB HU
      go_wp2
      go_ret
      exact ⟨ret_bool HE.out.symm, rfl⟩
set_option maxHeartbeats 2000000 in
theorem impl_timers (v : Value) (l : Txs) (b : Bool) (w : World) (hv : TxC w v l) (hn : l.length ≤ 1048576) (hnm : ∀ x ∈ l, x.size ≤ maxLen) (hb : BP b (Nms true l)) :
    Calls Tryz.prog 180 #[v] w fun e w' => e = .returned (.bool b) ∧ w' = w := by
  obtain ⟨a, cap, rfl, hcap, hr⟩ := hv.parts
  have HR := hide hr
  have HN := hide hnm
  have HB := hide hb
  clear hr hv hnm hb
  by_cases h30 : l.length ≤ 30
  case neg =>
    have hgt : (30 : Int) < (l.length : Int) := by omega
    have HF := hide (HB.out.no (fun h => h30 h.1))
    go_enter Tryz.func180, Tryz.ntmps180
    go_wp2
    go_ret
    exact ⟨ret_bool HF.out.symm, rfl⟩
  have hgt : ¬ (30 : Int) < (l.length : Int) := by omega
  go_enter Tryz.func180, Tryz.ntmps180
  go_wp2
  go_loop [10] (fun i => ∃ k : Nat, k ≤ l.length ∧ i = .int .i64 k ∧ Hid (∀ i, i < k → TmAt l i)) (fun i => l.length - (intOf i).toNat)
  case atStart => exact ⟨0, Nat.zero_le _, rfl, hide (fun i hi => by omega)⟩
  case round =>
    obtain ⟨k, hk, rfl, HU⟩ := hrel
    by_cases hlt : k < l.length
    · obtain ⟨bb, off, rfl, hbb, hrow⟩ := HR.out (by omega)
      obtain ⟨x, hx⟩ : ∃ x, l[k]? = some x := ⟨l[k], List.getElem?_eq_getElem hlt⟩
      have c0 := hrow k x hx
      have HX := hide hx
      have HRow := hide hrow
      have HXN := hide (HN.out x (List.mem_of_getElem? hx))
      have bad := fun (h : ¬ TmAt l k) => HB.out.no (fun hh => h (tm_iff.2 hh.2 k hlt))
      have HBad := hide bad
      have sam := fun z (hz : l[k]? = some z) => (show z = x by rw [HX.out] at hz; simpa using hz.symm)
      have HSam := hide sam
      clear hrow hx HR HN bad sam
      cases hg : gN x
      · have HF := hide (HBad.out (fun h => by have := (h x HX.out).1; rw [hg] at this; cases this))
        go_wp2_with (go_at_call 152; refine (impl_name _ _ HXN.out).mono ?_; rintro e w' ⟨rfl, rfl⟩; rw [show goodName x.data.toList = false from hg])
        go_ret
        exact ⟨ret_bool HF.out.symm, rfl⟩
      · have HG := hide hg
        by_cases hk0 : k = 0
        · have hz : decide (0 < (k : Int)) = false := decide_eq_false (by omega)
          have hz2 : decide ((k : Int) > 0) = false := decide_eq_false (by omega)
          have hz3 : decide (0 < k) = false := decide_eq_false (by omega)
          have HU2 := hide (show ∀ i, i < k + 1 → TmAt l i from fun i hi z hzz => by
            obtain rfl : i = k := by omega
            obtain rfl := HSam.out z hzz
            exact ⟨HG.out, fun m y hm => by omega⟩)
          clear hk0
          go_wp2_with (go_at_call 152; refine (impl_name _ _ HXN.out).mono ?_; rintro e w' ⟨rfl, rfl⟩; rw [show goodName x.data.toList = true from hg])
          go_round
          case rel => exact ⟨k + 1, by omega, by go_num, HU2⟩
          case measure => simp [intOf]; omega
        · obtain ⟨j, hj⟩ : ∃ j, k = j + 1 := ⟨k - 1, by omega⟩
          obtain ⟨y, hy⟩ : ∃ y, l[j]? = some y := ⟨l[j], List.getElem?_eq_getElem (by omega)⟩
          have c1 := HRow.out j y hy
          have HY := hide hy
          have HJ := hide hj
          have hz : decide (0 < (k : Int)) = true := decide_eq_true (by omega)
          have hz2 : decide ((k : Int) > 0) = true := decide_eq_true (by omega)
          have hz3 : decide (0 < k) = true := decide_eq_true (by omega)
          have hkj : (k : Int) - 1 = (j : Int) := by omega
          have hj0 : (0 : Int) ≤ (j : Int) := by omega
          have hj1 : (j : Int) < (l.length : Int) := by omega
          clear hy hj hk0
          cases hl : ltS y x
          · have hl2 : Op.bytesLess y.toList x.toList = false := hl
            have HF := hide (HBad.out (fun h => by
              have h1 := (h x HX.out).2 j y (HJ.out.symm) HY.out
              rw [hl] at h1; cases h1))
            clear hl
            go_wp2_with (go_at_call 152; refine (impl_name _ _ HXN.out).mono ?_; rintro e w' ⟨rfl, rfl⟩; rw [show goodName x.data.toList = true from hg])
            go_ret
            exact ⟨ret_bool HF.out.symm, rfl⟩
          · have hl2 : Op.bytesLess y.toList x.toList = true := hl
            have HU2 := hide (show ∀ i, i < k + 1 → TmAt l i from fun i hi z hzz => by
              by_cases c : i = k
              · subst c
                obtain rfl := HSam.out z hzz
                refine ⟨HG.out, fun m u hm hu => ?_⟩
                obtain rfl : m = j := by have := HJ.out; omega
                rw [HY.out] at hu
                simp only [Option.some.injEq] at hu
                subst hu; exact hl
              · exact HU.out i (by omega) z hzz)
            clear hl HU
            go_wp2_with (go_at_call 152; refine (impl_name _ _ HXN.out).mono ?_; rintro e w' ⟨rfl, rfl⟩; rw [show goodName x.data.toList = true from hg])
            go_round
            case rel => exact ⟨k + 1, by omega, by go_num, HU2⟩
            case measure => simp [intOf]; omega
    · obtain rfl : k = l.length := by omega
      have HE := hide (HB.out.yes ⟨h30, tm_iff.1 HU.out⟩)
      clear HR HN HB HU
      go_wp2
      go_ret
      exact ⟨ret_bool HE.out.symm, rfl⟩
end Go.Proofs.YtfkeokglifpkoaaGreatDoor

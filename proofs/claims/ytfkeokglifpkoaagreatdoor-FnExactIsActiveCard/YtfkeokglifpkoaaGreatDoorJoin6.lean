/-
  Texts that follow one another, joined: OwnR, EvM, TxA.
-/
import Derived.Test.YtfkeokglifpkoaaGreatDoorJoin5
import Derived.Test.YtfkeokglifpkoaaGreatDoorJoin2
import Derived.Laws.OwnMore
import Derived.Lib.QuietBelow
import Derived.BigQuiet
/-
  Rows of a call's own that append gathers: what they hold, what turns them and what doesn't.
-/
namespace Go.Proofs.YtfkeokglifpkoaaGreatDoor
open Go.RowKit M
namespace M
theorem blk_below {W w : World} {b : Nat} {o : Obj} (h : W.heap[b]? = some o) (hb : Below W.heap.size W w) : w.heap[b]? = some o := by
  rw [hb.block b]
  · exact h
  · rcases Nat.lt_or_ge b W.heap.size with h' | h'
    · exact h'
    · rw [Array.getElem?_eq_none h'] at h; cases h
theorem owns_below {w w' : World} {B e size n : Nat} {v : Value} {xs : List Value} (h : w.ownsRow B e size v n xs) (hb : Below w.heap.size w w') : w'.ownsRow B e size v n xs := by
  refine ⟨h.1, ?_⟩
  rcases h.2 with h0 | ⟨g, cap, cur, hv, hB, hg, r⟩
  · exact .inl h0
  · exact .inr ⟨g, cap, cur, hv, hB, blk_below hg hb, r⟩
theorem owns_mono {w : World} {B B' e size n : Nat} {v : Value} {xs : List Value} (h : w.ownsRow B e size v n xs) (hb : B' ≤ B) : w.ownsRow B' e size v n xs := by
  refine ⟨h.1, ?_⟩
  rcases h.2 with h0 | ⟨g, cap, cur, hv, hB, r⟩
  · exact .inl h0
  · exact .inr ⟨g, cap, cur, hv, Nat.le_trans hb hB, r⟩
theorem own_form {w : World} {B e s n : Nat} {v : Value} {xs : List Value} (h : w.ownsRow B e s v n xs) : ∃ a cap, v = .slice a n cap := by
  rcases h.2 with ⟨rfl, rfl⟩ | ⟨g, cap, cur, rfl, _⟩
  · exact ⟨_, _, rfl⟩
  · exact ⟨_, _, rfl⟩
/-- The cells of a row that the call owns. -/
theorem own_cells {w : World} {B e s n : Nat} {v : Value} {xs : List Value} (h : w.ownsRow B e s v n xs) (hx : xs.length = n * s) : ∃ a cap, v = .slice a n cap ∧ (0 < n → ∃ g, a = some ⟨g, 0, none⟩ ∧ B ≤ g ∧ g < w.heap.size ∧ (∀ i u, xs[i]? = some u → w.cell? ⟨g, i, none⟩ = some u)) := by
  rcases h.2 with ⟨rfl, h0⟩ | ⟨g, cap, cur, rfl, hB, hg, hn, hc, hs, ht⟩
  · exact ⟨_, _, by rw [h0], fun hp => by omega⟩
  · refine ⟨_, cap, rfl, fun _ => ⟨g, rfl, hB, ?_, fun i u hi => ?_⟩⟩
    · rcases Nat.lt_or_ge g w.heap.size with h' | h'
      · exact h'
      · rw [Array.getElem?_eq_none h'] at hg; cases hg
    · have hil : i < xs.length := (List.getElem?_eq_some_iff.1 hi).1
      rw [← ht, List.getElem?_take_of_lt (by omega), Array.getElem?_toList] at hi
      simp [World.cell?, hg, hi]
theorem own_ints {w : World} {B e n : Nat} {v : Value} {f : Nat → Int} (h : w.ownsRow B e 1 v n ((List.range n).map (iv f))) : IntsOf w v n f := by
  obtain ⟨a, cap, hv, hr⟩ := own_cells h (by simp)
  refine ⟨a, cap, hv, fun hn => ?_⟩
  obtain ⟨g, ha, _, hlt, hc⟩ := hr hn
  exact ⟨g, 0, ha, hlt, fun i hi => by rw [Nat.zero_add]; exact hc i _ (by rw [List.getElem?_map, List.getElem?_range hi]; rfl)⟩
theorem range_snoc (f : Nat → Value) (k : Nat) : (List.range (k + 1)).map f = (List.range k).map f ++ [f k] := by rw [List.range_succ]; simp
theorem news1 (w : World) (c : Value) (t : TypeId) : ∀ (j : Nat) u, [c][j]? = some u → (w.alloc (.cells #[c] t)).cell? ((⟨w.heap.size, 0, none⟩ : Addr).add j) = some u := by
  intro j u hj
  match j, hj with
  | 0, hj => simp at hj; subst hj; simp [Addr.add]
theorem Blk.grown {w w' : World} {g n B e s m : Nat} {f : Nat → Value} {t : TypeId} {v : Value} {xs : List Value} (h : Blk w g n f t) (hown : w.ownsRow B e s v m xs) (ht : t ≠ e) (hg : w.grownBy w' v.ownBlock) : Blk w' g n f t := by
  unfold Blk
  rw [hg.block g h.lt]
  · exact h
  · rcases hown.2 with ⟨rfl, _⟩ | ⟨g', cap, cur, rfl, _, hb, _⟩
    · simp [Value.ownBlock]
    · simp only [Value.ownBlock]
      intro he
      have he' : g = g' := by simpa using he
      subst he'
      unfold Blk at h
      rw [h] at hb
      simp only [Option.some.injEq, Obj.cells.injEq] at hb
      exact ht hb.2.1
/-- A row is kept where another one grows. -/
theorem owns_other {w w' : World} {B e s n : Nat} {v : Value} {xs : List Value} {row : Option Nat} (h : w.ownsRow B e s v n xs) (hg : w.grownBy w' row) (hne : ∀ g, v.ownBlock = some g → some g ≠ row) : w'.ownsRow B e s v n xs := by
  refine ⟨h.1, ?_⟩
  rcases h.2 with h0 | ⟨g, cap, cur, hv, hB, hb, r⟩
  · exact .inl h0
  · refine .inr ⟨g, cap, cur, hv, hB, ?_, r⟩
    have hlt : g < w.heap.size := by
      rcases Nat.lt_or_ge g w.heap.size with h' | h'
      · exact h'
      · rw [Array.getElem?_eq_none h'] at hb; cases hb
    rw [hg.block g hlt (hne g (by rw [hv]; rfl))]; exact hb
/-- Rows of unlike elements lie in unlike blocks. -/
theorem owns_apart {w : World} {B e s n B' e' s' n' : Nat} {v v' : Value} {xs xs' : List Value} (h : w.ownsRow B e s v n xs) (h' : w.ownsRow B' e' s' v' n' xs') (hne : e ≠ e') : ∀ g, v.ownBlock = some g → some g ≠ v'.ownBlock := by
  intro g hg he
  rcases h.2 with ⟨rfl, _⟩ | ⟨g1, cap, cur, rfl, _, hb, _⟩
  · simp [Value.ownBlock] at hg
  · rcases h'.2 with ⟨rfl, _⟩ | ⟨g2, cap2, cur2, rfl, _, hb2, _⟩
    · simp [Value.ownBlock] at he
    · simp only [Value.ownBlock, Option.some.injEq] at hg he
      subst hg; subst he
      rw [hb] at hb2
      simp only [Option.some.injEq, Obj.cells.injEq] at hb2
      exact hne hb2.2.1
/-- Rows whose first elements are unlike lie in unlike blocks. -/
theorem owns_apart1 {w : World} {B e n B' e' n' : Nat} {v v' a a' : Value} {xs xs' : List Value} (h : w.ownsRow B e 1 v n xs) (h' : w.ownsRow B' e' 1 v' n' xs') (h0 : xs[0]? = some a) (h0' : xs'[0]? = some a') (hne : a ≠ a') : ∀ g, v.ownBlock = some g → some g ≠ v'.ownBlock := by
  intro g hg he
  rcases h.2 with ⟨rfl, _⟩ | ⟨g1, cap, cur, rfl, _, hb, _, _, _, ht⟩
  · simp [Value.ownBlock] at hg
  · rcases h'.2 with ⟨rfl, _⟩ | ⟨g2, cap2, cur2, rfl, _, hb2, _, _, _, ht2⟩
    · simp [Value.ownBlock] at he
    · simp only [Value.ownBlock, Option.some.injEq] at hg he
      subst hg; subst he
      rw [hb] at hb2
      simp only [Option.some.injEq, Obj.cells.injEq] at hb2
      obtain ⟨rfl, _⟩ := hb2
      have l1 : 0 < n := by
        have := (List.getElem?_eq_some_iff.1 h0).1
        rw [h.1] at this; omega
      have l2 : 0 < n' := by
        have := (List.getElem?_eq_some_iff.1 h0').1
        rw [h'.1] at this; omega
      rw [← ht, List.getElem?_take_of_lt (by omega)] at h0
      rw [← ht2, List.getElem?_take_of_lt (by omega)] at h0'
      rw [h0] at h0'
      exact hne (by simpa using h0')
end M
end Go.Proofs.YtfkeokglifpkoaaGreatDoor

/-
  The law's helpers on events in memory of their own: a copy whose block is known, that an event is told alike to itself, and marks on it, whatever they are.
-/
namespace Go.Proofs.YtfkeokglifpkoaaGreatDoor
open Go.RowKit M
open Clk (upd upd_same upd_other)
open Go.Sort (grow)
namespace M
theorem blk_of {w : World} {g : Nat} {cur : Array Value} {t : TypeId} (h : w.heap[g]? = some (.cells cur t (0, 0))) : Blk w g cur.size (fun i => cur.getD i undef) t := by
  unfold Blk
  rw [h]
  congr 2
  apply Array.ext_getElem?
  intro j
  by_cases hj : j < cur.size
  · rw [cf_get _ hj]; simp [Array.getD, hj]
  · rw [Array.getElem?_eq_none (by omega), Array.getElem?_eq_none (by rw [cf_size]; omega)]
theorem gbe_set {w w1 : World} {g o : Nat} {v : Value} (h : w.grownBy w1 (some g)) : w.grownBy (w1.setCell ⟨g, o, none⟩ v) (some g) :=
  ⟨h.os, h.tape, h.output, by rw [World.size_setCell]; exact h.size, fun k hk hne => by rw [heap_setCell_other _ _ _ _ (fun e => hne (by rw [e]))]; exact h.block k hk hne⟩
theorem gbe_below {w w1 w2 : World} {g : Nat} (h : w.grownBy w1 (some g)) (hb : Below w1.heap.size w1 w2) : w.grownBy w2 (some g) :=
  ⟨hb.os.trans h.os, hb.tape.trans h.tape, hb.output.trans h.output, Nat.le_trans h.size hb.size, fun k hk hne => by rw [hb.block k (Nat.lt_of_lt_of_le hk h.size)]; exact h.block k hk hne⟩
theorem gb_low {w w' : World} {g B : Nat} (h : w.grownBy w' (some g)) (hB : B ≤ g) (hs : B ≤ w.heap.size) : Below B w w' :=
  ⟨h.os, h.tape, h.output, h.size, fun k hk => h.block k (by omega) (fun e => by simp at e; omega)⟩
end M
theorem eq_event (I V K : Int) (N : ByteArray) (w : World) :
    Calls Tryz.prog 200 #[ev I V K N, ev I V K N] w fun e w' => e = .returned (.bool true) ∧ Below w.heap.size w w' := by
  go_enter Tryz.func200, Tryz.ntmps200
  go_wp2
  go_ret
  exact ⟨rfl, ((Below.refl _ w).alloc (Nat.le_refl _) _).alloc (by simp) _⟩
theorem eq_ev (e : Ev) (w : World) : Calls Tryz.prog 200 #[e.v, e.v] w fun e w' => e = .returned (.bool true) ∧ Below w.heap.size w w' := eq_event e.id e.ver e.kind e.name w
set_option maxHeartbeats 1000000 in
theorem to_evs (v : Value) (es : List Ev) (w : World) (hv : SliceOf w v es) (hlen : es.length ≤ 1048576) :
    Calls Tryz.prog 176 #[v] w fun e w' => (e = .returned (.slice (some ⟨w.heap.size, 0, none⟩) es.length es.length) ∧ w'.heap[w.heap.size]? = some (.cells (cellsE es).toArray 74 (0, 0))) ∧ Below w.heap.size w w' := by
  obtain ⟨a, cap, rfl, hr⟩ := hv
  by_cases he : es = []
  · subst he
    have hmk : ∀ w : World, (Instr.makeSlice 69 (.int .i64 0) (.int .i64 0)).run Tryz.prog w = .ok (.slice (some ⟨w.heap.size, 0, none⟩) 0 0) (w.alloc (.cells #[] 74)) := make_ev 0 (by omega)
    clear hr
    go_enter Tryz.func176, Tryz.ntmps176
    go_wp2
    refine wp_loop_rounds 1 ?_; rw [rounds_succ]
    go_wp2
    go_ret
    exact ⟨⟨rfl, heap_alloc_new w _⟩, (Below.refl _ _).alloc (Nat.le_refl _) _⟩
  · have hmk := make_ev es.length hlen
    obtain ⟨b, off, rfl, hlt, hrow⟩ := hr he
    clear hr
    go_enter Tryz.func176, Tryz.ntmps176
    go_wp2
    go_loopw [4] (fun i wr => ∃ k : Nat, k ≤ es.length ∧ i = .int .i64 k ∧ Hid (wr.heap[w.heap.size]? = some (.cells (cellsE (es.take k) ++ cellsE (List.replicate (es.length - k) e0)).toArray 74 (0, 0))) ∧ Below w.heap.size w wr) (fun i _ => es.length - (intOf i).toNat)
    case atStart => exact ⟨0, Nat.zero_le _, rfl, hide (heap_alloc_new w _), (Below.refl _ _).alloc (Nat.le_refl _) _⟩
    case round =>
      obtain ⟨k, hk, rfl, HB, hbw⟩ := hrel
      by_cases hlt2 : k < es.length
      · obtain ⟨e, he⟩ : ∃ e, es[k]? = some e := ⟨es[k], List.getElem?_eq_getElem hlt2⟩
        obtain ⟨c0, c1, c2, c3⟩ := (hrow k e he).below hbw hlt
        have HS := hide (cellsE_split es k e he)
        go_wp2_with fail
        refine (to_event _ _ _ _ _).mono ?_
        rintro e' w2 ⟨rfl, hb2⟩
        have hbw2 := hbw.trans (hb2.mono hbw.size)
        have hB0 := HB.out
        have hlt3 : w.heap.size < wr.heap.size := by
          rcases Nat.lt_or_ge w.heap.size wr.heap.size with h' | h'
          · exact h'
          · rw [Array.getElem?_eq_none h'] at hB0; cases hB0
        have hB2 : w2.heap[w.heap.size]? = some (.cells (cellsE (es.take k) ++ .int .i64 0 :: .int .i64 0 :: .int .i64 0 :: .string ⟨#[]⟩ :: cellsE (List.replicate (es.length - (k + 1)) e0)).toArray 74 (0, 0)) := by
          rw [hb2.block _ hlt3, hB0, show es.length - k = (es.length - (k + 1)) + 1 by omega, List.replicate_succ]
          rfl
        have hAl : k * 4 = (cellsE (es.take k)).length := by rw [cellsE_len, List.length_take]; omega
        obtain ⟨⟨f0, f1, f2, f3⟩, d0, d1, d2, d3⟩ := there4 hB2 hAl
        have HB2 := hide (store4 hB2 hAl (.int .i64 e.id) (.int .i64 e.ver) (.int .i64 e.kind) (.string e.name))
        clear hB2 hB0 hb2 c0 c1 c2 c3 HB hAl
        go_wp2
        exact ⟨⟨k + 1, by omega, by go_num, hide (by rw [HS.out, List.append_assoc]; exact HB2.out), (((hbw2.setCell (Nat.le_refl _) _).setCell (Nat.le_refl _) _).setCell (Nat.le_refl _) _).setCell (Nat.le_refl _) _⟩, by simp [intOf]; omega⟩
      · have hB := HB.out
        rw [List.take_of_length_le (by omega), show es.length - k = 0 by omega] at hB
        have HR := hide (show wr.heap[w.heap.size]? = some (.cells (cellsE es).toArray 74 (0, 0)) from by simpa [cellsE] using hB)
        clear hB HB
        go_wp2
        go_ret
        exact ⟨⟨rfl, HR.out⟩, hbw⟩
theorem convE {w w1 : World} (a : Int) (o : Obj) (ho : o = .cells #[.int .u8 a] 5) (h : Below (w.alloc o).heap.size (w.alloc o) w1) :
    (convert 65 9 (.slice (some ⟨w.heap.size, 0, none⟩) 1 1)).run Tryz.prog w1 = .ok (.string (strOfNums [a])) w1 := by
  subst ho
  refine run_convert_bytes_arg (P := Tryz.prog) w1 65 5 Tryz.underlying65 Tryz.underlying5 _ 0 1 1 [a] rfl (fun i hi => ?_) 9 Tryz.underlying9
  obtain rfl : i = 0 := by omega
  rw [h.cell (p := ⟨w.heap.size, 0 + 0, none⟩) (by simp), World.cell?_alloc_mark]; rfl
theorem dig_step {k q s : Nat} (h : 10 ^ s * q ≤ k) : 10 ^ (1 + s) * (q / 10) ≤ k := by
  have h1 : 10 * (q / 10) ≤ q := by omega
  have h2 : 10 ^ (1 + s) * (q / 10) = 10 ^ s * (10 * (q / 10)) := by rw [Nat.pow_add, Nat.pow_one, Nat.mul_comm 10 (10 ^ s), Nat.mul_assoc]
  rw [h2]
  exact Nat.le_trans (Nat.mul_le_mul_left _ h1) h
theorem dig_size {k q s : Nat} (h : 10 ^ s * q ≤ k) (hq : 1 ≤ q) (hk : k ≤ 1000000000) : s ≤ 9 := by
  rcases Nat.lt_or_ge 9 s with h1 | h1
  · have h2 : 10 ^ 10 ≤ 10 ^ s := Nat.pow_le_pow_right (by omega) h1
    have h3 : 10 ^ s * 1 ≤ 10 ^ s * q := Nat.mul_le_mul_left _ hq
    have : (10 : Nat) ^ 10 = 10000000000 := by decide
    omega
  · exact h1
set_option maxHeartbeats 1000000 in
theorem mark_any (k : Nat) (w : World) (hk : k ≤ 1000000000) :
    Calls Tryz.prog 129 #[.int .i64 (k : Int)] w fun e w' => (∃ s, e = .returned (.string s)) ∧ Below w.heap.size w w' := by
  by_cases h0 : k = 0
  · subst h0
    go_enter Tryz.func129, Tryz.ntmps129
    go_wp2
    go_ret
    exact ⟨⟨_, rfl⟩, Below.refl _ _⟩
  · have hle : ¬ ((k : Int) ≤ 0) := by omega
    have z1 := strOfNums_size
    have za := @ByteArray.size_append
    have zm : (⟨#[109]⟩ : ByteArray).size = 1 := rfl
    go_enter Tryz.func129, Tryz.ntmps129
    go_wp2
    go_loopw [0, 3] (fun x y wr => ∃ (q : Nat) (out : ByteArray), q ≤ k ∧ x = .int .i64 q ∧ y = .string out ∧ Hid (10 ^ out.size * q ≤ k) ∧ out.size ≤ 10 ∧ Below w.heap.size w wr) (fun x _ _ => (intOf x).toNat)
    case atStart => exact ⟨k, ⟨#[]⟩, Nat.le_refl _, rfl, rfl, hide (by simp [ByteArray.size]), by simp [ByteArray.size], Below.refl _ _⟩
    case round =>
      obtain ⟨q, out, hq, rfl, rfl, HM, hsz, hbw⟩ := hrel
      by_cases hq0 : 1 ≤ q
      · have hgt : (0 : Int) < (q : Int) := by omega
        have h9 := dig_size HM.out hq0 hk
        have HS := hide (dig_step HM.out)
        have hr : q % 10 < 10 := by omega
        have q2 : (q : Int) % 10 = ((q % 10 : Nat) : Int) := by omega
        have q3 : (q : Int) / 10 = ((q / 10 : Nat) : Int) := by omega
        have hlt : q / 10 < q := by omega
        generalize q % 10 = r at *
        generalize q / 10 = t at *
        have k1 : ∀ w : World, (convert 65 9 (.slice (some ⟨w.heap.size, 0, none⟩) 1 1)).run Tryz.prog (w.alloc (.cells #[.int .u8 (48 + (r : Int))] 5)) = .ok (.string (strOfNums [48 + (r : Int)])) (w.alloc (.cells #[.int .u8 (48 + (r : Int))] 5)) := fun w => convE _ _ rfl (Below.refl _ _)
        have hs1 : (strOfNums [48 + (r : Int)] ++ out).size = 1 + out.size := by rw [ByteArray.size_append, strOfNums_size]; rfl
        have HS1 := hide hs1
        clear hs1
        go_wp2
        go_roundw
        case rel => exact ⟨t, _, by omega, by go_num, rfl, hide (by rw [HS1.out]; exact HS.out), by rw [HS1.out]; omega, hbw.alloc hbw.size _⟩
        case measure => simp [intOf]; omega
      · obtain rfl : q = 0 := by omega
        go_wp2
        go_ret
        exact ⟨⟨_, rfl⟩, hbw⟩
set_option maxHeartbeats 1600000 in
theorem mark_evs (g n cap : Nat) (h : Nat → Value) (w : World) (hg : Blk w g (n * 4) h 74) (hn : n ≤ 1048576) :
    Calls Tryz.prog 158 #[.slice (some ⟨g, 0, none⟩) n cap, .int .i64 1] w fun e w' => (∃ k : Nat, e = .returned (.int .i64 (k : Int))) ∧ w.grownBy w' (some g) := by
  have HG := hide hg
  clear hg
  go_enter Tryz.func158, Tryz.ntmps158
  go_wp2
  go_loopw [1, 5] (fun x i wr => ∃ (k q : Nat) (f : Nat → Value), k ≤ n ∧ i = .int .i64 k ∧ x = .int .i64 q ∧ Hid (q = 4 * k + 1) ∧ Hid (Blk wr g (n * 4) f 74) ∧ w.grownBy wr (some g)) (fun _ i _ => n - (intOf i).toNat)
  case atStart => exact ⟨0, 1, h, Nat.zero_le _, rfl, rfl, hide rfl, HG, ⟨rfl, rfl, rfl, Nat.le_refl _, fun _ _ _ => rfl⟩⟩
  case round =>
    obtain ⟨k, q, f, hk, rfl, rfl, HQ, HB, hgb⟩ := hrel
    by_cases hlt : k < n
    · have c0 := HB.out.cell (show k * 4 < n * 4 by omega)
      have c1 := HB.out.cell (show k * 4 + 1 < n * 4 by omega)
      have c2 := HB.out.cell (show k * 4 + 2 < n * 4 by omega)
      have f0 := HB.out.thaw (k * 4)
      have f1 := HB.out.thaw (k * 4 + 1)
      have f2 := HB.out.thaw (k * 4 + 2)
      have hq1 : q ≤ 4194305 := by have := HQ.out; omega
      have HB3 := hide (((HB.out.set (k * 4) (.int .i64 (q : Int))).set (k * 4 + 1) (.int .i64 ((q : Int) + 1))).set (k * 4 + 2) (.int .i64 ((q : Int) + 1 + 1)))
      have hgb3 := gbe_set (o := k * 4 + 2) (v := .int .i64 ((q : Int) + 1 + 1)) (gbe_set (o := k * 4 + 1) (v := .int .i64 ((q : Int) + 1)) (gbe_set (o := k * 4) (v := .int .i64 (q : Int)) hgb))
      have HQ2 := hide (show q + 4 = 4 * (k + 1) + 1 by have := HQ.out; omega)
      clear HB HQ HG
      go_wp2_with fail
      rw [show ((q : Int) + 1 + 1 + 1) = ((q + 3 : Nat) : Int) by omega]
      refine (mark_any (q + 3) _ (by omega)).mono ?_
      rintro e' w4 ⟨⟨s, rfl⟩, hb4⟩
      have HB4 := hide (HB3.out.down hb4)
      have c3 := HB4.out.cell (show k * 4 + 3 < n * 4 by omega)
      have f3 := HB4.out.thaw (k * 4 + 3)
      have HB5 := hide (HB4.out.set (k * 4 + 3) (.string s))
      have hgb5 := gbe_set (o := k * 4 + 3) (v := .string s) (gbe_below hgb3 hb4)
      clear hb4 hgb3 HB3 HB4 c0 c1 c2 f0 f1 f2 hgb
      go_wp2
      exact ⟨⟨k + 1, q + 4, _, by omega, by go_num, by go_num, HQ2, HB5, hgb5⟩, by simp [intOf]; omega⟩
    · clear HB HG
      go_wp2
      go_ret
      exact ⟨⟨q, rfl⟩, hgb⟩
end Go.Proofs.YtfkeokglifpkoaaGreatDoor

/-
  Slices of texts in memory, and what the law does with them: how much is left, copies in new memory, two that are told alike, marks that are written and found again.
-/
namespace Go.Proofs.YtfkeokglifpkoaaGreatDoor
open Go.RowKit M
open Go.Sort (grow)
namespace M
def sv (l : Txs) : List Value := l.map Value.string
theorem sv_len (l : Txs) : (sv l).length = l.length := by simp [sv]
theorem sv_at {l : Txs} {i : Nat} {x : ByteArray} (h : l[i]? = some x) : (sv l)[i]? = some (.string x) := by simp [sv, h]
theorem sv_app (a b : Txs) : sv (a ++ b) = sv a ++ sv b := by simp [sv]
theorem sv_set (l : Txs) (j : Nat) (x : ByteArray) : (sv l).set j (.string x) = sv (l.set j x) := by simp [sv, List.map_set]
/-- A slice of texts that is read. -/
def TxsOf (w : World) (v : Value) (l : Txs) : Prop :=
  ∃ a cap, v = .slice a l.length cap ∧ (0 < l.length → ∃ b off, a = some ⟨b, off, none⟩ ∧ b < w.heap.size ∧ ∀ i x, l[i]? = some x → w.cell? ⟨b, off + i, none⟩ = some (.string x))
theorem TxsOf.below {w w' : World} {v : Value} {l : Txs} (h : TxsOf w v l) (hb : Below w.heap.size w w') : TxsOf w' v l := by
  obtain ⟨a, cap, hv, hr⟩ := h
  refine ⟨a, cap, hv, fun hn => ?_⟩
  obtain ⟨b, off, ha, hlt, hrow⟩ := hr hn
  exact ⟨b, off, ha, Nat.lt_of_lt_of_le hlt hb.size, fun i x hi => (hb.cell (p := ⟨b, off + i, none⟩) hlt).trans (hrow i x hi)⟩
theorem TxsOf.form {w : World} {v : Value} {l : Txs} (h : TxsOf w v l) : ∃ a cap, v = .slice a l.length cap := by
  obtain ⟨a, cap, hv, _⟩ := h; exact ⟨a, cap, hv⟩
theorem TxsOf.nil (w : World) (a : Option Addr) (c : Nat) : TxsOf w (.slice a 0 c) [] := ⟨a, c, rfl, fun h => absurd h (Nat.lt_irrefl _)⟩
/-- A slice of texts of the call's own, from block B on, with room behind. -/
def OwnT (w : World) (B : Nat) (v : Value) (l : Txs) : Prop := w.ownsRow B 9 1 v l.length (sv l)
theorem OwnT.down {w w' : World} {B : Nat} {v : Value} {l : Txs} (h : OwnT w B v l) (hb : Below w.heap.size w w') : OwnT w' B v l := owns_below h hb
theorem OwnT.mono {w : World} {B B' : Nat} {v : Value} {l : Txs} (h : OwnT w B v l) (hB : B' ≤ B) : OwnT w B' v l := owns_mono h hB
theorem OwnT.nil (w : World) (B : Nat) : OwnT w B (.slice none 0 0) [] := ⟨rfl, .inl ⟨rfl, rfl⟩⟩
theorem OwnT.split {w : World} {B : Nat} {v : Value} {l : Txs} (h : OwnT w B v l) : (v = .slice none 0 0 ∧ l = []) ∨ ∃ g cap, v = .slice (some ⟨g, 0, none⟩) l.length cap ∧ B ≤ g ∧ g < w.heap.size ∧ l.length ≤ cap ∧ cap ≤ maxLen := by
  rcases h.2 with ⟨rfl, h0⟩ | ⟨g, cap, cur, rfl, hB, hg, hn, hc, hs, ht⟩
  · exact .inl ⟨rfl, List.length_eq_zero_iff.1 h0⟩
  · refine .inr ⟨g, cap, rfl, hB, ?_, hn, hc⟩
    rcases Nat.lt_or_ge g w.heap.size with h' | h'
    · exact h'
    · rw [Array.getElem?_eq_none h'] at hg; cases hg
theorem OwnT.txs {w : World} {B : Nat} {v : Value} {l : Txs} (h : OwnT w B v l) : TxsOf w v l := by
  obtain ⟨a, cap, hv, hr⟩ := own_cells h (by rw [sv_len]; omega)
  refine ⟨a, cap, hv, fun hn => ?_⟩
  obtain ⟨g, ha, _, hlt, hc⟩ := hr hn
  exact ⟨g, 0, ha, hlt, fun i x hi => by rw [Nat.zero_add]; exact hc i _ (sv_at hi)⟩
theorem OwnT.form {w : World} {B : Nat} {v : Value} {l : Txs} (h : OwnT w B v l) : ∃ a cap, v = .slice a l.length cap := h.txs.form
theorem OwnT.cell {w : World} {B g n cap : Nat} {l : Txs} (h : OwnT w B (.slice (some ⟨g, 0, none⟩) n cap) l) {j : Nat} {x : ByteArray} (hj : l[j]? = some x) : w.cell? ⟨g, j, none⟩ = some (.string x) := by
  obtain ⟨a, c, hv, hr⟩ := own_cells h (by rw [sv_len]; omega)
  obtain ⟨g', ha, _, _, hc⟩ := hr (by have := lt_of_get hj; omega)
  simp only [Value.slice.injEq] at hv
  obtain ⟨rfl, -, -⟩ := hv
  simp only [Option.some.injEq, Addr.mk.injEq, and_true] at ha
  subst ha
  exact hc j _ (sv_at hj)
theorem OwnT.len {w : World} {B n cap : Nat} {a : Option Addr} {l : Txs} (h : OwnT w B (.slice a n cap) l) : n = l.length := by
  obtain ⟨a', c, hv⟩ := h.form
  simp only [Value.slice.injEq] at hv
  exact hv.2.1
theorem OwnT.thaw {w : World} {B g n cap : Nat} {l : Txs} (h : OwnT w B (.slice (some ⟨g, 0, none⟩) n cap) l) (j : Nat) : w.frozen? ⟨g, j, none⟩ = false := by
  have e := h.len
  subst e
  exact World.ownsRow.frozenAt h j
theorem OwnT.set {w : World} {B g n cap : Nat} {l : Txs} (h : OwnT w B (.slice (some ⟨g, 0, none⟩) n cap) l) (j : Nat) (x : ByteArray) : OwnT (w.setCell ⟨g, j, none⟩ (.string x)) B (.slice (some ⟨g, 0, none⟩) n cap) (l.set j x) := by
  have e := h.len
  subst e
  have := (World.ownsRow.stored h j (.string x)).1
  unfold OwnT
  rw [List.length_set, ← sv_set]
  exact this
theorem OwnT.other {w w' : World} {B : Nat} {v : Value} {l : Txs} {row : Option Nat} (h : OwnT w B v l) (hg : w.grownBy w' row) (hne : ∀ g, v.ownBlock = some g → some g ≠ row) : OwnT w' B v l := owns_other h hg hne
theorem OwnT.lt {w : World} {B g : Nat} {v : Value} {l : Txs} (h : OwnT w B v l) (hg : v.ownBlock = some g) : B ≤ g ∧ g < w.heap.size := by
  rcases h.split with ⟨rfl, _⟩ | ⟨g', cap, rfl, h1, h2, _⟩
  · simp [Value.ownBlock] at hg
  · simp only [Value.ownBlock, Option.some.injEq] at hg
    subst hg; exact ⟨h1, h2⟩
theorem gbT_refl (w : World) (row : Option Nat) : w.grownBy w row := ⟨rfl, rfl, rfl, Nat.le_refl _, fun _ _ _ => rfl⟩
theorem gbT_set {w w1 : World} {g o : Nat} {v : Value} (h : w.grownBy w1 (some g)) : w.grownBy (w1.setCell ⟨g, o, none⟩ v) (some g) :=
  ⟨h.os, h.tape, h.output, by rw [World.size_setCell]; exact h.size, fun k hk hne => by rw [heap_setCell_other _ _ _ _ (fun e => hne (by rw [e]))]; exact h.block k hk hne⟩
theorem gbT_below {w w1 w2 : World} {row : Option Nat} (h : w.grownBy w1 row) (hb : Below w1.heap.size w1 w2) : w.grownBy w2 row :=
  ⟨hb.os.trans h.os, hb.tape.trans h.tape, hb.output.trans h.output, Nat.le_trans h.size hb.size, fun k hk hne => by rw [hb.block k (Nat.lt_of_lt_of_le hk h.size)]; exact h.block k hk hne⟩
/-- The law's mark of a number. -/
def md : Nat → Nat → ByteArray → ByteArray
  | 0, _, out => out
  | f + 1, q, out => if q = 0 then out else md f (q / 10) (strOfNums [48 + ((q % 10 : Nat) : Int)] ++ out)
theorem md_zero (f : Nat) (out : ByteArray) : md f 0 out = out := by cases f <;> simp [md]
def mtx (k : Nat) : ByteArray := ⟨#[109]⟩ ++ md k k ⟨#[]⟩
def MD (k q : Nat) (out : ByteArray) : Prop := ∃ f, q ≤ f ∧ md f q out = md k k ⟨#[]⟩
theorem MD.step {k q : Nat} {out : ByteArray} (h : MD k q out) (hq : 1 ≤ q) : MD k (q / 10) (strOfNums [48 + ((q % 10 : Nat) : Int)] ++ out) := by
  obtain ⟨f, hf, he⟩ := h
  obtain ⟨f, rfl⟩ : ∃ f', f = f' + 1 := ⟨f - 1, by omega⟩
  refine ⟨f, by omega, ?_⟩
  rw [← he]
  conv => rhs; rw [md, if_neg (by omega)]
theorem MD.last {k : Nat} {out : ByteArray} (h : MD k 0 out) : out = md k k ⟨#[]⟩ := by
  obtain ⟨f, _, he⟩ := h
  rw [md_zero] at he; exact he
theorem digT_step {k q s : Nat} (h : 10 ^ s * q ≤ k) : 10 ^ (1 + s) * (q / 10) ≤ k := by
  have h1 : 10 * (q / 10) ≤ q := by omega
  have h2 : 10 ^ (1 + s) * (q / 10) = 10 ^ s * (10 * (q / 10)) := by rw [Nat.pow_add, Nat.pow_one, Nat.mul_comm 10 (10 ^ s), Nat.mul_assoc]
  rw [h2]
  exact Nat.le_trans (Nat.mul_le_mul_left _ h1) h
theorem digT_size {k q s : Nat} (h : 10 ^ s * q ≤ k) (hq : 1 ≤ q) (hk : k ≤ 1000000000) : s ≤ 9 := by
  rcases Nat.lt_or_ge 9 s with h1 | h1
  · have h2 : 10 ^ 10 ≤ 10 ^ s := Nat.pow_le_pow_right (by omega) h1
    have h3 : 10 ^ s * 1 ≤ 10 ^ s * q := Nat.mul_le_mul_left _ hq
    have : (10 : Nat) ^ 10 = 10000000000 := by decide
    omega
  · exact h1
/-- Marks from k on, n of them. -/
def mks (k n : Nat) : Txs := (List.range n).map (fun i => mtx (k + i))
theorem mks_len (k n : Nat) : (mks k n).length = n := by simp [mks]
theorem mks_at {k n i : Nat} (h : i < n) : (mks k n)[i]? = some (mtx (k + i)) := by simp [mks, h]
theorem set_step {l : Txs} {m : Txs} {j : Nat} {x : ByteArray} (hj : j < l.length) (hm : m.take (j + 1) = m.take j ++ [x]) (hml : j < m.length) : (m.take j ++ l.drop j).set j x = m.take (j + 1) ++ l.drop (j + 1) := by
  have e : (m.take j).length = j := by rw [List.length_take]; omega
  rw [List.set_append_right _ _ (by omega), e, Nat.sub_self, List.drop_eq_getElem_cons hj, List.set_cons_zero, hm]
  simp
theorem mks_snoc (k n j : Nat) (h : j < n) : (mks k n).take (j + 1) = (mks k n).take j ++ [mtx (k + j)] := take_snoc' (mks_at h)
end M
theorem info_str : (Tryz.prog.info? 9).map (fun i => (i.zero, i.size, i.bytes)) = some (some (.string ⟨#[]⟩), 1, 16) := by kernel_rfl
theorem make_strs (n : Nat) (h : n ≤ 1048576) (w : World) : (Instr.makeSlice 58 (.int .i64 (n : Int)) (.int .i64 (n : Int))).run Tryz.prog w = .ok (.slice (some ⟨w.heap.size, 0, none⟩) n n) (w.alloc (.cells (madeCells #[(.string ⟨#[]⟩ : Value)] n) 9)) := by
  obtain ⟨i, hi, hz0, hz1, hz2⟩ := info_parts info_str
  have hr := run_make (P := Tryz.prog) w 58 9 i _ Tryz.underlying58 hi hz0 .i64 .i64 (n : Int) (n : Int) (by omega) (Int.le_refl _) (by rw [hz2]; omega) (by omega)
  rw [hr, hz1]
  simp only [Int.toNat_natCast, Nat.mul_one]
  rfl
namespace M
theorem made_strs (w : World) (n : Nat) (h : n ≤ 1048576) : OwnT (w.alloc (.cells (madeCells #[(.string ⟨#[]⟩ : Value)] n) 9)) w.heap.size (.slice (some ⟨w.heap.size, 0, none⟩) n n) (List.replicate n ⟨#[]⟩) := by
  have h1 := World.ownsRow_lit (base := w.heap.size) (e := 9) (size := 1) w (madeCells #[(.string ⟨#[]⟩ : Value)] n) n (Nat.le_refl _) (by unfold maxLen; omega) (by rw [size_madeCells]; omega)
  unfold OwnT
  rw [List.length_replicate]
  rw [toList_madeCells_one] at h1
  have e : sv (List.replicate n ⟨#[]⟩) = List.replicate n (Value.string ⟨#[]⟩) := by simp [sv]
  rw [e]; exact h1
end M
set_option maxHeartbeats 1000000 in
theorem eq_txs (v u : Value) (l : Txs) (w : World) (hv : TxsOf w v l) (hu : TxsOf w u l) (hn : l.length ≤ 1048576) :
    Calls Tryz.prog 78 #[v, u] w fun e w' => e = .returned (.bool true) ∧ Below w.heap.size w w' := by
  obtain ⟨a, cap, rfl, hr⟩ := hv
  obtain ⟨a2, cap2, rfl, hr2⟩ := hu
  have HR := hide hr
  have HR2 := hide hr2
  clear hr hr2
  go_enter Tryz.func78, Tryz.ntmps78
  go_wp2
  go_loopw [5] (fun i wr => ∃ k : Nat, k ≤ l.length ∧ i = .int .i64 k ∧ Below w.heap.size w wr) (fun i _ => l.length - (intOf i).toNat)
  case atStart => exact ⟨0, Nat.zero_le _, rfl, Below.refl _ _⟩
  case round =>
    obtain ⟨k, hk, rfl, hbw⟩ := hrel
    by_cases hlt : k < l.length
    · obtain ⟨b, off, rfl, hb, hrow⟩ := HR.out (by omega)
      obtain ⟨b2, off2, rfl, hb2, hrow2⟩ := HR2.out (by omega)
      obtain ⟨x, hx⟩ : ∃ x, l[k]? = some x := ⟨l[k], List.getElem?_eq_getElem hlt⟩
      have k0 := cell_regrown ((hbw.cell (p := ⟨b, off + k, none⟩) hb).trans (hrow k x hx))
      have k1 := cell_regrown ((hbw.cell (p := ⟨b2, off2 + k, none⟩) hb2).trans (hrow2 k x hx))
      have hi0 : (0 : Int) ≤ (k : Int) := by omega
      have hi1 : (k : Int) < (l.length : Int) := by omega
      clear hrow hrow2 HR HR2 hx
      go_wp2
      refine wp_region_quiet_below (by kernel_rfl) (by kernel_rfl) ?_
      repeat (go_big_quiet_step (fail))
      refine wpQuiet_nil ?_
      intro _ hw'
      obtain ⟨⟨dq, osq⟩, hw''⟩ := hw'
      subst hw''
      have hbw2 := hbw.trans ((below_regrown wr dq osq).mono hbw.size)
      go_wp2
      go_roundw
      case rel => exact ⟨k + 1, by omega, by go_num, hbw2⟩
      case measure => simp [intOf]; omega
    · clear HR HR2
      go_wp2
      go_ret
      exact ⟨rfl, hbw⟩
theorem convT {w w1 : World} (a : Int) (o : Obj) (ho : o = .cells #[.int .u8 a] 5) (h : Below (w.alloc o).heap.size (w.alloc o) w1) :
    (convert 65 9 (.slice (some ⟨w.heap.size, 0, none⟩) 1 1)).run Tryz.prog w1 = .ok (.string (strOfNums [a])) w1 := by
  subst ho
  refine run_convert_bytes_arg (P := Tryz.prog) w1 65 5 Tryz.underlying65 Tryz.underlying5 _ 0 1 1 [a] rfl (fun i hi => ?_) 9 Tryz.underlying9
  obtain rfl : i = 0 := by omega
  rw [h.cell (p := ⟨w.heap.size, 0 + 0, none⟩) (by simp), World.cell?_alloc_mark]; rfl
set_option maxHeartbeats 1000000 in
theorem mark_tx (k : Nat) (w : World) (h1 : 1 ≤ k) (hk : k ≤ 1000000000) :
    Calls Tryz.prog 129 #[.int .i64 (k : Int)] w fun e w' => e = .returned (.string (mtx k)) ∧ Below w.heap.size w w' := by
  have hle : ¬ ((k : Int) ≤ 0) := by omega
  have z1 := strOfNums_size
  have za := @ByteArray.size_append
  have zm : (⟨#[109]⟩ : ByteArray).size = 1 := rfl
  go_enter Tryz.func129, Tryz.ntmps129
  go_wp2
  go_loopw [0, 3] (fun x y wr => ∃ (q : Nat) (out : ByteArray), q ≤ k ∧ x = .int .i64 q ∧ y = .string out ∧ Hid (10 ^ out.size * q ≤ k ∧ MD k q out) ∧ out.size ≤ 10 ∧ Below w.heap.size w wr) (fun x _ _ => (intOf x).toNat)
  case atStart => exact ⟨k, ⟨#[]⟩, Nat.le_refl _, rfl, rfl, hide ⟨by simp [ByteArray.size], k, Nat.le_refl _, rfl⟩, by simp [ByteArray.size], Below.refl _ _⟩
  case round =>
    obtain ⟨q, out, hq, rfl, rfl, HM, hsz, hbw⟩ := hrel
    by_cases hq0 : 1 ≤ q
    · have hgt : (0 : Int) < (q : Int) := by omega
      have h9 := digT_size HM.out.1 hq0 hk
      have HS := hide (digT_step HM.out.1)
      have HD := hide (HM.out.2.step hq0)
      have hr : q % 10 < 10 := by omega
      have q2 : (q : Int) % 10 = ((q % 10 : Nat) : Int) := by omega
      have q3 : (q : Int) / 10 = ((q / 10 : Nat) : Int) := by omega
      have hlt : q / 10 < q := by omega
      clear HM
      generalize q % 10 = r at *
      generalize q / 10 = t at *
      have k1 : ∀ w : World, (convert 65 9 (.slice (some ⟨w.heap.size, 0, none⟩) 1 1)).run Tryz.prog (w.alloc (.cells #[.int .u8 (48 + (r : Int))] 5)) = .ok (.string (strOfNums [48 + (r : Int)])) (w.alloc (.cells #[.int .u8 (48 + (r : Int))] 5)) := fun w => convT _ _ rfl (Below.refl _ _)
      have hs1 : (strOfNums [48 + (r : Int)] ++ out).size = 1 + out.size := by rw [ByteArray.size_append, strOfNums_size]; rfl
      have HS1 := hide hs1
      clear hs1
      go_wp2
      go_roundw
      case rel => exact ⟨t, _, by omega, by go_num, rfl, hide ⟨by rw [HS1.out]; exact HS.out, HD.out⟩, by rw [HS1.out]; omega, hbw.alloc hbw.size _⟩
      case measure => simp [intOf]; omega
    · obtain rfl : q = 0 := by omega
      have HE := hide HM.out.2.last
      clear HM
      go_wp2
      go_ret
      refine ⟨?_, hbw⟩
      have e := HE.out
      subst e
      rfl
set_option maxHeartbeats 1600000 in
theorem mark_txs (B k0 : Nat) (v : Value) (l : Txs) (w : World) (h : OwnT w B v l) (hn : l.length ≤ 1048576) (h1 : 1 ≤ k0) (hk0 : k0 ≤ 10000000) :
    Calls Tryz.prog 79 #[v, .int .i64 (k0 : Int)] w fun e w' => e = .returned (.int .i64 ((k0 + l.length : Nat) : Int)) ∧ OwnT w' B v (mks k0 l.length) ∧ w.grownBy w' v.ownBlock := by
  rcases h.split with ⟨rfl, rfl⟩ | ⟨g, cap, rfl, hB, hg, hc, hcm⟩
  · go_enter Tryz.func79, Tryz.ntmps79
    go_wp2
    refine wp_loop_rounds 1 ?_; rw [rounds_succ]
    go_wp2
    go_ret
    exact ⟨rfl, OwnT.nil _ _, gbT_refl _ _⟩
  · have HG := hide h
    clear h
    go_enter Tryz.func79, Tryz.ntmps79
    go_wp2
    go_loopw [1, 5] (fun x i wr => ∃ k : Nat, k ≤ l.length ∧ i = .int .i64 k ∧ x = .int .i64 ((k0 + k : Nat) : Int) ∧ Hid (OwnT wr B (.slice (some ⟨g, 0, none⟩) l.length cap) ((mks k0 l.length).take k ++ l.drop k)) ∧ w.grownBy wr (some g)) (fun _ i _ => l.length - (intOf i).toNat)
    case atStart => exact ⟨0, Nat.zero_le _, rfl, rfl, HG, gbT_refl _ _⟩
    case round =>
      obtain ⟨k, hk, rfl, rfl, HA, hgb⟩ := hrel
      by_cases hlt : k < l.length
      · have hkk : k0 + k ≤ 1000000000 := by omega
        clear HG
        go_wp2_with fail
        refine (mark_tx (k0 + k) _ (by omega) hkk).mono ?_
        rintro e' w4 ⟨rfl, hb4⟩
        have hA4 := HA.out.down hb4
        have c3 := hA4.cell (j := k) (x := l[k]) (by
          rw [List.getElem?_append_right (by rw [List.length_take]; omega), List.length_take, mks_len, Nat.min_eq_left (by omega), Nat.sub_self, List.getElem?_drop]
          simp [hlt])
        have f3 := hA4.thaw k
        have hA5 := hA4.set k (mtx (k0 + k))
        rw [set_step hlt (mks_snoc k0 _ k hlt) (by rw [mks_len]; exact hlt)] at hA5
        have HA5 := hide hA5
        have hgb5 := gbT_set (o := k) (v := .string (mtx (k0 + k))) (gbT_below hgb hb4)
        clear hb4 hA4 hA5 HA hgb
        go_wp2
        exact ⟨⟨k + 1, by omega, by go_num, by go_num, HA5, hgb5⟩, by simp [intOf]; omega⟩
      · obtain rfl : k = l.length := by omega
        have hB2 := HA.out
        rw [List.drop_length, List.append_nil, List.take_of_length_le (by rw [mks_len]; omega)] at hB2
        have HB2 := hide hB2
        clear hB2 HA HG
        go_wp2
        go_ret
        exact ⟨rfl, HB2.out, hgb⟩
set_option maxHeartbeats 1600000 in
theorem held_txs (v : Value) (k0 n : Nat) (w : World) (hv : TxsOf w v (mks k0 n)) (hn : n ≤ 1048576) (h1 : 1 ≤ k0) (hk0 : k0 ≤ 10000000) :
    Calls Tryz.prog 80 #[v, .int .i64 (k0 : Int)] w fun e w' => e = .returned (.int .i64 ((k0 + n : Nat) : Int)) ∧ Below w.heap.size w w' := by
  obtain ⟨a, cap, rfl, hr⟩ := hv
  have HR := hide hr
  clear hr
  rw [mks_len] at HR ⊢
  go_enter Tryz.func80, Tryz.ntmps80
  go_wp2
  go_loopw [1, 5] (fun x i wr => ∃ k : Nat, k ≤ n ∧ i = .int .i64 k ∧ x = .int .i64 ((k0 + k : Nat) : Int) ∧ Below w.heap.size w wr) (fun _ i _ => n - (intOf i).toNat)
  case atStart => exact ⟨0, Nat.zero_le _, rfl, rfl, Below.refl _ _⟩
  case round =>
    obtain ⟨k, hk, rfl, rfl, hbw⟩ := hrel
    by_cases hlt : k < n
    · obtain ⟨b, off, rfl, hb, hrow⟩ := HR.out (by omega)
      have k0' := cell_regrown ((hbw.cell (p := ⟨b, off + k, none⟩) hb).trans (hrow k _ (mks_at hlt)))
      have hi0 : (0 : Int) ≤ (k : Int) := by omega
      have hi1 : (k : Int) < (n : Int) := by omega
      have hkk : k0 + k ≤ 1000000000 := by omega
      obtain ⟨q, hq⟩ : ∃ q, k0 + k = q := ⟨_, rfl⟩
      have HQ := hide hq
      rw [hq] at k0' hkk ⊢
      have hq1 : 1 ≤ q := by omega
      have HE := hide (show ∀ d os, Calls Tryz.prog 129 #[.int .i64 (q : Int)] (grow (redrawn wr d) os) fun e w'' => e = .returned (.string (mtx q)) ∧ ∃ p : Regrown, w'' = grow (redrawn wr p.d) p.os from fun d os => Calls.regrown_of (mark_tx q _ hq1 hkk))
      clear HR hrow hq
      go_wp2
      refine wp_region_quiet_below (by kernel_rfl) (by kernel_rfl) ?_
      repeat (go_big_quiet_step (exact HE.out _ _))
      refine wpQuiet_nil ?_
      intro _ hw'
      obtain ⟨⟨dq, osq⟩, hw''⟩ := hw'
      subst hw''
      have hbw2 := hbw.trans ((below_regrown wr dq osq).mono hbw.size)
      clear HE k0'
      go_wp2
      go_roundw
      case rel => exact ⟨k + 1, by omega, by go_num, by have := HQ.out; subst this; go_num, hbw2⟩
      case measure => simp [intOf]; omega
    · obtain rfl : k = n := by omega
      clear HR
      go_wp2
      go_ret
      exact ⟨rfl, hbw⟩
end Go.Proofs.YtfkeokglifpkoaaGreatDoor

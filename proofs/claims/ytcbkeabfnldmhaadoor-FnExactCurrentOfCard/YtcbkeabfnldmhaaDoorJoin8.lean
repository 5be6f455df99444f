/-
  The law's helpers on events in memory of their own: a copy whose block is known, that an event is told alike to itself, and marks on it, whatever they are.
-/
import Derived.Test.YtcbkeabfnldmhaaDoorJoin5
import Derived.Test.YtcbkeabfnldmhaaDoorJoin7
namespace Go.Proofs.YtcbkeabfnldmhaaDoor
open Go.RowKit M
open Clk (upd upd_same upd_other)
open Go.Sort (grow)
namespace M
theorem blk_of {w : World} {g : Nat} {cur : Array Value} {t : TypeId} (h : w.heap[g]? = some (.cells cur t (0, 0))) : Blk w g cur.size (fun i => cur.getD i undef) t := by
  unfold Blk
  rw [h]
  congr 2
  apply Array.ext_getElem?
  intro j
  by_cases hj : j < cur.size
  · rw [cf_get _ hj]; simp [Array.getD, hj]
  · rw [Array.getElem?_eq_none (by omega), Array.getElem?_eq_none (by rw [cf_size]; omega)]
theorem gbe_set {w w1 : World} {g o : Nat} {v : Value} (h : w.grownBy w1 (some g)) : w.grownBy (w1.setCell ⟨g, o, none⟩ v) (some g) :=
  ⟨h.os, h.tape, h.output, by rw [World.size_setCell]; exact h.size, fun k hk hne => by rw [heap_setCell_other _ _ _ _ (fun e => hne (by rw [e]))]; exact h.block k hk hne⟩
theorem gbe_below {w w1 w2 : World} {g : Nat} (h : w.grownBy w1 (some g)) (hb : Below w1.heap.size w1 w2) : w.grownBy w2 (some g) :=
  ⟨hb.os.trans h.os, hb.tape.trans h.tape, hb.output.trans h.output, Nat.le_trans h.size hb.size, fun k hk hne => by rw [hb.block k (Nat.lt_of_lt_of_le hk h.size)]; exact h.block k hk hne⟩
theorem gb_low {w w' : World} {g B : Nat} (h : w.grownBy w' (some g)) (hB : B ≤ g) (hs : B ≤ w.heap.size) : Below B w w' :=
  ⟨h.os, h.tape, h.output, h.size, fun k hk => h.block k (by omega) (fun e => by simp at e; omega)⟩
end M
theorem eq_event (I V K : Int) (N : ByteArray) (w : World) :
    Calls Tryd.prog 41 #[ev I V K N, ev I V K N] w fun e w' => e = .returned (.bool true) ∧ Below w.heap.size w w' := by
  go_enter Tryd.func41, Tryd.ntmps41
  go_wp2
  go_ret
  exact ⟨rfl, ((Below.refl _ w).alloc (Nat.le_refl _) _).alloc (by simp) _⟩
theorem eq_ev (e : Ev) (w : World) : Calls Tryd.prog 41 #[e.v, e.v] w fun e w' => e = .returned (.bool true) ∧ Below w.heap.size w w' := eq_event e.id e.ver e.kind e.name w
set_option maxHeartbeats 1000000 in
theorem to_evs (v : Value) (es : List Ev) (w : World) (hv : SliceOf w v es) (hlen : es.length ≤ 1048576) :
    Calls Tryd.prog 21 #[v] w fun e w' => (e = .returned (.slice (some ⟨w.heap.size, 0, none⟩) es.length es.length) ∧ w'.heap[w.heap.size]? = some (.cells (cellsE es).toArray 65 (0, 0))) ∧ Below w.heap.size w w' := by
  obtain ⟨a, cap, rfl, hr⟩ := hv
  by_cases he : es = []
  · subst he
    have hmk : ∀ w : World, (Instr.makeSlice 33 (.int .i64 0) (.int .i64 0)).run Tryd.prog w = .ok (.slice (some ⟨w.heap.size, 0, none⟩) 0 0) (w.alloc (.cells #[] 65)) := make_ev 0 (by omega)
    clear hr
    go_enter Tryd.func21, Tryd.ntmps21
    go_wp2
    refine wp_loop_rounds 1 ?_; rw [rounds_succ]
    go_wp2
    go_ret
    exact ⟨⟨rfl, heap_alloc_new w _⟩, (Below.refl _ _).alloc (Nat.le_refl _) _⟩
  · have hmk := make_ev es.length hlen
    obtain ⟨b, off, rfl, hlt, hrow⟩ := hr he
    clear hr
    go_enter Tryd.func21, Tryd.ntmps21
    go_wp2
    go_loopw [4] (fun i wr => ∃ k : Nat, k ≤ es.length ∧ i = .int .i64 k ∧ Hid (wr.heap[w.heap.size]? = some (.cells (cellsE (es.take k) ++ cellsE (List.replicate (es.length - k) e0)).toArray 65 (0, 0))) ∧ Below w.heap.size w wr) (fun i _ => es.length - (intOf i).toNat)
    case atStart => exact ⟨0, Nat.zero_le _, rfl, hide (heap_alloc_new w _), (Below.refl _ _).alloc (Nat.le_refl _) _⟩
    case round =>
      obtain ⟨k, hk, rfl, HB, hbw⟩ := hrel
      by_cases hlt2 : k < es.length
      · obtain ⟨e, he⟩ : ∃ e, es[k]? = some e := ⟨es[k], List.getElem?_eq_getElem hlt2⟩
        obtain ⟨c0, c1, c2, c3⟩ := (hrow k e he).below hbw hlt
        have HS := hide (cellsE_split es k e he)
        go_wp2_with fail
        refine (to_event _ _ _ _ _).mono ?_
        rintro e' w2 ⟨rfl, hb2⟩
        have hbw2 := hbw.trans (hb2.mono hbw.size)
        have hB0 := HB.out
        have hlt3 : w.heap.size < wr.heap.size := by
          rcases Nat.lt_or_ge w.heap.size wr.heap.size with h' | h'
          · exact h'
          · rw [Array.getElem?_eq_none h'] at hB0; cases hB0
        have hB2 : w2.heap[w.heap.size]? = some (.cells (cellsE (es.take k) ++ .int .i64 0 :: .int .i64 0 :: .int .i64 0 :: .string ⟨#[]⟩ :: cellsE (List.replicate (es.length - (k + 1)) e0)).toArray 65 (0, 0)) := by
          rw [hb2.block _ hlt3, hB0, show es.length - k = (es.length - (k + 1)) + 1 by omega, List.replicate_succ]
          rfl
        have hAl : k * 4 = (cellsE (es.take k)).length := by rw [cellsE_len, List.length_take]; omega
        obtain ⟨⟨f0, f1, f2, f3⟩, d0, d1, d2, d3⟩ := there4 hB2 hAl
        have HB2 := hide (store4 hB2 hAl (.int .i64 e.id) (.int .i64 e.ver) (.int .i64 e.kind) (.string e.name))
        clear hB2 hB0 hb2 c0 c1 c2 c3 HB hAl
        go_wp2
        exact ⟨⟨k + 1, by omega, by go_num, hide (by rw [HS.out, List.append_assoc]; exact HB2.out), (((hbw2.setCell (Nat.le_refl _) _).setCell (Nat.le_refl _) _).setCell (Nat.le_refl _) _).setCell (Nat.le_refl _) _⟩, by simp [intOf]; omega⟩
      · have hB := HB.out
        rw [List.take_of_length_le (by omega), show es.length - k = 0 by omega] at hB
        have HR := hide (show wr.heap[w.heap.size]? = some (.cells (cellsE es).toArray 65 (0, 0)) from by simpa [cellsE] using hB)
        clear hB HB
        go_wp2
        go_ret
        exact ⟨⟨rfl, HR.out⟩, hbw⟩
theorem convE {w w1 : World} (a : Int) (o : Obj) (ho : o = .cells #[.int .u8 a] 5) (h : Below (w.alloc o).heap.size (w.alloc o) w1) :
    (convert 86 9 (.slice (some ⟨w.heap.size, 0, none⟩) 1 1)).run Tryd.prog w1 = .ok (.string (strOfNums [a])) w1 := by
  subst ho
  refine run_convert_bytes_arg (P := Tryd.prog) w1 86 5 Tryd.underlying86 Tryd.underlying5 _ 0 1 1 [a] rfl (fun i hi => ?_) 9 Tryd.underlying9
  obtain rfl : i = 0 := by omega
  rw [h.cell (p := ⟨w.heap.size, 0 + 0, none⟩) (by simp), World.cell?_alloc_mark]; rfl
theorem dig_step {k q s : Nat} (h : 10 ^ s * q ≤ k) : 10 ^ (1 + s) * (q / 10) ≤ k := by
  have h1 : 10 * (q / 10) ≤ q := by omega
  have h2 : 10 ^ (1 + s) * (q / 10) = 10 ^ s * (10 * (q / 10)) := by rw [Nat.pow_add, Nat.pow_one, Nat.mul_comm 10 (10 ^ s), Nat.mul_assoc]
  rw [h2]
  exact Nat.le_trans (Nat.mul_le_mul_left _ h1) h
theorem dig_size {k q s : Nat} (h : 10 ^ s * q ≤ k) (hq : 1 ≤ q) (hk : k ≤ 1000000000) : s ≤ 9 := by
  rcases Nat.lt_or_ge 9 s with h1 | h1
  · have h2 : 10 ^ 10 ≤ 10 ^ s := Nat.pow_le_pow_right (by omega) h1
    have h3 : 10 ^ s * 1 ≤ 10 ^ s * q := Nat.mul_le_mul_left _ hq
    have : (10 : Nat) ^ 10 = 10000000000 := by decide
    omega
  · exact h1
set_option maxHeartbeats 1000000 in
theorem mark_any (k : Nat) (w : World) (hk : k ≤ 1000000000) :
    Calls Tryd.prog 43 #[.int .i64 (k : Int)] w fun e w' => (∃ s, e = .returned (.string s)) ∧ Below w.heap.size w w' := by
  by_cases h0 : k = 0
  · subst h0
    go_enter Tryd.func43, Tryd.ntmps43
    go_wp2
    go_ret
    exact ⟨⟨_, rfl⟩, Below.refl _ _⟩
  · have hle : ¬ ((k : Int) ≤ 0) := by omega
    have z1 := strOfNums_size
    have za := @ByteArray.size_append
    have zm : (⟨#[109]⟩ : ByteArray).size = 1 := rfl
    go_enter Tryd.func43, Tryd.ntmps43
    go_wp2
    go_loopw [0, 3] (fun x y wr => ∃ (q : Nat) (out : ByteArray), q ≤ k ∧ x = .int .i64 q ∧ y = .string out ∧ Hid (10 ^ out.size * q ≤ k) ∧ out.size ≤ 10 ∧ Below w.heap.size w wr) (fun x _ _ => (intOf x).toNat)
    case atStart => exact ⟨k, ⟨#[]⟩, Nat.le_refl _, rfl, rfl, hide (by simp [ByteArray.size]), by simp [ByteArray.size], Below.refl _ _⟩
    case round =>
      obtain ⟨q, out, hq, rfl, rfl, HM, hsz, hbw⟩ := hrel
      by_cases hq0 : 1 ≤ q
      · have hgt : (0 : Int) < (q : Int) := by omega
        have h9 := dig_size HM.out hq0 hk
        have HS := hide (dig_step HM.out)
        have hr : q % 10 < 10 := by omega
        have q2 : (q : Int) % 10 = ((q % 10 : Nat) : Int) := by omega
        have q3 : (q : Int) / 10 = ((q / 10 : Nat) : Int) := by omega
        have hlt : q / 10 < q := by omega
        generalize q % 10 = r at *
        generalize q / 10 = t at *
        have k1 : ∀ w : World, (convert 86 9 (.slice (some ⟨w.heap.size, 0, none⟩) 1 1)).run Tryd.prog (w.alloc (.cells #[.int .u8 (48 + (r : Int))] 5)) = .ok (.string (strOfNums [48 + (r : Int)])) (w.alloc (.cells #[.int .u8 (48 + (r : Int))] 5)) := fun w => convE _ _ rfl (Below.refl _ _)
        have hs1 : (strOfNums [48 + (r : Int)] ++ out).size = 1 + out.size := by rw [ByteArray.size_append, strOfNums_size]; rfl
        have HS1 := hide hs1
        clear hs1
        go_wp2
        go_roundw
        case rel => exact ⟨t, _, by omega, by go_num, rfl, hide (by rw [HS1.out]; exact HS.out), by rw [HS1.out]; omega, hbw.alloc hbw.size _⟩
        case measure => simp [intOf]; omega
      · obtain rfl : q = 0 := by omega
        go_wp2
        go_ret
        exact ⟨⟨_, rfl⟩, hbw⟩
set_option maxHeartbeats 1600000 in
theorem mark_evs (g n cap : Nat) (h : Nat → Value) (w : World) (hg : Blk w g (n * 4) h 65) (hn : n ≤ 1048576) :
    Calls Tryd.prog 17 #[.slice (some ⟨g, 0, none⟩) n cap, .int .i64 1] w fun e w' => (∃ k : Nat, e = .returned (.int .i64 (k : Int))) ∧ w.grownBy w' (some g) := by
  have HG := hide hg
  clear hg
  go_enter Tryd.func17, Tryd.ntmps17
  go_wp2
  go_loopw [1, 5] (fun x i wr => ∃ (k q : Nat) (f : Nat → Value), k ≤ n ∧ i = .int .i64 k ∧ x = .int .i64 q ∧ Hid (q = 4 * k + 1) ∧ Hid (Blk wr g (n * 4) f 65) ∧ w.grownBy wr (some g)) (fun _ i _ => n - (intOf i).toNat)
  case atStart => exact ⟨0, 1, h, Nat.zero_le _, rfl, rfl, hide rfl, HG, ⟨rfl, rfl, rfl, Nat.le_refl _, fun _ _ _ => rfl⟩⟩
  case round =>
    obtain ⟨k, q, f, hk, rfl, rfl, HQ, HB, hgb⟩ := hrel
    by_cases hlt : k < n
    · have c0 := HB.out.cell (show k * 4 < n * 4 by omega)
      have c1 := HB.out.cell (show k * 4 + 1 < n * 4 by omega)
      have c2 := HB.out.cell (show k * 4 + 2 < n * 4 by omega)
      have f0 := HB.out.thaw (k * 4)
      have f1 := HB.out.thaw (k * 4 + 1)
      have f2 := HB.out.thaw (k * 4 + 2)
      have hq1 : q ≤ 4194305 := by have := HQ.out; omega
      have HB3 := hide (((HB.out.set (k * 4) (.int .i64 (q : Int))).set (k * 4 + 1) (.int .i64 ((q : Int) + 1))).set (k * 4 + 2) (.int .i64 ((q : Int) + 1 + 1)))
      have hgb3 := gbe_set (o := k * 4 + 2) (v := .int .i64 ((q : Int) + 1 + 1)) (gbe_set (o := k * 4 + 1) (v := .int .i64 ((q : Int) + 1)) (gbe_set (o := k * 4) (v := .int .i64 (q : Int)) hgb))
      have HQ2 := hide (show q + 4 = 4 * (k + 1) + 1 by have := HQ.out; omega)
      clear HB HQ HG
      go_wp2_with fail
      rw [show ((q : Int) + 1 + 1 + 1) = ((q + 3 : Nat) : Int) by omega]
      refine (mark_any (q + 3) _ (by omega)).mono ?_
      rintro e' w4 ⟨⟨s, rfl⟩, hb4⟩
      have HB4 := hide (HB3.out.down hb4)
      have c3 := HB4.out.cell (show k * 4 + 3 < n * 4 by omega)
      have f3 := HB4.out.thaw (k * 4 + 3)
      have HB5 := hide (HB4.out.set (k * 4 + 3) (.string s))
      have hgb5 := gbe_set (o := k * 4 + 3) (v := .string s) (gbe_below hgb3 hb4)
      clear hb4 hgb3 HB3 HB4 c0 c1 c2 f0 f1 f2 hgb
      go_wp2
      exact ⟨⟨k + 1, q + 4, _, by omega, by go_num, by go_num, HQ2, HB5, hgb5⟩, by simp [intOf]; omega⟩
    · clear HB HG
      go_wp2
      go_ret
      exact ⟨⟨q, rfl⟩, hgb⟩
end Go.Proofs.YtcbkeabfnldmhaaDoor

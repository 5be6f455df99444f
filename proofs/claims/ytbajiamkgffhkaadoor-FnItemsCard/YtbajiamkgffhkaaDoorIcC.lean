/-
  Two lists of the same items are told alike; items cut at the last common event are the same.
-/
import Derived.Test.YtbajiamkgffhkaaDoorItD
import Derived.Laws.StructEq
namespace Go.Proofs.YtbajiamkgffhkaaDoor
open Go.RowKit M
open Clk (upd upd_same upd_other)
namespace M
theorem Com.symm {n m : Nat} {a b : Nat → Im} {c : Im} (h : Com n a m b c) : Com m b n a c :=
  ⟨h.1.symm, h.2.1, fun h0 => by rw [h.2.2 h0]; exact h.1.2.2.2.1 c.u (by omega) (Int.le_refl _)⟩
theorem RL.symm {n m : Nat} {a b : Nat → Im} {c : Im} {ok : Bool} (h : RL n a m b c ok) : RL m b n a c ok := by
  rcases h with ⟨h1, h2, h3, h4⟩ | ⟨h1, h2, h3⟩
  · exact .inl ⟨h2, h1, h3.symm, h4⟩
  · exact .inr ⟨fun q => h1 ⟨q.2, q.1⟩, h2, h3⟩
theorem ah_strict {n : Nat} {a : Nat → Im} (h : Ris n a) {i j : Nat} (hij : i < j) (hj : j ≤ n) : ah a i < ah a j := by
  obtain ⟨k, rfl⟩ : ∃ k, j = k + 1 := ⟨j - 1, by omega⟩
  have h1 := h.ah_lt (show k < n by omega)
  have h2 := ah_mono h (show i ≤ k by omega) (by omega)
  rw [ah_succ]
  omega
theorem beg_at {n : Nat} {a : Nat → Im} (h : Ris n a) {i : Nat} (hi : i ≤ n) : Beg n a (ah a i) i :=
  ⟨hi, fun _ hj => ah_strict h hj hi, fun _ => Int.le_refl _⟩
theorem cutL_at {l : Nat → Im} {i : Nat} (j : Nat) (hj : j < i) : cutL l (ah l i) i j = l j := by
  obtain ⟨k, rfl⟩ : ∃ k, i = k + 1 := ⟨i - 1, by omega⟩
  show upd l k ⟨(l k).u, (l k).v⟩ j = l j
  by_cases e : j = k
  · subst e; rw [upd_same]
  · rw [upd_other _ _ _ _ e]
theorem cut_same {n m : Nat} {a b : Nat → Im} {c : Im} (ha : Ris n a) (hb : Ris m b) (hc : Com n a m b c) : ∃ k, Beg n a c.u k ∧ Beg m b c.u k ∧ ∀ i, i < k → cutL a c.u k i = cutL b c.u k i := by
  obtain ⟨i, h1, h2, h3⟩ := same_ex a b (min n m)
  have hn : i ≤ n := by omega
  have hm : i ≤ m := by omega
  have he : ah a i = ah b i := ah_ext h2 (Nat.le_refl _)
  have diff : (i < n → i < m → (a i).v ≠ (b i).v) → ∃ k, Beg n a c.u k ∧ Beg m b c.u k ∧ ∀ i, i < k → cutL a c.u k i = cutL b c.u k i := fun hd => by
    have e := hc.uniq (com_diff ha hb hn hm h2 hd)
    have eu : c.u = ah a i := by rw [e]; rfl
    refine ⟨i, by rw [eu]; exact beg_at ha hn, by rw [eu, he]; exact beg_at hb hm, fun j hj => ?_⟩
    rw [eu, cutL_at j hj, he, cutL_at j hj, h2 j hj]
  by_cases q : i < n ∧ i < m
  · have h4 := h3 (by omega)
    by_cases hv : (a i).v = (b i).v
    · have hu : (a i).u ≠ (b i).u := fun hu => h4 (Im.ext2 hu hv)
      have e := hc.uniq (com_part ha hb q.1 q.2 h2 hv hu)
      have eu : c.u = min (a i).u (b i).u := by rw [e]
      have p1 := ha.ah_lt q.1
      have p2 := hb.ah_lt q.2
      refine ⟨i + 1, ⟨by omega, fun j hj => ?_, fun _ => ?_⟩, ⟨by omega, fun j hj => ?_, fun _ => ?_⟩, fun j hj => ?_⟩
      · have := ah_mono ha (show j ≤ i by omega) (by omega); omega
      · rw [ah_succ]; omega
      · have := ah_mono hb (show j ≤ i by omega) (by omega); omega
      · rw [ah_succ]; omega
      · show upd a i ⟨c.u, (a i).v⟩ j = upd b i ⟨c.u, (b i).v⟩ j
        by_cases f : j = i
        · subst f; rw [upd_same, upd_same, hv]
        · rw [upd_other _ _ _ _ f, upd_other _ _ _ _ f, h2 j (by omega)]
    · exact diff (fun _ _ => hv)
  · exact diff (fun x y => absurd ⟨x, y⟩ q)
end M
theorem under_item : Tryd.prog.underlying 57 = some (.struct (Tryd.prog.fieldsOf 57)) := by kernel_rfl
theorem fields_item : (Tryd.prog.fieldsOf 57).toList = [⟨"Upto", 3, 0, false, "", "", 0⟩, ⟨"Version", 3, 1, false, "", "", 8⟩] := by kernel_rfl
theorem part_int (cs : Array Value) (i : Nat) (x : Int) (h : cs[i]? = some (.int .i64 x)) (w : World) : (part 3 cs i).run Tryd.prog w = .ok (.int .i64 x) w := by
  simp [part, go_sem, h]
theorem item_eq (a b : Int) (w : World) : (Op.equalIn 10000 57 (.agg #[.int .i64 a, .int .i64 b]) (.agg #[.int .i64 a, .int .i64 b])).run Tryd.prog w = .ok true w := by
  have he : ∀ (a b : Int) (w : World), (Op.equalIn 9999 3 (.int .i64 a) (.int .i64 b)).run Tryd.prog w = .ok (a == b) w := fun a b w => run_equalIn_int w 9998 3 .i64 .i64 a b Tryd.underlying3
  rw [show (10000 : Nat) = 9999 + 1 from rfl, run_equalIn_struct w 9999 57 _ _ under_item (by kernel_rfl), fields_item]
  have p0 : ∀ (x y : Int) (w : World), (part 3 #[.int .i64 x, .int .i64 y] 0).run Tryd.prog w = .ok (.int .i64 x) w := fun x y w => part_int _ 0 x rfl w
  have p1 : ∀ (x y : Int) (w : World), (part 3 #[.int .i64 x, .int .i64 y] 1).run Tryd.prog w = .ok (.int .i64 y) w := fun x y w => part_int _ 1 y rfl w
  simp only [Op.eqFields, Sem.run_bind, Sem.run_ite, p0, p1, he, Result.andThen_ok, Sem.run_pure]
  simp
set_option maxHeartbeats 2000000 in
theorem same_items (v u : Value) (n : Nat) (l : Nat → Im) (w : World) (hv : ItemsOf w v n l) (hu : ItemsOf w u n l) (hn : n ≤ 1048576) :
    Calls Tryd.prog 15 #[v, u] w fun e w' => e = .returned (.bool true) ∧ Below w.heap.size w w' := by
  obtain ⟨a, cap, rfl, hr⟩ := hv
  obtain ⟨a2, cap2, rfl, hr2⟩ := hu
  have HR := hide hr
  have HR2 := hide hr2
  have hnn : ((n : Int) != (n : Int)) = false := by simp
  clear hr hr2
  go_enter Tryd.func15, Tryd.ntmps15
  go_wp2
  go_loopw [13] (fun i wr => ∃ j : Nat, j ≤ n ∧ i = .int .i64 j ∧ Below w.heap.size w wr) (fun i _ => n - (intOf i).toNat)
  case atStart => exact ⟨0, Nat.zero_le _, rfl, Below.refl _ _⟩
  case round =>
    obtain ⟨j, hj, rfl, hbw⟩ := hrel
    by_cases hlt : j < n
    · obtain ⟨b, off, rfl, hb, hrow⟩ := HR.out (by omega)
      obtain ⟨b2, off2, rfl, hb2, hrow2⟩ := HR2.out (by omega)
      have c0 := (hbw.cell (p := ⟨b, off + j * 2, none⟩) hb).trans (hrow j hlt).1
      have c1 := (hbw.cell (p := ⟨b, off + j * 2 + 1, none⟩) hb).trans (hrow j hlt).2
      have d0 := (hbw.cell (p := ⟨b2, off2 + j * 2, none⟩) hb2).trans (hrow2 j hlt).1
      have d1 := (hbw.cell (p := ⟨b2, off2 + j * 2 + 1, none⟩) hb2).trans (hrow2 j hlt).2
      have hi0 : (0 : Int) ≤ (j : Int) := by omega
      have hi1 : (j : Int) < (n : Int) := by omega
      have hE := item_eq (l j).u (l j).v
      clear hrow hrow2 HR HR2
      generalize (l j).u = x at *
      generalize (l j).v = y at *
      go_wp2
      go_region
      go_wp2
      exact ⟨⟨j + 1, by omega, by go_num, ⟨hbw.os, hbw.tape, hbw.output, hbw.size, hbw.block⟩⟩, by simp [intOf]; omega⟩
    · obtain rfl : n = j := by omega
      clear HR HR2
      go_wp2
      go_ret
      exact ⟨rfl, hbw⟩
end Go.Proofs.YtbajiamkgffhkaaDoor

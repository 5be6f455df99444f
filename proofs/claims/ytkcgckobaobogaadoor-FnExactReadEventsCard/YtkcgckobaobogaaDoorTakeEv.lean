/-
  One event out of a frame at the front of a text: the program's takeEvent; and what the events are that stand in frames one behind the other.
-/
import Derived.Test.YtkcgckobaobogaaDoorRead
import Derived.Test.YtkcgckobaobogaaDoorTake
import Derived.Test.YtkcgckobaobogaaDoorSpecAll
namespace Go.Proofs.YtkcgckobaobogaaDoor
open Go.RowKit M
namespace M
def Step (t : ByteArray) (e : Ev) (n : Nat) : Prop := takeN t = some n ∧ goodE e = true ∧ evT e = t.extract 1 (n + 1)
def Stop (t : ByteArray) : Prop := takeN t = none ∨ ∃ n, takeN t = some n ∧ NoEv (t.extract 1 (n + 1))
theorem step_or_stop (t : ByteArray) : (∃ e n, Step t e n) ∨ Stop t := by
  cases h : takeN t with
  | none => exact .inr (.inl h)
  | some n =>
    by_cases he : ∃ (id ver kind : Nat) (name : ByteArray), goodB id ver kind name = true ∧ evB id ver kind name = t.extract 1 (n + 1)
    · obtain ⟨id, ver, kind, name, hg, hq⟩ := he
      exact .inl ⟨⟨id, ver, kind, name⟩, n, h, hg, hq⟩
    · exact .inr (.inr ⟨n, h, fun id ver kind name hg hq => he ⟨id, ver, kind, name, hg, hq⟩⟩)
def Reads (s : ByteArray) : Nat → List Ev → Nat → Prop
  | a, [], b => a = b
  | a, e :: r, b => ∃ n, Step (s.extract a s.size) e n ∧ Reads s (a + (n + 3)) r b
theorem reads_some (s : ByteArray) : ∀ (fuel a : Nat), ∃ es b, Reads s a es b ∧ es.length ≤ fuel ∧ (es.length = fuel ∨ Stop (s.extract b s.size))
  | 0, a => ⟨[], a, rfl, Nat.le_refl _, .inl rfl⟩
  | fuel + 1, a => by
    rcases step_or_stop (s.extract a s.size) with ⟨e, n, h⟩ | h
    · obtain ⟨es, b, h1, h2, h3⟩ := reads_some s fuel (a + (n + 3))
      refine ⟨e :: es, b, ⟨n, h, h1⟩, by simp; omega, ?_⟩
      rcases h3 with h3 | h3
      · left; simp [h3]
      · right; exact h3
    · exact ⟨[], a, rfl, Nat.zero_le _, .inr h⟩
theorem step_size {s : ByteArray} {a n : Nat} {e : Ev} (ha : a ≤ s.size) (h : Step (s.extract a s.size) e n) : a + (n + 3) ≤ s.size ∧ n ≤ 60 := by
  obtain ⟨_, _, h60, h3, _⟩ := takeN_some h.1
  rw [ext_size s a s.size (Nat.le_refl _)] at h3
  omega
theorem no_empty : NoEv ⟨#[]⟩ := by
  intro id ver kind name _ h
  have hl := evL_len id ver kind name.data.toList
  rw [← evB_data, h] at hl
  simp at hl
end M

theorem impl_read_E (e : Ev) (w : World) (hg : goodE e = true) (hk : KK w) (hp : PT w) (hl : LB w) :
    Calls Tryd.prog 15 #[.string (evT e)] w fun x w' => x = .returned (.tuple #[ev e.id e.ver e.kind e.name, .bool true]) ∧ Below w.heap.size w w' := by
  obtain ⟨id, ver, kind, name⟩ := e
  obtain ⟨⟨a1, a2⟩, ⟨b1, b2⟩, ⟨c1, c2⟩, d⟩ := good_parts hg
  simp only at a1 b1 c1
  obtain ⟨I, rfl⟩ := Int.eq_ofNat_of_zero_le (show 0 ≤ id by omega)
  obtain ⟨V, rfl⟩ := Int.eq_ofNat_of_zero_le b1
  obtain ⟨K, rfl⟩ := Int.eq_ofNat_of_zero_le (show 0 ≤ kind by omega)
  exact impl_read_ev I V K name w hg hk hp hl
theorem spec_read_E (e : Ev) (w : World) (hg : goodE e = true) :
    Calls Tryd.prog 14 #[.string (evT e)] w fun x w' => x = .returned (.tuple #[ev e.id e.ver e.kind e.name, .bool true]) ∧ Below w.heap.size w w' := by
  obtain ⟨id, ver, kind, name⟩ := e
  obtain ⟨⟨a1, a2⟩, ⟨b1, b2⟩, ⟨c1, c2⟩, d⟩ := good_parts hg
  simp only at a1 b1 c1
  obtain ⟨I, rfl⟩ := Int.eq_ofNat_of_zero_le (show 0 ≤ id by omega)
  obtain ⟨V, rfl⟩ := Int.eq_ofNat_of_zero_le b1
  obtain ⟨K, rfl⟩ := Int.eq_ofNat_of_zero_le (show 0 ≤ kind by omega)
  exact spec_read_ev I V K name w hg

set_option maxHeartbeats 1000000 in
theorem take_event (t : ByteArray) (e : Ev) (n : Nat) (w : World) (hs : t.size ≤ 1048576) (h : Step t e n) (hk : KK w) (hp : PT w) (hl : LB w) :
    Calls Tryd.prog 43 #[.string t] w fun x w' => x = .returned (.tuple #[ev e.id e.ver e.kind e.name, .int .i64 ((n + 3 : Nat) : Int), .bool true]) ∧ Below w.heap.size w w' := by
  obtain ⟨h1, hg, ht⟩ := h
  have hsm : t.size ≤ maxLen := by unfold maxLen; omega
  have H1 := hide h1
  have HT := hide ht
  have HG := hide hg
  have HK := hide hk
  have HP := hide hp
  have HL := hide hl
  clear h1 ht hg hk hp hl
  go_enter Tryd.func43, Tryd.ntmps43
  go_wp2_with fail
  refine (impl_take_some t _ hsm n H1.out).mono ?_
  rintro x w1 ⟨rfl, hb1⟩
  have b2 := blk_below (heap_alloc_new w (.cells #[.int .i64 0, .int .i64 0, .int .i64 0, .string ⟨#[]⟩] 26)) hb1
  have hz := hb1.size
  rw [World.size_alloc] at hz
  have hbw : Below w.heap.size w w1 := ((Below.refl _ w).alloc (Nat.le_refl _) _).trans (hb1.mono (by simp))
  rw [← HT.out]
  clear hb1
  go_wp2_with fail
  refine (impl_read_E e _ HG.out (HK.out.below hbw) (HP.out.below hbw) (HL.out.below hbw)).mono ?_
  rintro x w2 ⟨rfl, hb2⟩
  have B2 := blk_alloc (blk_below b2 hb2) (.cells #[.int .i64 e.id, .int .i64 e.ver, .int .i64 e.kind, .string e.name] 26)
  have hbw2 : Below w.heap.size w w2 := hbw.trans (hb2.mono (by omega))
  have hlt2 : w.heap.size < w2.heap.size := by have := hb2.size; omega
  obtain ⟨⟨c0, c1, c2, c3⟩, d0, d1, d2, d3⟩ := blk4 (blk_below b2 hb2)
  clear b2 B2 hb2
  go_wp2
  refine bodyPost_ret (v := .tuple #[ev e.id e.ver e.kind e.name, .int .i64 ((n + 3 : Nat) : Int), .bool true]) (by simp [results, Tryd.results43, go_sem, c0, c1, c2, c3, hlt2]) rfl ⟨rfl, ?_⟩
  exact ((((hbw2.setCell (Nat.le_refl _) _).setCell (Nat.le_refl _) _).setCell (Nat.le_refl _) _).setCell (Nat.le_refl _) _).alloc (by simp; omega) _

set_option maxHeartbeats 1000000 in
theorem take_event_no (t : ByteArray) (w : World) (hs : t.size ≤ 1048576) (h : Stop t) (hk : KK w) (hp : PT w) (hl : LB w) :
    Calls Tryd.prog 43 #[.string t] w fun x w' => x = .returned (.tuple #[ev0, .int .i64 0, .bool false]) ∧ Below w.heap.size w w' := by
  have hsm : t.size ≤ maxLen := by unfold maxLen; omega
  have HK := hide hk
  have HP := hide hp
  have HL := hide hl
  clear hk hp hl
  rcases h with h | ⟨n, h, hno⟩
  · have H1 := hide h
    clear h
    go_enter Tryd.func43, Tryd.ntmps43
    go_wp2_with fail
    refine (impl_take_none t _ hsm H1.out).mono ?_
    rintro x w1 ⟨rfl, hb1⟩
    have b2 := blk_below (heap_alloc_new w (.cells #[.int .i64 0, .int .i64 0, .int .i64 0, .string ⟨#[]⟩] 26)) hb1
    have hbw : Below w.heap.size w w1 := ((Below.refl _ w).alloc (Nat.le_refl _) _).trans (hb1.mono (by simp))
    obtain ⟨⟨c0, c1, c2, c3⟩, d0, d1, d2, d3⟩ := blk4 b2
    clear b2 hb1
    go_wp2
    refine bodyPost_ret (v := .tuple #[ev0, .int .i64 0, .bool false]) (by simp [results, Tryd.results43, go_sem, c0, c1, c2, c3]) rfl ⟨rfl, ?_⟩
    exact (((hbw.setCell (Nat.le_refl _) _).setCell (Nat.le_refl _) _).setCell (Nat.le_refl _) _).setCell (Nat.le_refl _) _
  · obtain ⟨_, _, h60, h3, _⟩ := takeN_some h
    have hz : (t.extract 1 (n + 1)).size ≤ 1048576 := by rw [ext_size t 1 (n + 1) (by omega)]; omega
    have H1 := hide h
    have HN := hide hno
    clear h hno
    go_enter Tryd.func43, Tryd.ntmps43
    go_wp2_with fail
    refine (impl_take_some t _ hsm n H1.out).mono ?_
    rintro x w1 ⟨rfl, hb1⟩
    have b2 := blk_below (heap_alloc_new w (.cells #[.int .i64 0, .int .i64 0, .int .i64 0, .string ⟨#[]⟩] 26)) hb1
    have hz1 := hb1.size
    rw [World.size_alloc] at hz1
    have hbw : Below w.heap.size w w1 := ((Below.refl _ w).alloc (Nat.le_refl _) _).trans (hb1.mono (by simp))
    clear hb1
    go_wp2_with fail
    refine (impl_read_no _ _ hz HN.out (HK.out.below hbw) (HP.out.below hbw) (HL.out.below hbw)).mono ?_
    rintro x w2 ⟨rfl, hb2⟩
    have hbw2 : Below w.heap.size w w2 := hbw.trans (hb2.mono (by omega))
    have hlt2 : w.heap.size < w2.heap.size := by have := hb2.size; omega
    obtain ⟨⟨c0, c1, c2, c3⟩, d0, d1, d2, d3⟩ := blk4 (blk_below b2 hb2)
    clear b2 hb2
    go_wp2
    refine bodyPost_ret (v := .tuple #[ev0, .int .i64 0, .bool false]) (by simp [results, Tryd.results43, go_sem, c0, c1, c2, c3, hlt2]) rfl ⟨rfl, ?_⟩
    exact ((((hbw2.setCell (Nat.le_refl _) _).setCell (Nat.le_refl _) _).setCell (Nat.le_refl _) _).setCell (Nat.le_refl _) _).alloc (by simp; omega) _
end Go.Proofs.YtkcgckobaobogaaDoor

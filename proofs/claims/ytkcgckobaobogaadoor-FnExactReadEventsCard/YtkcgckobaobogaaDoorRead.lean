/-
  Both texts of ReadEvent return the good event whose text is s, or the zero answer where there is none.
-/
import Derived.Test.YtkcgckobaobogaaDoorImplRead
namespace Go.Proofs.YtkcgckobaobogaaDoor
open Go.RowKit M
namespace M
theorem evL_len (id ver kind : Nat) (name : List UInt8) : 4 ≤ (evL id ver kind name).length := by
  unfold evL; simp; omega
theorem map_inj : ∀ {a b : List ByteArray}, a.map (·.data.toList) = b.map (·.data.toList) → a = b
  | [], [], _ => rfl
  | [], _ :: _, h => by simp at h
  | _ :: _, [], h => by simp at h
  | x :: a, y :: b, h => by
    simp only [List.map_cons, List.cons.injEq] at h
    rw [ba_eq h.1, map_inj h.2]
theorem parts_ev (id ver kind : Nat) (name : ByteArray) (h : goodName name.data.toList = true) : parts (evB id ver kind name) = [numB kind, numB id, numB ver, name, ⟨#[]⟩] ∧ min 5 ((evB id ver kind name).size + 1) = 5 := by
  have hl : 4 ≤ (evB id ver kind name).size := by rw [Lib.size_eq, evB_data]; exact evL_len _ _ _ _
  have h5 : min 5 ((evB id ver kind name).size + 1) = 5 := by omega
  refine ⟨?_, h5⟩
  apply map_inj
  rw [parts_data, h5, evB_data, evL_sp _ _ _ _ h]
  rfl
theorem good_name {id ver kind : Int} {name : ByteArray} (h : goodB id ver kind name = true) : goodName name.data.toList = true := by
  unfold goodB at h
  simp only [Bool.and_eq_true] at h
  exact h.2.2.2
def NoEv (s : ByteArray) : Prop := ∀ (id ver kind : Nat) (name : ByteArray), goodB id ver kind name = true → evB id ver kind name ≠ s
end M

theorem impl_read_ev (id ver kind : Nat) (name : ByteArray) (w : World) (hg : goodB id ver kind name = true) (hk : KK w) (hp : PT w) (hl : LB w) :
    Calls Tryd.prog 15 #[.string (evB id ver kind name)] w fun e w' => e = .returned (.tuple #[ev id ver kind name, .bool true]) ∧ Below w.heap.size w w' := by
  obtain ⟨⟨a1, a2⟩, ⟨b1, b2⟩, ⟨c1, c2⟩, d⟩ := good_parts hg
  obtain ⟨hps, h5⟩ := parts_ev id ver kind name (good_name hg)
  have hz := evB_size id ver kind name (by omega) (by omega) (by omega) d
  have z1 := numB_size id (by omega)
  have z2 := numB_size ver (by omega)
  have z3 := numB_size kind (by omega)
  have nk := num_yes (readNum_dec kind (by omega))
  have ni := num_yes (readNum_dec id (by omega))
  have nv := num_yes (readNum_dec ver (by omega))
  exact impl_read_yes (evB id ver kind name) (numB kind) (numB id) (numB ver) name w (by omega) hk hp hl hps h5 (by omega) (by omega) (by omega) (by omega) id ver kind true true true nk ni nv rfl rfl rfl hg

theorem impl_read_no (s : ByteArray) (w : World) (hs : s.size ≤ 1048576) (hno : NoEv s) (hk : KK w) (hp : PT w) (hl : LB w) :
    Calls Tryd.prog 15 #[.string s] w fun e w' => e = .returned (.tuple #[ev0, .bool false]) ∧ Below w.heap.size w w' := by
  rcases parts_cases s with h | ⟨p0, p1, p2, p3, p4, hps, h5, hj⟩
  · exact impl_read_short s w hs hl h
  · have hlen := congrArg List.length hj
    simp only [List.length_append, List.length_cons] at hlen
    have q : s.size = s.data.toList.length := Lib.size_eq s
    have q0 : p0.size ≤ 1048576 := by rw [Lib.size_eq]; omega
    have q1 : p1.size ≤ 1048576 := by rw [Lib.size_eq]; omega
    have q2 : p2.size ≤ 1048576 := by rw [Lib.size_eq]; omega
    have q3 : p3.size ≤ 1048576 := by rw [Lib.size_eq]; omega
    by_cases h4 : p4.data.toList = []
    · have e4 : p4 = ⟨#[]⟩ := ba_eq h4
      subst e4
      cases r0 : readNum p0.data.toList with
      | none => exact impl_read_flags s p0 p1 p2 p3 w hs hk hp hl hps h5 q0 q1 q2 q3 _ _ _ _ _ _ (num_no r0) ⟨rfl, rfl⟩ ⟨rfl, rfl⟩ (.inl rfl)
      | some kind =>
        cases r1 : readNum p1.data.toList with
        | none => exact impl_read_flags s p0 p1 p2 p3 w hs hk hp hl hps h5 q0 q1 q2 q3 _ _ _ _ _ _ ⟨rfl, rfl⟩ (num_no r1) ⟨rfl, rfl⟩ (.inr (.inl rfl))
        | some id =>
          cases r2 : readNum p2.data.toList with
          | none => exact impl_read_flags s p0 p1 p2 p3 w hs hk hp hl hps h5 q0 q1 q2 q3 _ _ _ _ _ _ ⟨rfl, rfl⟩ ⟨rfl, rfl⟩ (num_no r2) (.inr (.inr rfl))
          | some ver =>
            have hg : goodB id ver kind p3 = false := by
              cases hg : goodB id ver kind p3
              · rfl
              · exfalso
                refine hno id ver kind p3 hg (ba_eq ?_)
                rw [evB_data, hj]
                unfold evL
                rw [readNum_some r0, readNum_some r1, readNum_some r2]
            exact impl_read_bad s p0 p1 p2 p3 w hs hk hp hl hps h5 q0 q1 q2 q3 _ _ _ _ _ _ (num_yes r0) (num_yes r1) (num_yes r2) rfl rfl rfl hg
    · refine impl_read_p4 s p0 p1 p2 p3 p4 w hs hl hps h5 ?_
      rw [Lib.toList_data]
      cases hh : p4.data.toList with
      | nil => exact absurd hh h4
      | cons a r => rfl

theorem spec_read_ev (id ver kind : Nat) (name : ByteArray) (w : World) (hg : goodB id ver kind name = true) :
    Calls Tryd.prog 14 #[.string (evB id ver kind name)] w fun e w' => e = .returned (.tuple #[ev id ver kind name, .bool true]) ∧ Below w.heap.size w w' := by
  obtain ⟨⟨a1, a2⟩, ⟨b1, b2⟩, ⟨c1, c2⟩, d⟩ := good_parts hg
  have hz := evB_size id ver kind name (by omega) (by omega) (by omega) d
  obtain ⟨e1, e2, e3, e4⟩ := evL_cuts id ver kind name.data.toList (good_name hg)
  refine spec_read_eq (evB id ver kind name) w (by unfold maxLen; omega) id ver kind name ?_ ?_ ?_ ?_ hg rfl
  · unfold rI; rw [evB_data, e2, intL_dec id (by omega)]
  · unfold rV; rw [evB_data, e3, intL_dec ver (by omega)]
  · unfold rK; rw [evB_data, e1, intL_dec kind (by omega)]
  · unfold rN; rw [evB_data, e4]

theorem spec_read_no (s : ByteArray) (w : World) (hs : s.size ≤ maxLen) (hno : NoEv s) :
    Calls Tryd.prog 14 #[.string s] w fun e w' => e = .returned (.tuple #[ev0, .bool false]) ∧ Below w.heap.size w w' := by
  cases hg : goodB (rI s.data.toList) (rV s.data.toList) (rK s.data.toList) (rN s.data.toList)
  · exact spec_read_bad s w hs hg
  · refine spec_read_ne s w hs hg ?_
    obtain ⟨⟨a1, a2⟩, ⟨b1, b2⟩, ⟨c1, c2⟩, d⟩ := good_parts hg
    refine hno _ _ _ _ ?_
    rw [Int.toNat_of_nonneg (by omega), Int.toNat_of_nonneg (by omega), Int.toNat_of_nonneg (by omega)]
    exact hg

theorem eq_event (I V K : Int) (N : ByteArray) (w : World) :
    Calls Tryd.prog 16 #[ev I V K N, ev I V K N] w fun e w' => e = .returned (.bool true) ∧ Below w.heap.size w w' := by
  go_enter Tryd.func16, Tryd.ntmps16
  go_wp2
  go_ret
  exact ⟨rfl, ((Below.refl _ w).alloc (Nat.le_refl _) _).alloc (by simp) _⟩
end Go.Proofs.YtkcgckobaobogaaDoor

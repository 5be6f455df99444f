/-
  Both texts of ReadEvents return the events whose frames stand at the front, in a slice of new memory, and how many bytes these have.
-/
import Derived.Test.YtkcgckobaobogaaDoorTakeEv
import Derived.Test.YtkcgckobaobogaaDoorBuild
namespace Go.Proofs.YtkcgckobaobogaaDoor
open Go.RowKit M
namespace M
def lenV : Value → Nat
  | .slice _ n _ => n
  | _ => 0
theorem own_slice {w : World} {B : Nat} {v : Value} {es : List Ev} (h : w.ownsRow B 26 4 v es.length (cellsE es)) : SliceOf w v es := by
  rcases h.2 with ⟨rfl, h0⟩ | ⟨g, cap, cur, rfl, hB, hg, hn, hc, hs, ht⟩
  · have : es = [] := List.eq_nil_of_length_eq_zero h0
    subst this
    exact ⟨none, 0, rfl, fun h => absurd rfl h⟩
  · refine ⟨_, cap, rfl, fun _ => ⟨g, 0, rfl, ?_, ?_⟩⟩
    · rcases Nat.lt_or_ge g w.heap.size with h' | h'
      · exact h'
      · rw [Array.getElem?_eq_none h'] at hg; cases hg
    · have hcur : cur = (cellsE es ++ cur.toList.drop (es.length * 4)).toArray := by
        apply Array.toList_inj.1
        rw [← ht]
        simp
      rw [hcur] at hg
      exact row_of_block hg
theorem own_form {w : World} {B e n : Nat} {v : Value} {xs : List Value} (h : w.ownsRow B e 4 v n xs) : ∃ a cap, v = .slice a n cap := by
  rcases h.2 with ⟨rfl, rfl⟩ | ⟨g, cap, cur, rfl, _⟩
  · exact ⟨_, _, rfl⟩
  · exact ⟨_, _, rfl⟩
theorem drop_step {s : ByteArray} {es : List Ev} {k a b : Nat} {e : Ev} (he : es[k]? = some e) (h : Reads s a (es.drop k) b) : ∃ n, Step (s.extract a s.size) e n ∧ Reads s (a + (n + 3)) (es.drop (k + 1)) b := by
  have hk : k < es.length := by
    rcases Nat.lt_or_ge k es.length with h' | h'
    · exact h'
    · rw [List.getElem?_eq_none h'] at he; cases he
  rw [List.drop_eq_getElem_cons hk] at h
  have e1 : es[k] = e := by rw [List.getElem?_eq_getElem hk] at he; simpa using he
  rw [e1] at h
  exact h
theorem news4 (w : World) (c0 c1 c2 c3 : Value) (t : TypeId) : ∀ (j : Nat) u, [c0, c1, c2, c3][j]? = some u → (w.alloc (.cells #[c0, c1, c2, c3] t)).cell? ((⟨w.heap.size, 0, none⟩ : Addr).add j) = some u := by
  intro j u hj
  match j, hj with
  | 0, hj => simp at hj; subst hj; simp [Addr.add]
  | 1, hj => simp at hj; subst hj; simp [Addr.add]
  | 2, hj => simp at hj; subst hj; simp [Addr.add]
  | 3, hj => simp at hj; subst hj; simp [Addr.add]
end M

theorem rest_at (s : ByteArray) (a : Nat) (ha : a ≤ s.size) (w : World) : (Instr.slice 9 (.string s) (some (.int .i64 (a : Int))) none none).run Tryd.prog w = .ok (.string (s.extract a s.size)) w := by
  have h := run_slice_string_l (P := Tryd.prog) (w := w) (t := 9) (s := s) Tryd.underlying9 .i64 (a : Int) (by omega) (by omega)
  rw [h]; simp

set_option maxHeartbeats 1600000 in
theorem impl_reads (s : ByteArray) (es : List Ev) (b : Nat) (w : World) (hs : s.size ≤ 1048576) (hr : Reads s 0 es b) (h60 : es.length ≤ 60) (hend : es.length = 60 ∨ Stop (s.extract b s.size)) (hk : KK w) (hp : PT w) (hl : LB w) :
    Calls Tryd.prog 23 #[.string s] w fun x w' => (∃ v, x = .returned (.tuple #[v, .int .i64 (b : Int)]) ∧ w'.ownsRow w.heap.size 26 4 v es.length (cellsE es)) ∧ Below w.heap.size w w' := by
  obtain ⟨i0, hi, hz0, hz1, hz2⟩ := info_parts info_ev
  have HR := hide hr
  have HE := hide hend
  have HK := hide hk
  have HP := hide hp
  have HL := hide hl
  clear hr hend hk hp hl
  go_enter Tryd.func23, Tryd.ntmps23
  go_wp2
  go_loopw [4, 5] (fun x y wr => ∃ (k a : Nat) (ao : Option Addr) (cap : Nat), k ≤ es.length ∧ x = .slice ao k cap ∧ y = .int .i64 a ∧ a ≤ s.size ∧ Hid (Reads s a (es.drop k) b) ∧ Hid (wr.ownsRow w.heap.size 26 4 (.slice ao k cap) k (cellsE (es.take k))) ∧ Below w.heap.size w wr) (fun x _ _ => es.length + 1 - lenV x)
  case atStart => exact ⟨0, 0, none, 0, Nat.zero_le _, rfl, rfl, Nat.zero_le _, HR, hide (World.ownsRow_nil _ _ _ _), Below.refl _ _⟩
  case round =>
    obtain ⟨k, a, ao, cap, hkl, rfl, rfl, ha, HRd, HO, hbw⟩ := hrel
    have hrest := rest_at s a ha
    have hesz : (s.extract a s.size).size ≤ 1048576 := by rw [ext_size s a s.size (Nat.le_refl _)]; omega
    by_cases hlt : k < es.length
    · obtain ⟨e, he⟩ : ∃ e, es[k]? = some e := ⟨es[k], List.getElem?_eq_getElem hlt⟩
      obtain ⟨n, hst, hrd⟩ := drop_step he HRd.out
      obtain ⟨hsz, hn60⟩ := step_size ha hst
      have HS := hide hst
      have HD := hide hrd
      have HC := hide (cellsE_split es k e he)
      have hk60 : (k : Int) < 60 := by omega
      clear hst hrd HRd
      go_wp2_with fail
      refine (take_event _ e n _ hesz HS.out (HK.out.below hbw) (HP.out.below hbw) (HL.out.below hbw)).mono ?_
      rintro x w1 ⟨rfl, hb1⟩
      have hbw1 := hbw.trans (hb1.mono hbw.size)
      have hown := owns_below HO.out hb1
      clear HO hb1
      go_wp2_with (at_builtin; refine wpList_append_own _ rfl _ _ 38 rfl w.heap.size 26 i0 _ 4 40 Tryd.underlying38 hi hz0 hz1 hz2 rfl (by decide) _ k _ rfl ((hown.alloc _).alloc _) ⟨w1.heap.size + 1, 0, none⟩ 1 1 [.int .i64 e.id, .int .i64 e.ver, .int .i64 e.kind, .string e.name] rfl rfl ?c1 ?c2 ?c3 ?c4 ?c5 ?_)
      case c1 =>
        have := news4 (w1.alloc (.cells #[.int .i64 e.id, .int .i64 e.ver, .int .i64 e.kind, .string e.name] 26)) (.int .i64 e.id) (.int .i64 e.ver) (.int .i64 e.kind) (.string e.name) 26
        rw [World.size_alloc] at this
        exact this
      case c2 => intro u hu; simp at hu; rcases hu with rfl | rfl | rfl | rfl <;> rfl
      case c3 => unfold maxLen; omega
      case c4 => omega
      case c5 => have := hbw1.size; simp; omega
      intro v' w4 hown4 hgrow _
      have hbw4 : Below w.heap.size w w4 := ((hbw1.alloc hbw1.size _).alloc (by have := hbw1.size; simp; omega) _).grown hgrow (by have := hbw1.size; simp; omega) (fun j hj => (hown.lt j hj).1)
      obtain ⟨a4, c4, rfl⟩ := own_form hown4
      have HO4 := hide (show w4.ownsRow w.heap.size 26 4 (.slice a4 (k + 1) c4) (k + 1) (cellsE (es.take (k + 1))) by rw [HC.out]; exact hown4)
      clear hown4 hgrow hown
      go_wp2
      go_roundw
      case rel => exact ⟨k + 1, a + (n + 3), a4, c4, by omega, rfl, by go_num, by omega, HD, HO4, hbw4⟩
      case measure => simp [lenV]; omega
    · have hke : k = es.length := by omega
      subst hke
      have hd : es.drop es.length = [] := List.drop_length
      have hab : a = b := by have := HRd.out; rw [hd] at this; exact this
      subst hab
      have HO2 := hide (show wr.ownsRow w.heap.size 26 4 (.slice ao es.length cap) es.length (cellsE es) by have := HO.out; rw [List.take_length] at this; exact this)
      clear HO HRd
      by_cases h6 : es.length = 60
      · have hk60 : ¬ ((es.length : Int) < 60) := by omega
        clear h6
        go_wp2
        go_ret2
        exact ⟨⟨_, rfl, HO2.out⟩, hbw⟩
      · have hstop : Stop (s.extract a s.size) := by
          rcases HE.out with h | h
          · exact absurd h h6
          · exact h
        have HS := hide hstop
        have hk60 : ((es.length : Int) < 60) := by omega
        clear hstop
        go_wp2_with fail
        refine (take_event_no _ _ hesz HS.out (HK.out.below hbw) (HP.out.below hbw) (HL.out.below hbw)).mono ?_
        rintro x w1 ⟨rfl, hb1⟩
        have hbw1 := hbw.trans (hb1.mono hbw.size)
        have HO3 := hide ((owns_below HO2.out hb1).alloc (.cells #[.int .i64 0, .int .i64 0, .int .i64 0, .string ⟨#[]⟩] 26))
        clear HO2 hb1
        go_wp2
        go_ret2
        exact ⟨⟨_, rfl, HO3.out⟩, hbw1.alloc hbw1.size _⟩

set_option maxHeartbeats 1600000 in
theorem spec_reads (s : ByteArray) (es : List Ev) (b : Nat) (w : World) (hs : s.size ≤ 1048576) (hr : Reads s 0 es b) (h60 : es.length ≤ 60) (hend : es.length = 60 ∨ Stop (s.extract b s.size)) :
    Calls Tryd.prog 22 #[.string s] w fun x w' => (∃ v, x = .returned (.tuple #[v, .int .i64 (b : Int)]) ∧ w'.ownsRow w.heap.size 26 4 v es.length (cellsE es)) ∧ Below w.heap.size w w' := by
  obtain ⟨i0, hi, hz0, hz1, hz2⟩ := info_parts info_ev
  have HR := hide hr
  have HE := hide hend
  clear hr hend
  go_enter Tryd.func22, Tryd.ntmps22
  go_wp2
  go_loopw [4, 5] (fun x y wr => ∃ (k a : Nat) (ao : Option Addr) (cap : Nat), k ≤ es.length ∧ x = .slice ao k cap ∧ y = .int .i64 a ∧ a ≤ s.size ∧ Hid (Reads s a (es.drop k) b) ∧ Hid (wr.ownsRow w.heap.size 26 4 (.slice ao k cap) k (cellsE (es.take k))) ∧ Below w.heap.size w wr) (fun x _ _ => es.length + 1 - lenV x)
  case atStart => exact ⟨0, 0, none, 0, Nat.zero_le _, rfl, rfl, Nat.zero_le _, HR, hide (World.ownsRow_nil _ _ _ _), Below.refl _ _⟩
  case round =>
    obtain ⟨k, a, ao, cap, hkl, rfl, rfl, ha, HRd, HO, hbw⟩ := hrel
    have hrest := rest_at s a ha
    have hesm : (s.extract a s.size).size ≤ maxLen := by rw [ext_size s a s.size (Nat.le_refl _)]; unfold maxLen; omega
    have hesz : (s.extract a s.size).size ≤ 1048576 := by rw [ext_size s a s.size (Nat.le_refl _)]; omega
    by_cases hlt : k < es.length
    · obtain ⟨e, he⟩ : ∃ e, es[k]? = some e := ⟨es[k], List.getElem?_eq_getElem hlt⟩
      obtain ⟨n, hst, hrd⟩ := drop_step he HRd.out
      obtain ⟨hsz, hn60⟩ := step_size ha hst
      have HS := hide hst
      have HD := hide hrd
      have HC := hide (cellsE_split es k e he)
      have hk60 : (k : Int) < 60 := by omega
      clear hst hrd HRd
      go_wp2_with fail
      refine (spec_take_some _ _ hesm n HS.out.1).mono ?_
      rintro x w0 ⟨rfl, hb0⟩
      have hbw0 := hbw.trans (hb0.mono hbw.size)
      have HO0 := hide (owns_below HO.out hb0)
      rw [← HS.out.2.2]
      clear HO hb0
      go_wp2_with fail
      refine (spec_read_E e _ HS.out.2.1).mono ?_
      rintro x w1 ⟨rfl, hb1⟩
      have hbw1 := hbw0.trans (hb1.mono hbw0.size)
      have hown := owns_below HO0.out hb1
      clear HO0 hb1 hbw0
      go_wp2_with (at_builtin; refine wpList_append_own _ rfl _ _ 38 rfl w.heap.size 26 i0 _ 4 40 Tryd.underlying38 hi hz0 hz1 hz2 rfl (by decide) _ k _ rfl ((hown.alloc _).alloc _) ⟨w1.heap.size + 1, 0, none⟩ 1 1 [.int .i64 e.id, .int .i64 e.ver, .int .i64 e.kind, .string e.name] rfl rfl ?c1 ?c2 ?c3 ?c4 ?c5 ?_)
      case c1 =>
        have := news4 (w1.alloc (.cells #[.int .i64 e.id, .int .i64 e.ver, .int .i64 e.kind, .string e.name] 26)) (.int .i64 e.id) (.int .i64 e.ver) (.int .i64 e.kind) (.string e.name) 26
        rw [World.size_alloc] at this
        exact this
      case c2 => intro u hu; simp at hu; rcases hu with rfl | rfl | rfl | rfl <;> rfl
      case c3 => unfold maxLen; omega
      case c4 => omega
      case c5 => have := hbw1.size; simp; omega
      intro v' w4 hown4 hgrow _
      have hbw4 : Below w.heap.size w w4 := ((hbw1.alloc hbw1.size _).alloc (by have := hbw1.size; simp; omega) _).grown hgrow (by have := hbw1.size; simp; omega) (fun j hj => (hown.lt j hj).1)
      obtain ⟨a4, c4, rfl⟩ := own_form hown4
      have HO4 := hide (show w4.ownsRow w.heap.size 26 4 (.slice a4 (k + 1) c4) (k + 1) (cellsE (es.take (k + 1))) by rw [HC.out]; exact hown4)
      clear hown4 hgrow hown
      go_wp2
      go_roundw
      case rel => exact ⟨k + 1, a + (n + 3), a4, c4, by omega, rfl, by go_num, by omega, HD, HO4, hbw4⟩
      case measure => simp [lenV]; omega
    · have hke : k = es.length := by omega
      subst hke
      have hd : es.drop es.length = [] := List.drop_length
      have hab : a = b := by have := HRd.out; rw [hd] at this; exact this
      subst hab
      have HO2 := hide (show wr.ownsRow w.heap.size 26 4 (.slice ao es.length cap) es.length (cellsE es) by have := HO.out; rw [List.take_length] at this; exact this)
      clear HO HRd
      by_cases h6 : es.length = 60
      · have hk60 : ¬ ((es.length : Int) < 60) := by omega
        clear h6
        go_wp2
        go_ret2
        exact ⟨⟨_, rfl, HO2.out⟩, hbw⟩
      · have hstop : Stop (s.extract a s.size) := by
          rcases HE.out with h | h
          · exact absurd h h6
          · exact h
        have hk60 : ((es.length : Int) < 60) := by omega
        rcases hstop with hst | ⟨n, hst, hno⟩
        · have HS := hide hst
          clear hst
          go_wp2_with fail
          refine (spec_take_none _ _ hesm HS.out).mono ?_
          rintro x w0 ⟨rfl, hb0⟩
          have hbw0 := hbw.trans (hb0.mono hbw.size)
          have HO0 := hide (owns_below HO2.out hb0)
          clear HO2 hb0
          go_wp2_with fail
          refine (spec_read_no ⟨#[]⟩ _ (by unfold maxLen; simp [ByteArray.size]) no_empty).mono ?_
          rintro x w1 ⟨rfl, hb1⟩
          have hbw1 := hbw0.trans (hb1.mono hbw0.size)
          have HO3 := hide ((owns_below HO0.out hb1).alloc (.cells #[.int .i64 0, .int .i64 0, .int .i64 0, .string ⟨#[]⟩] 26))
          clear HO0 hb1
          go_wp2
          go_ret2
          exact ⟨⟨_, rfl, HO3.out⟩, hbw1.alloc hbw1.size _⟩
        · have HS := hide hst
          have HN := hide hno
          obtain ⟨_, _, hn60, hn3, _⟩ := takeN_some hst
          have htz : ((s.extract a s.size).extract 1 (n + 1)).size ≤ maxLen := by rw [ext_size _ 1 (n + 1) (by omega)]; unfold maxLen; omega
          clear hst hno
          go_wp2_with fail
          refine (spec_take_some _ _ hesm n HS.out).mono ?_
          rintro x w0 ⟨rfl, hb0⟩
          have hbw0 := hbw.trans (hb0.mono hbw.size)
          have HO0 := hide (owns_below HO2.out hb0)
          clear HO2 hb0
          go_wp2_with fail
          refine (spec_read_no _ _ htz HN.out).mono ?_
          rintro x w1 ⟨rfl, hb1⟩
          have hbw1 := hbw0.trans (hb1.mono hbw0.size)
          have HO3 := hide ((owns_below HO0.out hb1).alloc (.cells #[.int .i64 0, .int .i64 0, .int .i64 0, .string ⟨#[]⟩] 26))
          clear HO0 hb1
          go_wp2
          go_ret2
          exact ⟨⟨_, rfl, HO3.out⟩, hbw1.alloc hbw1.size _⟩
end Go.Proofs.YtkcgckobaobogaaDoor

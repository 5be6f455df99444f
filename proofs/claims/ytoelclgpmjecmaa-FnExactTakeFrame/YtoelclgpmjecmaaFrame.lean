/-
  Both texts of FrameBytes return the frame of a text of at most 60 bytes, and the zero answer of a longer one; nothing that was there is turned.
-/
import Derived.Test.YtoelclgpmjecmaaSumWalk
import Derived.WalkLawsBesides
import Derived.Laws.BytesArg
import Derived.Laws.IdiomStrings
import Derived.Lib.AppendStr
import Derived.Lib.Strings
namespace Go.Proofs.Ytoelclgpmjecmaa
open Go.RowKit M
namespace M
def frameL (l : List UInt8) : List UInt8 := UInt8.ofNat l.length :: (l ++ [UInt8.ofNat (sumOf l / 256), UInt8.ofNat (sumOf l % 256)])
def frameB (s : ByteArray) : ByteArray := ⟨(frameL s.data.toList).toArray⟩

theorem frameB_size (s : ByteArray) : (frameB s).size = s.size + 3 := by
  show (frameL s.data.toList).toArray.size = _
  simp [frameL]

theorem frame_join (s : ByteArray) (S : Nat) (h : sumOf s.data.toList = S) :
    strOfNums [(s.size : Int)] ++ s ++ strOfNums [(S : Int) / 256, (S : Int) % 256] = frameB s := by
  subst h
  apply ByteArray.ext
  apply Array.toList_inj.1
  rw [ByteArray.data_append, ByteArray.data_append, Array.toList_append, Array.toList_append, strOfNums_data, strOfNums_data]
  have f1 : (((sumOf s.data.toList : Nat) : Int) / 256).toNat = sumOf s.data.toList / 256 := by omega
  have f2 : (((sumOf s.data.toList : Nat) : Int) % 256).toNat = sumOf s.data.toList % 256 := by omega
  simp [frameB, frameL, f1, f2]

theorem u8_of (n : Nat) (h : n < 256) : ((UInt8.ofNat n).toNat : Int) = (n : Int) := by
  simp; omega

theorem frame_cells (s : ByteArray) (S : Nat) (h : sumOf s.data.toList = S) (hs : s.size ≤ 60) (hb : S < 65536) :
    ([Value.int .u8 (s.size : Int)] ++ Lib.strCells s) ++ [Value.int .u8 ((S : Int) / 256), Value.int .u8 ((S : Int) % 256)] = (frameL s.data.toList).map (fun b => Value.int .u8 (b.toNat : Int)) := by
  subst h
  have e0 : ((UInt8.ofNat s.data.toList.length).toNat : Int) = (s.size : Int) := by
    rw [u8_of]
    · simp
    · simp; omega
  have e1 : ((UInt8.ofNat (sumOf s.data.toList / 256)).toNat : Int) = ((sumOf s.data.toList : Nat) : Int) / 256 := by
    rw [u8_of _ (by omega)]; omega
  have e2 : ((UInt8.ofNat (sumOf s.data.toList % 256)).toNat : Int) = ((sumOf s.data.toList : Nat) : Int) % 256 := by
    rw [u8_of _ (by omega)]; omega
  simp only [frameL, List.map_cons, List.map_append, List.map_nil, e0, e1, e2, Lib.strCells]
  simp
end M

theorem conv1 (w : World) (a : Int) : (convert 28 9 (.slice (some ⟨w.heap.size, 0, none⟩) 1 1)).run Try.prog (w.alloc (.cells #[.int .u8 a] 5)) = .ok (.string (strOfNums [a])) (w.alloc (.cells #[.int .u8 a] 5)) :=
  run_convert_bytes_arg _ 28 5 Try.underlying28 Try.underlying5 _ 0 1 1 [a] rfl (by
    intro i hi
    obtain rfl : i = 0 := by omega
    rw [World.cell?_alloc_mark]; rfl) 9 Try.underlying9
theorem conv2 (w : World) (o : Obj) (a b : Int) : (convert 28 9 (.slice (some ⟨w.heap.size + 1, 0, none⟩) 2 2)).run Try.prog ((w.alloc o).alloc (.cells #[.int .u8 a, .int .u8 b] 5)) = .ok (.string (strOfNums [a, b])) ((w.alloc o).alloc (.cells #[.int .u8 a, .int .u8 b] 5)) := by
  have h := run_convert_bytes_arg (P := Try.prog) ((w.alloc o).alloc (.cells #[.int .u8 a, .int .u8 b] 5)) 28 5 Try.underlying28 Try.underlying5 (w.alloc o).heap.size 0 2 2 [a, b] rfl (by
    intro i hi
    rw [World.cell?_alloc_mark]
    match i, hi with
    | 0, _ => rfl
    | 1, _ => rfl) 9 Try.underlying9
  have hz : (w.alloc o).heap.size = w.heap.size + 1 := by simp
  rw [hz] at h
  exact h

theorem conv_owned (w : World) (base : Nat) (v : Value) (n : Nat) (l : List UInt8) (h : w.ownsRow base 5 1 v n (l.map (fun b => Value.int .u8 (b.toNat : Int)))) (hn : n ≠ 0) :
    (convert 28 9 v).run Try.prog w = .ok (.string ⟨l.toArray⟩) w := by
  have hl : l.length = n := by simpa using h.1
  rcases h.2 with ⟨_, h0⟩ | ⟨g, cap, cur, rfl, _⟩
  · exact absurd h0 hn
  · have hc := h.cells (g := g) rfl
    subst hl
    exact run_convert_bytes_back w 28 9 5 ⟨g, 0, none⟩ cap l Try.underlying28 Try.underlying5 Try.underlying9 (fun j hj => hc j _ (by simp [hj]))

set_option maxHeartbeats 400000 in
theorem spec_frame (s : ByteArray) (w : World) (hs : s.size ≤ 60) :
    Calls Try.prog 16 #[.string s] w fun e w' => e = .returned (.string (frameB s)) ∧ Below w.heap.size w w' := by
  have hs' : s.size ≤ maxLen := by unfold maxLen; omega
  have hb := sumOf_bd s.data.toList
  generalize hS : sumOf s.data.toList = S at hb
  have HS := hide hS; clear hS
  have k1 := fun w : World => conv1 w (s.size : Int)
  have k2 := conv2
  have z1 := strOfNums_size
  have z2 := @ByteArray.size_append
  go_enter Try.func16, Try.ntmps16
  go_wp2_with (first
      | (go_at_call 7; refine (spec_sum _ _ hs').mono ?_; rintro e w' ⟨rfl, rfl⟩; rw [HS.out]))
  go_ret
  refine ⟨by rw [frame_join s S HS.out]; rfl, ?_⟩
  exact ((Below.refl _ _).alloc (Nat.le_refl _) _).alloc (by simp) _

theorem info_u8 : (Try.prog.info? 5).map (fun i => (i.zero, i.size, i.bytes)) = some (some (.int .u8 0), 1, 1) := by kernel_rfl

theorem owns_one (w : World) (a : Int) : (w.alloc (.cells #[.int .u8 a] 5)).ownsRow w.heap.size 5 1 (.slice (some ⟨w.heap.size, 0, none⟩) 1 1) 1 [.int .u8 a] :=
  ⟨by simp, .inr ⟨w.heap.size, 1, #[.int .u8 a], rfl, Nat.le_refl _, heap_alloc_new w _, Nat.le_refl _, by unfold maxLen; omega, by simp, by simp⟩⟩

set_option maxHeartbeats 800000 in
theorem impl_frame (s : ByteArray) (w : World) (hs : s.size ≤ 60) :
    Calls Try.prog 10 #[.string s] w fun e w' => e = .returned (.tuple #[.string (frameB s), .bool true]) ∧ Below w.heap.size w w' := by
  have hs' : s.size ≤ maxLen := by unfold maxLen; omega
  have hb := sumOf_bd s.data.toList
  generalize hS : sumOf s.data.toList = S at hb
  have HS := hide hS; clear hS
  obtain ⟨i0, hi, hz0, hz1, hz2⟩ := info_parts info_u8
  have hle : ¬ (60 : Int) < (s.size : Int) := by omega
  go_enter Try.func10, Try.ntmps10
  go_wp2_with (first
      | (go_at_call 8; refine (impl_sum _ _ hs').mono ?_; rintro e w' ⟨rfl, rfl⟩; rw [HS.out])
      | (at_builtin; refine Lib.wpList_append_own_string _ rfl _ _ 28 9 rfl w'.heap.size 5 i0 Try.underlying28 Try.underlying9 hi hz0 hz1 hz2 _ 1 [.int .u8 (s.size : Int)] rfl (owns_one _ _) s rfl ?c3 ?c4 ?c5 ?_))
  case c3 => unfold maxLen; omega
  case c4 => omega
  case c5 => simp
  intro v1 w1 hown1 hgrow1 _
  have hb1 : Below w'.heap.size w' w1 := ((Below.refl _ w').alloc (Nat.le_refl _) _).grown hgrow1 (by simp) (fun k hk => by simp [Value.ownBlock] at hk; omega)
  clear hgrow1
  have hz := hb1.size
  go_wp2_with (at_builtin; refine wpList_append_own _ rfl _ _ 28 rfl w'.heap.size 5 i0 (.int .u8 0) 1 1 Try.underlying28 hi hz0 hz1 hz2 rfl (by decide) _ (1 + s.size) _ rfl (hown1.alloc _) ⟨w1.heap.size, 0, none⟩ 2 2 [.int .u8 ((S : Int) / 256), .int .u8 ((S : Int) % 256)] rfl rfl ?d1 ?d2 ?d3 ?d4 ?d5 ?_)
  case d1 =>
    intro j u hj
    match j, hj with
    | 0, hj => simp at hj; subst hj; simp [Addr.add]
    | 1, hj => simp at hj; subst hj; simp [Addr.add]
  case d2 => intro u hu; simp at hu; rcases hu with rfl | rfl <;> rfl
  case d3 => unfold maxLen; omega
  case d4 => omega
  case d5 => simp; omega
  intro v2 w2 hown2 hgrow2 _
  have hlt := hown1.lt
  have hb2 : Below w'.heap.size w' w2 := ((hb1.alloc hz _).grown hgrow2 (by simp; omega) (fun k hk => (hlt k hk).1))
  clear hgrow2 hlt
  have ec := frame_cells s S HS.out hs hb
  have hown3 : w2.ownsRow w'.heap.size 5 1 v2 (1 + s.size + 2) ((frameL s.data.toList).map (fun b => Value.int .u8 (b.toNat : Int))) := by
    rw [← ec]; exact hown2
  have kc := conv_owned w2 _ v2 _ _ hown3 (by omega)
  clear hown1 hown2 hown3 ec
  go_wp2
  go_ret2
  exact ⟨rfl, hb2⟩

theorem impl_frame_no (s : ByteArray) (w : World) (hs : s.size ≤ maxLen) (h : 60 < s.size) :
    Calls Try.prog 10 #[.string s] w fun e w' => e = .returned (.tuple #[.string ByteArray.empty, .bool false]) ∧ w' = w := by
  unfold maxLen at hs
  have hgt : (60 : Int) < (s.size : Int) := by omega
  go_enter Try.func10, Try.ntmps10
  go_wp2
  go_ret2
  exact ⟨rfl, rfl⟩

theorem spec_frameB (s : ByteArray) (w : World) (hs : s.size ≤ 60) :
    Calls Try.prog 9 #[.string s] w fun e w' => e = .returned (.tuple #[.string (frameB s), .bool true]) ∧ Below w.heap.size w w' := by
  have hle : ¬ (60 : Int) < (s.size : Int) := by omega
  go_enter Try.func9, Try.ntmps9
  go_wp2_with (go_at_call 16; refine (spec_frame _ _ hs).mono ?_; rintro e w1 ⟨rfl, hb1⟩)
  go_ret2
  exact ⟨rfl, hb1⟩

theorem spec_frameB_no (s : ByteArray) (w : World) (hs : s.size ≤ maxLen) (h : 60 < s.size) :
    Calls Try.prog 9 #[.string s] w fun e w' => e = .returned (.tuple #[.string ByteArray.empty, .bool false]) ∧ w' = w := by
  unfold maxLen at hs
  have hgt : (60 : Int) < (s.size : Int) := by omega
  go_enter Try.func9, Try.ntmps9
  go_wp2
  go_ret2
  exact ⟨rfl, rfl⟩
end Go.Proofs.Ytoelclgpmjecmaa

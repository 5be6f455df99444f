/-
  The specification's EventsBytes returns the frames of the texts of at most 60 good events, and the zero answer of others.
-/
import Derived.Test.YtkcgckobaobogaaDoorToAll
import Derived.Test.YtkcgckobaobogaaDoorFrame
import Derived.Test.YtkcgckobaobogaaDoorSpecRead
namespace Go.Proofs.YtkcgckobaobogaaDoor
open Go.RowKit M
namespace M
def goodE (e : Ev) : Bool := goodB e.id e.ver e.kind e.name
def evT (e : Ev) : ByteArray := evB e.id.toNat e.ver.toNat e.kind.toNat e.name
def cat (es : List Ev) : ByteArray := es.foldl (fun acc e => acc ++ frameB (evT e)) ⟨#[]⟩
theorem cat_take (es : List Ev) (k : Nat) (e : Ev) (h : es[k]? = some e) : cat (es.take (k + 1)) = cat (es.take k) ++ frameB (evT e) := by
  have hk : k < es.length := by
    rcases Nat.lt_or_ge k es.length with h' | h'
    · exact h'
    · rw [List.getElem?_eq_none h'] at h; cases h
  have e1 : es[k] = e := by rw [List.getElem?_eq_getElem hk] at h; simpa using h
  rw [List.take_succ_eq_append_getElem hk, e1]
  unfold cat
  rw [List.foldl_append]; rfl
theorem evT_size {e : Ev} (h : goodE e = true) : (evT e).size ≤ 37 := by
  obtain ⟨⟨a1, a2⟩, ⟨b1, b2⟩, ⟨c1, c2⟩, d⟩ := good_parts h
  exact evB_size _ _ _ _ (by omega) (by omega) (by omega) d
theorem all_take (es : List Ev) (k : Nat) (e : Ev) (h : es[k]? = some e) (ha : (es.take k).all goodE = true) (hg : goodE e = true) : (es.take (k + 1)).all goodE = true := by
  have hk : k < es.length := by
    rcases Nat.lt_or_ge k es.length with h' | h'
    · exact h'
    · rw [List.getElem?_eq_none h'] at h; cases h
  have e1 : es[k] = e := by rw [List.getElem?_eq_getElem hk] at h; simpa using h
  rw [List.take_succ_eq_append_getElem hk, e1, List.all_append, ha]
  simp [hg]
theorem cat_size (es : List Ev) (k : Nat) (ha : (es.take k).all goodE = true) : (cat (es.take k)).size ≤ 40 * k := by
  induction k with
  | zero => simp [cat, ByteArray.size]
  | succ k ih =>
    by_cases hk : k < es.length
    · have he : es[k]? = some es[k] := List.getElem?_eq_getElem hk
      have ht := List.take_succ_eq_append_getElem hk
      rw [ht, List.all_append] at ha
      simp only [Bool.and_eq_true, List.all_cons, List.all_nil, Bool.and_true] at ha
      rw [cat_take es k _ he, ByteArray.size_append, frameB_size]
      have := ih ha.1
      have := evT_size ha.2
      omega
    · rw [List.take_of_length_le (by omega)] at ha ⊢
      have := ih (by rw [List.take_of_length_le (by omega)]; exact ha)
      rw [List.take_of_length_le (by omega)] at this
      omega
def evs (es : List Ev) : Option ByteArray := if es.all goodE = true ∧ es.length ≤ 60 then some (cat es) else none
end M

set_option maxHeartbeats 1000000 in
theorem spec_all (v : Value) (es : List Ev) (w : World) (hv : SliceOf w v es) (hlen : es.length ≤ 1048576) (hnm : ∀ e ∈ es, e.name.size ≤ maxLen) (r : ByteArray) (ok : Bool)
    (hres : (ok = true ∧ evs es = some r) ∨ (ok = false ∧ evs es = none ∧ r = ⟨#[]⟩)) :
    Calls Tryd.prog 18 #[v] w fun e w' => e = .returned (.tuple #[.string r, .bool ok]) ∧ Below w.heap.size w w' := by
  obtain ⟨a, cap, rfl, hr⟩ := hv
  have HR := hide hres
  clear hres
  by_cases he : es = []
  · subst he
    have h1 : r = ⟨#[]⟩ ∧ ok = true := by
      rcases HR.out with ⟨rfl, h⟩ | ⟨_, h, _⟩
      · simp [evs, cat] at h; exact ⟨h.symm, rfl⟩
      · simp [evs] at h
    obtain ⟨rfl, rfl⟩ := h1
    clear hr HR
    go_enter Tryd.func18, Tryd.ntmps18
    go_wp2
    refine wp_loop_rounds 1 ?_; rw [rounds_succ]
    go_wp2
    go_ret2
    exact ⟨rfl, Below.refl _ _⟩
  · obtain ⟨b, off, rfl, hlt, hrow⟩ := hr he
    clear hr he
    go_enter Tryd.func18, Tryd.ntmps18
    go_wp2
    go_loopw [4, 9] (fun x i wr => ∃ k : Nat, k ≤ es.length ∧ i = .int .i64 k ∧ x = .string (cat (es.take k)) ∧ Hid ((es.take k).all goodE = true) ∧ Below w.heap.size w wr) (fun _ i _ => es.length - (intOf i).toNat)
    case atStart => exact ⟨0, Nat.zero_le _, rfl, rfl, hide rfl, Below.refl _ _⟩
    case round =>
      obtain ⟨k, hk, rfl, rfl, HA, hbw⟩ := hrel
      by_cases hlt2 : k < es.length
      · obtain ⟨e, he⟩ : ∃ e, es[k]? = some e := ⟨es[k], List.getElem?_eq_getElem hlt2⟩
        obtain ⟨c0, c1, c2, c3⟩ := (hrow k e he).below hbw hlt
        have hn := hnm e (List.mem_of_getElem? he)
        have HC := hide (cat_take es k e he)
        have hcs := cat_size es k HA.out
        have HX := hide (all_take es k e he HA.out)
        cases hg : goodE e
        · have hno : r = ⟨#[]⟩ ∧ ok = false := by
            rcases HR.out with ⟨rfl, h⟩ | ⟨rfl, _, rfl⟩
            · exfalso
              unfold evs at h
              split at h
              · rename_i h1
                have := List.all_eq_true.1 h1.1 e (List.mem_of_getElem? he)
                rw [hg] at this; cases this
              · cases h
            · exact ⟨rfl, rfl⟩
          obtain ⟨rfl, rfl⟩ := hno
          unfold goodE at hg
          go_wp2_with fail
          refine (spec_good _ _ _ _ _ hn).mono ?_
          rintro e' w2 ⟨rfl, hb2⟩
          rw [hg]
          have hbw2 : Below w.heap.size w w2 := (hbw.alloc hbw.size _).trans (hb2.mono (by rw [World.size_alloc]; have := hbw.size; omega))
          clear c0 c1 c2 c3 hb2
          go_wp2
          go_ret2
          exact ⟨rfl, hbw2⟩
        · have hts := evT_size hg
          obtain ⟨⟨a1, a2⟩, ⟨b1, b2⟩, ⟨q1, q2⟩, q3⟩ := good_parts hg
          have HX2 := hide (HX.out hg)
          unfold goodE at hg
          have HG := hide hg
          clear hg HX
          obtain ⟨eid, ever, ekind, ename⟩ := e
          simp only at a1 a2 b1 b2 q1 q2 q3 c0 c1 c2 c3 hn
          obtain ⟨I, rfl⟩ := Int.eq_ofNat_of_zero_le (show 0 ≤ eid by omega)
          obtain ⟨V, rfl⟩ := Int.eq_ofNat_of_zero_le (show 0 ≤ ever by omega)
          obtain ⟨K, rfl⟩ := Int.eq_ofNat_of_zero_le (show 0 ≤ ekind by omega)
          have hfs : (frameB (evB I V K ename)).size ≤ 40 := by
            rw [frameB_size]; have := evB_size I V K ename (by omega) (by omega) (by omega) q3; omega
          have hts2 : (evB I V K ename).size ≤ 60 := by have := evB_size I V K ename (by omega) (by omega) (by omega) q3; omega
          have za := @ByteArray.size_append
          go_wp2_with fail
          refine (spec_good _ _ _ _ _ hn).mono ?_
          rintro e' w2 ⟨rfl, hb2⟩
          rw [HG.out]
          have B6 := blk_below (heap_alloc_new wr (.cells #[.int .i64 (I : Int), .int .i64 (V : Int), .int .i64 (K : Int), .string ename] 26)) hb2
          have hbw2 : Below w.heap.size w w2 := (hbw.alloc hbw.size _).trans (hb2.mono (by rw [World.size_alloc]; have := hbw.size; omega))
          obtain ⟨⟨f0, f1, f2, f3⟩, -⟩ := blk4 B6
          clear c0 c1 c2 c3 hb2 B6
          go_wp2_with fail
          refine (spec_bytes _ _ _ _ _ (by omega) (by omega) (by omega) q3).mono ?_
          rintro e' w3 ⟨rfl, hb3⟩
          have hbw3 := hbw2.trans (hb3.mono hbw2.size)
          clear hb3 f0 f1 f2 f3
          go_wp2_with fail
          refine (spec_frame _ _ hts2).mono ?_
          rintro e' w4 ⟨rfl, hb4⟩
          have hbw4 := hbw3.trans (hb4.mono hbw3.size)
          clear hb4
          go_wp2
          go_roundw
          case rel => exact ⟨k + 1, by omega, by go_num, by rw [HC.out]; rfl, HX2, hbw4⟩
          case measure => simp [intOf]; omega
      · have hall := HA.out
        rw [List.take_of_length_le (by omega)] at hall
        have het : es.take k = es := List.take_of_length_le (by omega)
        by_cases h60 : es.length ≤ 60
        · have hno : r = cat es ∧ ok = true := by
            rcases HR.out with ⟨rfl, h⟩ | ⟨_, h, _⟩
            · rw [evs, if_pos ⟨hall, h60⟩] at h; exact ⟨by simpa using h.symm, rfl⟩
            · rw [evs, if_pos ⟨hall, h60⟩] at h; cases h
          obtain ⟨rfl, rfl⟩ := hno
          have hgt : ¬ (60 : Int) < (es.length : Int) := by omega
          clear hall
          rw [het]
          go_wp2
          go_ret2
          exact ⟨rfl, hbw⟩
        · have hno : r = ⟨#[]⟩ ∧ ok = false := by
            rcases HR.out with ⟨rfl, h⟩ | ⟨rfl, _, rfl⟩
            · rw [evs, if_neg (fun c => h60 c.2)] at h; cases h
            · exact ⟨rfl, rfl⟩
          obtain ⟨rfl, rfl⟩ := hno
          have hgt : (60 : Int) < (es.length : Int) := by omega
          clear hall
          go_wp2
          go_ret2
          exact ⟨rfl, hbw⟩
end Go.Proofs.YtkcgckobaobogaaDoor

/-
  A strings.Builder that the call has made: what WriteString leaves, and what keeps it.
-/
import Derived.Test.YtkcgckobaobogaaDoorSpecAll
import Derived.Lib.Builder
import Derived.Test.YtkcgckobaobogaaDoorShelf3
namespace Go.Proofs.YtkcgckobaobogaaDoor
open Go.RowKit M
namespace M
theorem owns_below {w w' : World} {B e size n : Nat} {v : Value} {xs : List Value} (h : w.ownsRow B e size v n xs) (hb : Below w.heap.size w w') : w'.ownsRow B e size v n xs := by
  refine ⟨h.1, ?_⟩
  rcases h.2 with h0 | ⟨g, cap, cur, hv, hB, hg, r⟩
  · exact .inl h0
  · exact .inr ⟨g, cap, cur, hv, hB, blk_below hg hb, r⟩
theorem bat_below {w w' : World} {T e B b : Nat} {p : Value} {bs : List Value} (h : Lib.BuilderAt T e B b p bs w) (hb : Below w.heap.size w w') : Lib.BuilderAt T e B b p bs w' := by
  obtain ⟨hB, v, hbk, hown, hne⟩ := h
  exact ⟨hB, v, blk_below hbk hb, owns_below hown hb, hne⟩
theorem isb_below {w w' : World} {T e B b : Nat} {bs : List Value} (h : Lib.IsBuilder T e B b bs w) (hb : Below w.heap.size w w') : Lib.IsBuilder T e B b bs w' :=
  h.elim (fun x => .inl (bat_below x hb)) (fun x => .inr (bat_below x hb))
end M

theorem infoB : (Tryd.prog.info? 60).map (·.size) = some 2 := by kernel_rfl

set_option maxRecDepth 100000 in
theorem copy_used (b : Nat) (w : World) (h0 : w.cell? ⟨b, 0, none⟩ = some (.pointer (some ⟨b, 0, none⟩))) :
    Calls Tryd.prog 53 #[.pointer (some ⟨b, 0, none⟩)] w fun e w' => e = .returned (.tuple #[]) ∧ w' = w := by
  obtain ⟨j, hj, _⟩ := Option.map_eq_some_iff.1 infoB
  go_enter Tryd.func53, Tryd.ntmps53
  go_wp2
  rw [Lib.run_neq_ptr_same w _ Tryd.underlying57 hj]
  go_wp2
  go_end0
  exact ⟨rfl, rfl⟩

set_option maxRecDepth 100000 in
theorem copy_fresh (b : Nat) (w : World) (h0 : w.cell? ⟨b, 0, none⟩ = some (.pointer none)) (hsh : w.shape? b = some (60, 2)) (hfz : w.frozen? ⟨b, 0, none⟩ = false) :
    Calls Tryd.prog 53 #[.pointer (some ⟨b, 0, none⟩)] w fun e w' => e = .returned (.tuple #[]) ∧ w' = w.setCell ⟨b, 0, none⟩ (.pointer (some ⟨b, 0, none⟩)) := by
  obtain ⟨j, hj, hjs⟩ := Option.map_eq_some_iff.1 infoB
  go_enter Tryd.func53, Tryd.ntmps53
  go_wp2
  rw [Lib.run_to_unsafe w ⟨b, 0, none⟩ Tryd.underlying57 Tryd.underlying80 hj (by rw [hjs]; decide) hsh (Nat.zero_lt_succ 1)]
  simp only [Result.andThen]
  rw [Oper.upon_value]
  go_wp2
  rw [run_callFunc_extern Tryd.func61 (by kernel_rfl) (by kernel_rfl) (by kernel_rfl) (e := Extern.AbiNoEscape.same) (by kernel_rfl)]
  rw [Lib.run_noEscape]
  simp only [Result.andThen]
  rw [Oper.upon_value]
  go_wp2
  rw [Lib.run_from_unsafe w ⟨b, 0, none⟩ Tryd.underlying80 Tryd.underlying57 hj hsh (by kernel_rfl)]
  simp only [Result.andThen]
  rw [Oper.upon_value]
  go_wp2
  go_end0
  exact ⟨rfl, rfl⟩

theorem copy_check (B b : Nat) (bs : List Value) (w : World) (h : Lib.IsBuilder 60 5 B b bs w) :
    Calls Tryd.prog 53 #[.pointer (some ⟨b, 0, none⟩)] w fun e w' => e = .returned (.tuple #[]) ∧ Lib.BuilderAt 60 5 B b (.pointer (some ⟨b, 0, none⟩)) bs w' ∧ Below B w w' := by
  rcases h with h | h
  · refine (copy_fresh b w h.cell0 h.shape h.frozen0).mono ?_
    rintro e w' ⟨rfl, rfl⟩
    exact ⟨rfl, h.used _, (Below.refl _ w).setCell (p := ⟨b, 0, none⟩) h.1 _⟩
  · refine (copy_used b w h.cell0).mono ?_
    rintro e w' ⟨rfl, rfl⟩
    exact ⟨rfl, h, Below.refl _ _⟩

set_option maxHeartbeats 1000000 in
set_option maxRecDepth 100000 in
theorem write_string (B b : Nat) (bs : List Value) (s : ByteArray) (w : World) (h : Lib.IsBuilder 60 5 B b bs w) (hlen : bs.length + s.size ≤ 140737488355328) (hBw : B ≤ w.heap.size) :
    Calls Tryd.prog 40 #[.pointer (some ⟨b, 0, none⟩), .string s] w fun e w' => e = .returned (.tuple #[.int .i64 s.size, .nilIface]) ∧ Lib.IsBuilder 60 5 B b (bs ++ Lib.strCells s) w' ∧ Below B w w' := by
  obtain ⟨i0, hi, hz0, hz1, hz2⟩ := info_parts info_u8
  go_enter Tryd.func40, Tryd.ntmps40
  go_wp2_with fail
  refine (copy_check B b bs _ h).mono ?_
  rintro e w1 ⟨rfl, h1, hb1⟩
  obtain ⟨hB, v, hbk, hown, hne⟩ := h1
  have c0 : w1.cell? ⟨b, 0, none⟩ = some (.pointer (some ⟨b, 0, none⟩)) := by rw [Lib.cell_of_heap hbk]; rfl
  have c1 : w1.cell? ⟨b, 1, none⟩ = some v := by rw [Lib.cell_of_heap hbk]; rfl
  go_wp2_with (at_builtin; refine Lib.wpList_append_own_string _ rfl _ _ 58 9 rfl B 5 i0 Tryd.underlying58 Tryd.underlying9 hi hz0 hz1 hz2 _ _ _ rfl hown s rfl ?c3 ?c4 ?c5 ?_)
  case c3 => unfold maxLen; omega
  case c4 => omega
  case c5 => have := hb1.size; omega
  intro v' w2 hown' hgrow _
  have hlt : b < w1.heap.size := by
    rcases Nat.lt_or_ge b w1.heap.size with h' | h'
    · exact h'
    · rw [Array.getElem?_eq_none h'] at hbk; cases hbk
  have hb2 : w2.heap[b]? = some (.cells #[.pointer (some ⟨b, 0, none⟩), v] 60 (0, 0)) := by
    rw [hgrow.block b hlt (fun e => hne e.symm)]; exact hbk
  have d1 : w2.cell? ⟨b, 1, none⟩ = some v := by rw [Lib.cell_of_heap hb2]; rfl
  have f1 : w2.frozen? ⟨b, 1, none⟩ = false := Lib.frozen_of_heap hb2 1
  have hv : ∃ ao n' cap, v' = .slice ao n' cap := by
    rcases hown'.2 with ⟨hv, _⟩ | ⟨g, cap, cur, hv, _⟩
    · exact ⟨_, _, _, hv⟩
    · exact ⟨_, _, _, hv⟩
  have hbel : Below B w w2 := hb1.grown hgrow (by have := hb1.size; omega) (fun k hk => (hown.lt k hk).1)
  obtain ⟨ao, n', cap, rfl⟩ := hv
  have HO := hide hown'
  clear hown hown' hgrow hbk
  go_wp2
  go_ret2
  refine ⟨rfl, .inr ?_, ?_⟩
  · exact Lib.BuilderAt.put (T := 60) (e := 5) hB hb2 (bs' := bs ++ Lib.strCells s) (by simpa [Lib.strCells_length] using HO.out) (by decide)
  · exact hbel.setCell (p := ⟨b, 1, none⟩) hB _

theorem byteCells_str (s : ByteArray) : Lib.strCells s = Lib.byteCells s.data.toList := rfl
theorem byteCells_append (a b : List UInt8) : Lib.byteCells (a ++ b) = Lib.byteCells a ++ Lib.byteCells b := by simp [Lib.byteCells]
theorem byteCells_len (a : List UInt8) : (Lib.byteCells a).length = a.length := by simp [Lib.byteCells]

theorem impl_all_long (v : Value) (es : List Ev) (w : World) (hv : SliceOf w v es) (hlen : es.length ≤ 1048576) (h60 : 60 < es.length) :
    Calls Tryd.prog 20 #[v] w fun e w' => e = .returned (.tuple #[.string ⟨#[]⟩, .bool false]) ∧ Below w.heap.size w w' := by
  obtain ⟨a, cap, rfl, hr⟩ := hv
  have hgt : (60 : Int) < (es.length : Int) := by omega
  go_enter Tryd.func20, Tryd.ntmps20
  go_wp2
  go_ret2
  exact ⟨rfl, Below.refl _ _⟩

set_option maxHeartbeats 1600000 in
theorem impl_all (v : Value) (es : List Ev) (w : World) (hv : SliceOf w v es) (hlen : es.length ≤ 60) (hnm : ∀ e ∈ es, e.name.size ≤ maxLen) (hkk : KK w) (hpt : PT w) (r : ByteArray) (ok : Bool)
    (hres : (ok = true ∧ evs es = some r) ∨ (ok = false ∧ evs es = none ∧ r = ⟨#[]⟩)) :
    Calls Tryd.prog 20 #[v] w fun e w' => e = .returned (.tuple #[.string r, .bool ok]) ∧ Below w.heap.size w w' := by
  obtain ⟨a, cap, rfl, hr⟩ := hv
  have HR := hide hres
  have HK := hide hkk
  have HP := hide hpt
  clear hres hkk hpt
  have hgt : ¬ (60 : Int) < (es.length : Int) := by omega
  have hsb := Lib.fresh_isBuilder 60 5 w
  by_cases he : es = []
  · subst he
    have h1 : r = ⟨#[]⟩ ∧ ok = true := by
      rcases HR.out with ⟨rfl, h⟩ | ⟨_, h, _⟩
      · simp [evs, cat] at h; exact ⟨h.symm, rfl⟩
      · simp [evs] at h
    obtain ⟨rfl, rfl⟩ := h1
    clear hr HR
    go_enter Tryd.func20, Tryd.ntmps20
    go_wp2
    refine wp_loop_rounds 1 ?_; rw [rounds_succ]
    go_wp2_with fail
    refine (Tryd.Builder_String_any w.heap.size w.heap.size [] _ hsb (by simp)).mono ?_
    rintro e w2 ⟨rfl, hb2⟩
    go_wp2
    go_ret2
    exact ⟨rfl, ((Below.refl _ w).alloc (Nat.le_refl _) _).trans hb2⟩
  · obtain ⟨b, off, rfl, hlt, hrow⟩ := hr he
    clear hr he
    go_enter Tryd.func20, Tryd.ntmps20
    go_wp2
    go_loopw [16] (fun i wr => ∃ k : Nat, k ≤ es.length ∧ i = .int .i64 k ∧ Hid ((es.take k).all goodE = true) ∧ Lib.IsBuilder 60 5 w.heap.size w.heap.size (Lib.byteCells (cat (es.take k)).data.toList) wr ∧ Below w.heap.size w wr) (fun i _ => es.length - (intOf i).toNat)
    case atStart => exact ⟨0, Nat.zero_le _, rfl, hide rfl, hsb, (Below.refl _ w).alloc (Nat.le_refl _) _⟩
    case round =>
      obtain ⟨k, hk, rfl, HA, hib, hbw⟩ := hrel
      by_cases hlt2 : k < es.length
      · obtain ⟨e, he⟩ : ∃ e, es[k]? = some e := ⟨es[k], List.getElem?_eq_getElem hlt2⟩
        obtain ⟨c0, c1, c2, c3⟩ := (hrow k e he).below hbw hlt
        have hn := hnm e (List.mem_of_getElem? he)
        have HC := hide (cat_take es k e he)
        have hcs := cat_size es k HA.out
        have HX := hide (all_take es k e he HA.out)
        cases hg : goodE e
        · have hno : r = ⟨#[]⟩ ∧ ok = false := by
            rcases HR.out with ⟨rfl, h⟩ | ⟨rfl, _, rfl⟩
            · exfalso
              unfold evs at h
              split at h
              · rename_i h1
                have := List.all_eq_true.1 h1.1 e (List.mem_of_getElem? he)
                rw [hg] at this; cases this
              · cases h
            · exact ⟨rfl, rfl⟩
          obtain ⟨rfl, rfl⟩ := hno
          unfold goodE at hg
          have HG := hide hg
          clear hg hib hsb
          go_wp2_with fail
          refine (impl_evbytes_no _ _ _ _ _ hn ((HK.out.below hbw).alloc _) HG.out).mono ?_
          rintro e' w2 ⟨rfl, hb2⟩
          have hbw2 : Below w.heap.size w w2 := (hbw.alloc hbw.size _).trans (hb2.mono (by rw [World.size_alloc]; have := hbw.size; omega))
          clear c0 c1 c2 c3 hb2
          go_wp2
          go_ret2
          exact ⟨rfl, hbw2⟩
        · have hts := evT_size hg
          have HX2 := hide (HX.out hg)
          unfold goodE at hg
          have HG := hide hg
          have hts2 : (evT e).size ≤ 60 := by omega
          have hfs : (frameB (evT e)).size ≤ 40 := by rw [frameB_size]; omega
          have hdl : (Lib.byteCells (cat (es.take k)).data.toList).length + (frameB (evT e)).size ≤ 140737488355328 := by
            rw [byteCells_len, ← Lib.size_eq]; omega
          have HIB := hide hib
          clear hg HX hib hsb
          go_wp2_with fail
          refine (impl_evbytes _ _ _ _ _ hn ((HK.out.below hbw).alloc _) ((HP.out.below hbw).alloc _) HG.out).mono ?_
          rintro e' w2 ⟨rfl, hb2⟩
          have hbw2 : Below w.heap.size w w2 := (hbw.alloc hbw.size _).trans (hb2.mono (by rw [World.size_alloc]; have := hbw.size; omega))
          have HI2 := hide (isb_below (isb_below HIB.out ((Below.refl _ wr).alloc (Nat.le_refl _) _)) hb2)
          clear c0 c1 c2 c3 hb2 HIB
          go_wp2_with fail
          refine (impl_frame (evT e) _ hts2).mono ?_
          rintro e' w3 ⟨rfl, hb3⟩
          have hbw3 := hbw2.trans (hb3.mono hbw2.size)
          have HI3 := hide (isb_below HI2.out hb3)
          clear hb3 HI2
          go_wp2_with fail
          refine (write_string w.heap.size w.heap.size _ (frameB (evT e)) _ HI3.out hdl hbw3.size).mono ?_
          rintro e' w4 ⟨rfl, hib4, hb4⟩
          have hbw4 := hbw3.trans hb4
          have HI4 := hide hib4
          clear hib4 HI3 hb4 hdl
          go_wp2
          go_roundw
          case rel =>
            refine ⟨k + 1, by omega, by go_num, HX2, ?_, hbw4⟩
            rw [HC.out, ByteArray.data_append, Array.toList_append, byteCells_append, ← byteCells_str]
            exact HI4.out
          case measure => simp [intOf]; omega
      · have hall := HA.out
        rw [List.take_of_length_le (by omega)] at hall
        have het : es.take k = es := List.take_of_length_le (by omega)
        have hno : r = cat es ∧ ok = true := by
          rcases HR.out with ⟨rfl, h⟩ | ⟨_, h, _⟩
          · rw [evs, if_pos ⟨hall, hlen⟩] at h; exact ⟨by simpa using h.symm, rfl⟩
          · rw [evs, if_pos ⟨hall, hlen⟩] at h; cases h
        obtain ⟨rfl, rfl⟩ := hno
        rw [het] at hib
        have HIB := hide hib
        clear hall hib hsb
        go_wp2_with fail
        refine (Tryd.Builder_String_any w.heap.size w.heap.size _ _ HIB.out hbw.size).mono ?_
        rintro e w2 ⟨rfl, hb2⟩
        have e1 : (⟨(cat es).data.toList.toArray⟩ : ByteArray) = cat es := ba_eq rfl
        rw [e1]
        go_wp2
        go_ret2
        exact ⟨rfl, hbw.trans hb2⟩
end Go.Proofs.YtkcgckobaobogaaDoor

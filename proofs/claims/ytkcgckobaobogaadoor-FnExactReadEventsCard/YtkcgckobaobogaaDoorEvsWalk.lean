/-
  The law of ReadEvents, walked: it returns true and turns nothing that was there. Condition: the tables and the library's variables read as their texts lay them.
-/
import Derived.Test.YtkcgckobaobogaaDoorReadEvs
import Derived.Test.YtkcgckobaobogaaDoorMark
import Derived.Test.YtkcgckobaobogaaDoorAllWalk
namespace Go.Proofs.YtkcgckobaobogaaDoor
open Go.RowKit M

theorem mark_nil (a : Option Addr) (cap : Nat) (w : World) :
    Calls Tryd.prog 24 #[.slice a 0 cap, .int .i64 1] w fun e w' => e = .returned (.int .i64 1) ∧ w' = w := by
  go_enter Tryd.func24, Tryd.ntmps24
  go_wp2
  refine wp_loop_rounds 1 ?_; rw [rounds_succ]
  go_wp2
  go_ret
  exact ⟨rfl, rfl⟩

theorem mark_any (v : Value) (es : List Ev) (B : Nat) (w : World) (h : w.ownsRow B 26 4 v es.length (cellsE es)) (h60 : es.length ≤ 60) (hB : B ≤ w.heap.size) :
    Calls Tryd.prog 24 #[v, .int .i64 1] w fun e w' => e = .returned (.int .i64 ((4 * es.length + 1 : Nat) : Int)) ∧ SliceOf w' v (marks es.length) ∧ Below B w w' := by
  by_cases he : es = []
  · subst he
    obtain ⟨a, cap, rfl⟩ := own_form h
    refine (mark_nil a cap w).mono ?_
    rintro e w' ⟨rfl, rfl⟩
    exact ⟨rfl, ⟨a, cap, rfl, fun h => absurd rfl h⟩, Below.refl _ _⟩
  · rcases h.2 with ⟨_, h0⟩ | ⟨g, cap, cur, rfl, hBg, hg, hn, hc, hs, ht⟩
    · exact absurd (List.eq_nil_of_length_eq_zero h0) he
    · have hcur : cur = (cellsE es ++ cur.toList.drop (es.length * 4)).toArray := by
        apply Array.toList_inj.1
        rw [← ht]
        simp
      rw [hcur] at hg
      refine (mark_all g cap es _ w hg h60).mono ?_
      rintro e w' ⟨rfl, hb, hgr⟩
      refine ⟨rfl, ⟨_, cap, by rw [marks_len], fun _ => ⟨g, 0, rfl, ?_, row_of_block hb⟩⟩, ?_⟩
      · rcases Nat.lt_or_ge g w'.heap.size with h' | h'
        · exact h'
        · rw [Array.getElem?_eq_none h'] at hb; cases hb
      · exact (Below.refl B w).grown hgr hB (fun k hk => by cases hk; exact hBg)

set_option maxHeartbeats 1600000 in
theorem law_evs (s : ByteArray) (w : World) (hkk : KK w) (hpt : PT w) (hlb : LB w) :
    Calls Tryd.prog 7 #[.string s] w fun e w' => e = .returned (.bool true) ∧ Below w.heap.size w w' := by
  by_cases hl : (1048576 : Int) < (s.size : Int)
  · go_enter Tryd.func7, Tryd.ntmps7
    go_wp2
    go_ret
    exact ⟨rfl, Below.refl _ _⟩
  · obtain ⟨es, b, hr, h60, hend⟩ := reads_some s 60 0
    have hs2 : s.size ≤ 1048576 := by omega
    have hlen : es.length ≤ 1048576 := by omega
    have HR := hide hr
    have HE := hide hend
    have HK := hide hkk
    have HP := hide hpt
    have HL := hide hlb
    have hm0 : ¬ (((4 * es.length + 1 : Nat) : Int) < 0) := by omega
    have hbb : ((b : Int) != (b : Int)) = false := by simp
    have hmm : ((((4 * es.length + 1 : Nat) : Int)) != ((4 * es.length + 1 : Nat) : Int)) = false := by simp
    clear hr hend hkk hpt hlb
    generalize hm : 4 * es.length + 1 = m at *
    have HM := hide hm
    clear hm
    go_enter Tryd.func7, Tryd.ntmps7
    go_wp2_with fail
    refine (spec_reads s es b _ hs2 HR.out h60 HE.out).mono ?_
    rintro e w1 ⟨⟨v1, rfl, ho1⟩, hb1⟩
    obtain ⟨a1, c1, rfl⟩ := own_form ho1
    have HS1 := hide (own_slice ho1)
    clear ho1
    go_wp2_with fail
    refine (impl_reads s es b _ hs2 HR.out h60 HE.out (HK.out.below hb1) (HP.out.below hb1) (HL.out.below hb1)).mono ?_
    rintro e w2 ⟨⟨v2, rfl, ho2⟩, hb12⟩
    obtain ⟨a2, c2, rfl⟩ := own_form ho2
    have HO2 := hide ho2
    clear ho2
    go_wp2_with fail
    refine (eq_all _ _ es _ (own_slice HO2.out) (HS1.out.below hb12) hlen eq_ev).mono ?_
    rintro e w3 ⟨rfl, hb23⟩
    have hb13 := hb12.trans (hb23.mono hb12.size)
    have HO3 := hide (owns_below HO2.out hb23)
    clear HO2 hb23 hb12
    go_wp2_with fail
    refine (mark_any _ es w1.heap.size _ HO3.out h60 hb13.size).mono ?_
    rintro e w4 ⟨rfl, hs4, hb34⟩
    rw [HM.out]
    have hb14 := hb13.trans hb34
    have HS4 := hide hs4
    clear HO3 hs4 hb13 hb34
    go_wp2_with fail
    refine (held_all _ es.length _ HS4.out h60).mono ?_
    rintro e w5 ⟨rfl, hb45⟩
    rw [HM.out]
    have hb15 := hb14.trans (hb45.mono hb14.size)
    have HS5 := hide (HS4.out.below hb45)
    have hbw5 : Below w.heap.size w w5 := hb1.trans (hb15.mono hb1.size)
    clear HS4 hb45 hb14
    go_wp2_with fail
    refine (impl_reads s es b _ hs2 HR.out h60 HE.out (HK.out.below hbw5) (HP.out.below hbw5) (HL.out.below hbw5)).mono ?_
    rintro e w6 ⟨⟨v6, rfl, ho6⟩, hb56⟩
    obtain ⟨a6, c6, rfl⟩ := own_form ho6
    have HO6 := hide ho6
    have hb16 := hb15.trans (hb56.mono hb15.size)
    have HS6 := hide (HS5.out.below hb56)
    clear ho6 HS5 hb15 hb56
    go_wp2_with fail
    refine (eq_all _ _ es _ (own_slice HO6.out) (HS1.out.below hb16) hlen eq_ev).mono ?_
    rintro e w7 ⟨rfl, hb67⟩
    have hb17 := hb16.trans (hb67.mono hb16.size)
    have HS7 := hide (HS6.out.below hb67)
    clear HS6 HO6 hb67 hb16
    go_wp2_with fail
    refine (held_all _ es.length _ HS7.out h60).mono ?_
    rintro e w8 ⟨rfl, hb78⟩
    rw [HM.out]
    have hb18 := hb17.trans (hb78.mono hb17.size)
    have hbw8 : Below w.heap.size w w8 := hb1.trans (hb18.mono hb1.size)
    clear HS7 hb78 hb17 hb18
    go_wp2
    go_ret
    exact ⟨rfl, hbw8⟩
end Go.Proofs.YtkcgckobaobogaaDoor

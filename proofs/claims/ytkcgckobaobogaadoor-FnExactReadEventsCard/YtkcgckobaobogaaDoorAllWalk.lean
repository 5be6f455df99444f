/-
  The law of EventsBytes, walked: it returns true and turns nothing that was there. Condition: the tables knownKinds and uint64pow10 read as the texts lay them.
-/
import Derived.Test.YtkcgckobaobogaaDoorBuild
import Derived.Test.YtkcgckobaobogaaDoorRead
namespace Go.Proofs.YtkcgckobaobogaaDoor
open Go.RowKit M

theorem eq_ev (e : Ev) (w : World) : Calls Tryd.prog 16 #[e.v, e.v] w fun e w' => e = .returned (.bool true) ∧ Below w.heap.size w w' := eq_event e.id e.ver e.kind e.name w

theorem evs_cases (es : List Ev) : ∃ (r : ByteArray) (ok : Bool), (ok = true ∧ evs es = some r) ∨ (ok = false ∧ evs es = none ∧ r = ⟨#[]⟩) := by
  cases h : evs es with
  | none => exact ⟨⟨#[]⟩, false, .inr ⟨rfl, rfl, rfl⟩⟩
  | some r => exact ⟨r, true, .inl ⟨rfl, rfl⟩⟩

theorem impl_any (v : Value) (es : List Ev) (w : World) (hv : SliceOf w v es) (hlen : es.length ≤ 1048576) (hnm : ∀ e ∈ es, e.name.size ≤ maxLen) (hkk : KK w) (hpt : PT w) (r : ByteArray) (ok : Bool)
    (hres : (ok = true ∧ evs es = some r) ∨ (ok = false ∧ evs es = none ∧ r = ⟨#[]⟩)) :
    Calls Tryd.prog 20 #[v] w fun e w' => e = .returned (.tuple #[.string r, .bool ok]) ∧ Below w.heap.size w w' := by
  by_cases h60 : es.length ≤ 60
  · exact impl_all v es w hv h60 hnm hkk hpt r ok hres
  · have hn : evs es = none := by unfold evs; rw [if_neg (fun c => h60 c.2)]
    rcases hres with ⟨_, h⟩ | ⟨rfl, _, rfl⟩
    · rw [hn] at h; cases h
    · exact impl_all_long v es w hv hlen (by omega)

set_option maxHeartbeats 1000000 in
theorem law_all (v : Value) (es : List Ev) (w : World) (hv : SliceOf w v es) (hml : es.length ≤ maxLen) (hnm : ∀ e ∈ es, e.name.size ≤ maxLen) (hkk : KK w) (hpt : PT w) :
    Calls Tryd.prog 6 #[v] w fun e w' => e = .returned (.bool true) ∧ Below w.heap.size w w' := by
  have HV := hide hv
  have HK := hide hkk
  have HP := hide hpt
  clear hkk hpt
  by_cases hl : es.length + tot es ≤ 1048576
  · obtain ⟨r, ok, hres⟩ := evs_cases es
    have HR := hide hres
    have hlen : es.length ≤ 1048576 := by omega
    have hge : ¬ (1048576 - (es.length : Int) - ((tot es : Nat) : Int) < 0) := by omega
    obtain ⟨a, cap, rfl, -⟩ := hv
    clear hres
    go_enter Tryd.func6, Tryd.ntmps6
    go_wp2_with fail
    refine (sz_all_yes _ es _ HV.out hl).mono ?_
    rintro e w1 ⟨rfl, hb1⟩
    go_wp2_with fail
    refine (to_all _ es _ (HV.out.below hb1) hlen).mono ?_
    rintro e w2 ⟨⟨v2, rfl, hs2⟩, hb⟩
    have hb2 := hb1.trans (hb.mono hb1.size)
    have HS2 := hide hs2
    clear hb hs2 hb1
    have hv2 : ∃ a2 n2 c2, v2 = .slice a2 n2 c2 := by obtain ⟨a2, c2, h, _⟩ := HS2.out; exact ⟨a2, _, c2, h⟩
    obtain ⟨a2, n2, cc2, rfl⟩ := hv2
    go_wp2_with fail
    refine (spec_all _ es _ HS2.out hlen hnm r ok HR.out).mono ?_
    rintro e w3 ⟨rfl, hb⟩
    have hb3 := hb2.trans (hb.mono hb2.size)
    clear hb HS2 hb2
    go_wp2_with fail
    refine (to_all _ es _ (HV.out.below hb3) hlen).mono ?_
    rintro e w4 ⟨⟨v4, rfl, hs4⟩, hb⟩
    have hb4 := hb3.trans (hb.mono hb3.size)
    have HS4 := hide hs4
    clear hb hs4 hb3
    have hv4 : ∃ a4 n4 c4, v4 = .slice a4 n4 c4 := by obtain ⟨a4, c4, h, _⟩ := HS4.out; exact ⟨a4, _, c4, h⟩
    obtain ⟨a4, n4, cc4, rfl⟩ := hv4
    go_wp2_with fail
    refine (impl_any _ es _ HS4.out hlen hnm (HK.out.below hb4) (HP.out.below hb4) r ok HR.out).mono ?_
    rintro e w5 ⟨rfl, hb⟩
    have hb5 := hb4.trans (hb.mono hb4.size)
    have HS5 := hide (HS4.out.below hb)
    clear hb HS4 hb4
    have hneq : (ok != ok) = false := by simp
    go_wp2_with fail
    refine (to_all _ es _ (HV.out.below hb5) hlen).mono ?_
    rintro e w6 ⟨⟨v6, rfl, hs6⟩, hb⟩
    have hb6 := hb5.trans (hb.mono hb5.size)
    have HS6 := hide hs6
    have HS5b := hide (HS5.out.below hb)
    clear hb hs6 hb5 HS5
    have hv6 : ∃ a6 n6 c6, v6 = .slice a6 n6 c6 := by obtain ⟨a6, c6, h, _⟩ := HS6.out; exact ⟨a6, _, c6, h⟩
    obtain ⟨a6, n6, cc6, rfl⟩ := hv6
    go_wp2_with fail
    refine (eq_all _ _ es _ HS5b.out HS6.out hlen eq_ev).mono ?_
    rintro e w7 ⟨rfl, hb⟩
    have hb7 := hb6.trans (hb.mono hb6.size)
    clear hb HS6 HS5b hb6
    go_wp2
    go_ret
    exact ⟨rfl, hb7⟩
  · obtain ⟨a, cap, rfl, -⟩ := hv
    have hge : ((-1 : Int) < 0) := by omega
    go_enter Tryd.func6, Tryd.ntmps6
    go_wp2_with fail
    refine (sz_all_no _ es _ HV.out hml hnm (by omega)).mono ?_
    rintro e w1 ⟨rfl, hb1⟩
    go_wp2
    go_ret
    exact ⟨rfl, hb1⟩
end Go.Proofs.YtkcgckobaobogaaDoor

/-
  Whether a history is told by one of some branches, HasHistory and EventsIn in both texts. Condition of the program's: the table knownKinds reads as its text lays it.
-/
import Derived.Test.YtcbkeabfnldmhaaGreatDoorJoin29
namespace Go.Proofs.YtcbkeabfnldmhaaGreatDoor
open Go.RowKit M
open Go.Sort (grow)
namespace M
theorem GdT.fine {bs : Brs} (h : GdT bs) : ∀ b ∈ bs, b.length ≤ 60 := fun b hb => (h.2.1 b hb).short
theorem GdT.pl {bs : Brs} (h : GdT bs) : ∀ b ∈ bs, Pl b := fun b hb => (h.2.1 b hb).pl
/-- The closure of isTold over a history that lies in block g. -/
abbrev toldF (g : Nat) : Value := .func (Fn.func 100) #[] #[.pointer (some ⟨g, 0, none⟩)]
end M
set_option maxHeartbeats 1000000 in
theorem told_in (v u : Value) (h b : Evs) (g : Nat) (w : World) (hc : w.cell? ⟨g, 0, none⟩ = some v) (hg : g < w.heap.size) (hv : SliceOf w v h) (hu : SliceOf w u b) (s1 : h.length ≤ 1048576) (s2 : b.length ≤ 1048576) (p1 : Pl h) (p2 : Pl b) :
    Calls Tryz.prog 100 #[.agg #[u], .pointer (some ⟨g, 0, none⟩)] w fun e w' => e = .returned (.bool (com h b == h.length)) ∧ Below w.heap.size w w' := by
  have hal := (Below.refl w.heap.size w).alloc (Nat.le_refl _) (.cells #[u] 55)
  have HV := hide (hv.below hal)
  have HU := hide (hu.below hal)
  have hc2 := (hal.cell (p := ⟨g, 0, none⟩) hg).trans hc
  have H1 := hide p1
  have H2 := hide p2
  obtain ⟨a1, c1, rfl⟩ := hv.form
  obtain ⟨a2, c2, rfl⟩ := hu.form
  obtain ⟨z, hz⟩ : ∃ z, (com h b == h.length) = z := ⟨_, rfl⟩
  rw [hz]
  have HZ := hide hz
  clear hv hu hc hz p1 p2
  go_enter Tryz.func100, Tryz.ntmps100
  go_wp2_with fail
  refine (impl_beg _ _ h b _ HV.out HU.out s1 s2 H1.out H2.out).mono ?_
  rw [HZ.out]
  rintro e w2 ⟨rfl, hb2⟩
  have hbw := hal.trans (hb2.mono hal.size)
  clear hb2 hal
  go_wp2
  go_ret
  exact ⟨rfl, hbw⟩
set_option maxRecDepth 20000 in
set_option maxHeartbeats 2000000 in
theorem told_index (v u : Value) (bs : Brs) (h : Evs) (g : Nat) (w : World) (hv : BrsOf w v bs) (hc : w.cell? ⟨g, 0, none⟩ = some u) (hg : g < w.heap.size) (hu : SliceOf w u h) (hf : FineS bs) (s1 : h.length ≤ 1048576) (p1 : Pl h) (p2 : ∀ b ∈ bs, Pl b) :
    Calls Tryz.prog 113 #[v, toldF g] w fun e w' => (∃ r : Int, e = .returned (.int .i64 r) ∧ (0 ≤ r ↔ told bs h = true)) ∧ Below w.heap.size w w' := by
  have HV := hide hv
  have HC := hide hc
  have HU := hide hu
  have HF := hide hf
  have HP1 := hide p1
  have HP2 := hide p2
  have hn := hf.1
  obtain ⟨a, cap, rfl⟩ := hv.form
  clear hv hc hu hf p1 p2
  go_enter Tryz.func113, Tryz.ntmps113
  go_wp2
  go_loopw [8] (fun y wr => ∃ k : Nat, k ≤ bs.length ∧ y = .int .i64 (k : Int) ∧ Hid (∀ i b, i < k → bs[i]? = some b → com h b ≠ h.length) ∧ Below w.heap.size w wr) (fun y _ => bs.length - (intOf y).toNat)
  case atStart => exact ⟨0, Nat.zero_le _, rfl, hide (fun i b h => absurd h (Nat.not_lt_zero _)), Below.refl _ _⟩
  case round =>
    obtain ⟨k, hk, rfl, HP, hbw⟩ := hrel
    by_cases hlt : k < bs.length
    · obtain ⟨es, he⟩ : ∃ e, bs[k]? = some e := ⟨bs[k], List.getElem?_eq_getElem hlt⟩
      obtain ⟨b2, off, rfl, hlg, a2, c2, hcc, hs⟩ := HV.out.at he
      have hcw := (hbw.cell (p := ⟨b2, off + k, none⟩) hlg).trans hcc
      have hk0 : (0 : Int) ≤ (k : Int) := by omega
      have hk1 : (k : Int) < (bs.length : Int) := by omega
      have HH := hide (told_in u (.slice a2 es.length c2) h es g wr ((hbw.cell (p := ⟨g, 0, none⟩) hg).trans HC.out) (Nat.lt_of_lt_of_le hg hbw.size) (HU.out.below hbw) (hs.below hbw) s1 (HF.out.at he).1 HP1.out (HP2.out es (List.mem_of_getElem? he)))
      have HE := hide he
      clear hcc hs he
      by_cases hz : com h es = h.length
      · have hzb : (com h es == h.length) = true := by simp [hz]
        rw [hzb] at HH
        have HT := hide (told_iff.2 ⟨es, List.mem_of_getElem? HE.out, hz⟩)
        clear hz hzb HP HF
        go_wp2_with fail
        refine HH.out.mono ?_
        rintro e w2 ⟨rfl, hb2⟩
        have hbw2 := hbw.trans (hb2.mono hbw.size)
        clear HH hb2
        go_wp2
        go_ret
        exact ⟨⟨_, rfl, fun _ => HT.out, fun _ => by omega⟩, hbw2⟩
      · have hzb : (com h es == h.length) = false := by simp [hz]
        rw [hzb] at HH
        have HP2' := hide (show ∀ i b, i < k + 1 → bs[i]? = some b → com h b ≠ h.length from fun i b hi hb => by
          by_cases c : i = k
          · subst c; rw [HE.out] at hb; simp only [Option.some.injEq] at hb; subst hb; exact hz
          · exact HP.out i b (by omega) hb)
        clear hz hzb HP HF
        go_wp2_with fail
        refine HH.out.mono ?_
        rintro e w2 ⟨rfl, hb2⟩
        have hbw2 := hbw.trans (hb2.mono hbw.size)
        clear HH hb2
        go_wp2
        exact ⟨⟨k + 1, by omega, by go_num, HP2', hbw2⟩, by simp [intOf]; omega⟩
    · obtain rfl : k = bs.length := by omega
      have HT := hide (show ¬ told bs h = true from fun ht => by
        obtain ⟨b, hb, hc⟩ := told_iff.1 ht
        obtain ⟨i, hi, rfl⟩ := List.mem_iff_getElem.1 hb
        exact HP.out i _ hi (List.getElem?_eq_getElem hi) hc)
      clear HV HP HF
      go_wp2
      go_ret
      exact ⟨⟨_, rfl, fun h => by omega, fun h => absurd h HT.out⟩, hbw⟩
set_option maxHeartbeats 1000000 in
theorem is_told (v u : Value) (bs : Brs) (h : Evs) (w : World) (hv : BrsOf w v bs) (hu : SliceOf w u h) (hf : FineS bs) (s1 : h.length ≤ 1048576) (p1 : Pl h) (p2 : ∀ b ∈ bs, Pl b) :
    Calls Tryz.prog 69 #[v, u] w fun e w' => e = .returned (.bool (told bs h)) ∧ Below w.heap.size w w' := by
  have hal := (Below.refl w.heap.size w).alloc (Nat.le_refl _) (.cells #[u] 34)
  have HV := hide (hv.below hal)
  have HU := hide (hu.below hal)
  have HC := hide (one_new w u 34)
  have HF := hide hf
  have HP1 := hide p1
  have HP2 := hide p2
  obtain ⟨a1, c1, rfl⟩ := hv.form
  obtain ⟨a2, c2, rfl⟩ := hu.form
  clear hv hu hf p1 p2
  obtain ⟨z, hz⟩ : ∃ z, told bs h = z := ⟨_, rfl⟩
  have HI := hide (told_index (.slice a1 bs.length c1) (.slice a2 h.length c2) bs h w.heap.size _ HV.out HC.out (by simp) HU.out HF.out s1 HP1.out HP2.out)
  rw [hz] at HI ⊢
  clear hz
  have hbI : Calls Tryz.prog 99 #[.slice a1 bs.length c1, toldF w.heap.size] (w.alloc (.cells #[.slice a2 h.length c2] 34)) fun e w' => e = .returned (.bool z) ∧ Below (w.alloc (.cells #[.slice a2 h.length c2] 34)).heap.size (w.alloc (.cells #[.slice a2 h.length c2] 34)) w' := by
    clear HV HU HC HF HP1 HP2 hal
    generalize w.alloc (.cells #[.slice a2 h.length c2] 34) = W at *
    go_enter Tryz.func99, Tryz.ntmps99
    go_wp2_with fail
    refine HI.out.mono ?_
    rintro e w2 ⟨⟨x, rfl, hx⟩, hb2⟩
    have HX := hide (show decide (0 ≤ x) = z by rw [Bool.eq_iff_iff, decide_eq_true_eq, hx])
    clear hx HI
    go_wp2
    go_ret
    exact ⟨by rw [← HX.out]; rfl, hb2⟩
  have HCF := hide hbI
  clear hbI HI HV HU HC HF HP1 HP2
  go_enter Tryz.func69, Tryz.ntmps69
  go_wp2_with fail
  refine HCF.out.mono ?_
  rintro e w2 ⟨rfl, hb2⟩
  have hbw := hal.trans (hb2.mono hal.size)
  clear hb2 hal HCF
  go_wp2
  go_ret
  exact ⟨rfl, hbw⟩
set_option maxHeartbeats 2000000 in
theorem impl_has (v u : Value) (bs : Brs) (h : Evs) (b1 b2 : Bool) (w : World) (hv : BrsOf w v bs) (hu : SliceOf w u h) (hf : FineS bs) (s2 : SmE h) (hkk : KK w) (h1 : BP b1 (GdT bs)) (h2 : BP b2 (Tl h)) :
    Calls Tryz.prog 30 #[.agg #[v], u] w fun e w' => e = .returned (.tuple #[.bool (b1 && b2 && told bs h), .bool (b1 && b2)]) ∧ Below w.heap.size w w' := by
  have hal := (Below.refl w.heap.size w).alloc (Nat.le_refl _) (.cells #[v] 30)
  have HV := hide (hv.below hal)
  have HU := hide (hu.below hal)
  have HC := hide (show M.One (w.alloc (.cells #[v] 30)) w.heap.size v 30 from heap_alloc_new w _)
  have HF := hide hf
  have HS2 := hide s2
  have H1 := hide h1
  have H2 := hide h2
  have HK := hide (hkk.below hal)
  obtain ⟨a1, c1, rfl⟩ := hv.form
  obtain ⟨a2, c2, rfl⟩ := hu.form
  have d0 := HC.out.cell
  clear hv hu hf s2 h1 h2 hkk
  cases b1
  · go_enter Tryz.func30, Tryz.ntmps30
    go_wp2_with fail
    refine (impl_gt _ bs false _ HV.out HF.out HK.out H1.out).mono ?_
    rintro e w2 ⟨rfl, hb2⟩
    have hbw := hal.trans (hb2.mono hal.size)
    go_wp2
    go_ret2
    exact ⟨rfl, hbw⟩
  · have HG := hide (H1.out.1 rfl)
    cases b2
    · go_enter Tryz.func30, Tryz.ntmps30
      go_wp2_with fail
      refine (impl_gt _ bs true _ HV.out HF.out HK.out H1.out).mono ?_
      rintro e w2 ⟨rfl, hb2⟩
      go_wp2_with fail
      refine (impl_tl _ h false _ (HU.out.below hb2) HS2.out.1 HS2.out.2 (HK.out.below hb2) H2.out).mono ?_
      rintro e w3 ⟨rfl, hb3⟩
      have hbw := (hal.trans (hb2.mono hal.size)).trans (hb3.mono (Nat.le_trans hal.size hb2.size))
      go_wp2
      go_ret2
      exact ⟨rfl, hbw⟩
    · have HT := hide (H2.out.1 rfl)
      obtain ⟨z, hz⟩ : ∃ z, told bs h = z := ⟨_, rfl⟩
      rw [hz]
      have HZ := hide hz
      clear hz
      go_enter Tryz.func30, Tryz.ntmps30
      go_wp2_with fail
      refine (impl_gt _ bs true _ HV.out HF.out HK.out H1.out).mono ?_
      rintro e w2 ⟨rfl, hb2⟩
      go_wp2_with fail
      refine (impl_tl _ h true _ (HU.out.below hb2) HS2.out.1 HS2.out.2 (HK.out.below hb2) H2.out).mono ?_
      rintro e w3 ⟨rfl, hb3⟩
      have hba := hb2.trans (hb3.mono hb2.size)
      have hbw := hal.trans (hba.mono hal.size)
      clear d0 hb2 hb3
      have d0 := (HC.out.down hba).cell
      go_wp2_with fail
      refine (is_told _ _ bs h _ (HV.out.below hba) (HU.out.below hba) HF.out HS2.out.1 HT.out.pl HG.out.pl).mono ?_
      rw [HZ.out]
      rintro e w4 ⟨rfl, hb4⟩
      have hbz := hbw.trans (hb4.mono hbw.size)
      clear hb4 hbw hba d0
      go_wp2
      go_ret2
      exact ⟨rfl, hbz⟩
end Go.Proofs.YtcbkeabfnldmhaaGreatDoor

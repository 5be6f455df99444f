/-
  All of two words of domains put together, in the program's text.
-/
import Derived.Test.YtgccoognklolbaaDmN
namespace Go.Proofs.Ytgccoognklolbaa
open Go.RowKit M
open Go.Sort (grow)
namespace M
/-- What is put together behind j words. -/
def pre (la lc : Dms) (j : Nat) : Dms := if j = 0 then [] else if j = 1 then la else la ++ lc
/-- Texts that can be copied. -/
def Fits (l : Dms) : Prop := ∀ d ∈ l, d.nm.size ≤ 281474976710656 ∧ d.nt.size ≤ 281474976710656
theorem GoodDm.fits {l : Dms} (h : GoodDm l) : Fits l := fun d hd => by
  have h1 := h.good d hd
  have h2 := h1.nms
  have h3 := h1.2.2.2
  exact ⟨by omega, by omega⟩
theorem rid_fo (b : Dms) : Rise (nms (fo [] b)) := (RiD.fo (b := b) (l := []) List.Pairwise.nil).rise
theorem fo_snoc (p w : Dms) (k : Nat) (d : Dm) (h : w[k]? = some d) : fo [] (p ++ w.take (k + 1)) = ins (fo [] (p ++ w.take k)) d := by
  rw [take_snocA h, ← List.append_assoc, fo_app, fo_one]
theorem fo_len0 (b : Dms) : (fo [] b).length ≤ b.length := by have := fo_len b []; simpa using this
end M
set_option maxRecDepth 20000 in
set_option maxHeartbeats 4000000 in
theorem put_together (bw : Nat) (va vc : Value) (la lc : Dms) (w : World) (ha : DomsOf w va la) (hc : DomsOf w vc lc) (hbw : bw < w.heap.size) (c0 : w.cell? ⟨bw, 0, none⟩ = some va) (c1 : w.cell? ⟨bw, 1, none⟩ = some vc)
    (hla : la.length ≤ 1000) (hlc : lc.length ≤ 1000) (hfa : Fits la) (hfc : Fits lc) :
    Calls Try.prog 50 #[.slice (some ⟨bw, 0, none⟩) 2 2] w fun e w' => (∃ a n c, e = .returned (.slice a n c) ∧ OwnD w' w.heap.size (.slice a n c) (fo [] (la ++ lc))) ∧ Below w.heap.size w w' := by
  have HWD := hide (show ∀ j, j < 2 → ∃ (vw : Value) (lw : Dms), w.cell? ⟨bw, j, none⟩ = some vw ∧ DomsOf w vw lw ∧ Fits lw ∧ lw.length ≤ 1000 ∧ (pre la lc j).length ≤ 1000 ∧ pre la lc (j + 1) = pre la lc j ++ lw from fun j hj => by
    rcases (show j = 0 ∨ j = 1 by omega) with e | e
    · subst e; exact ⟨va, la, c0, ha, hfa, hla, by simp [pre], by simp [pre]⟩
    · subst e; exact ⟨vc, lc, c1, hc, hfc, hlc, by simpa [pre] using hla, by simp [pre]⟩)
  have HEND := hide (show pre la lc 2 = la ++ lc from rfl)
  clear ha hc c0 c1 hfa hfc hla hlc
  have HP0 := hide (show pre la lc 0 = [] from rfl)
  generalize pre la lc = P at *
  go_enter Try.func50, Try.ntmps50
  go_wp2
  go_loopw [3, 10] (fun o i wr => ∃ (j n c : Nat) (ao : Option Addr), j ≤ 2 ∧ i = .int .i64 j ∧ o = .slice ao n c ∧ Hid (OwnD wr w.heap.size (.slice ao n c) (fo [] (P j))) ∧ Below w.heap.size w wr) (fun _ i _ => 2 - (intOf i).toNat)
  case atStart => exact ⟨0, 0, 0, none, Nat.zero_le _, rfl, rfl, hide (by rw [HP0.out]; exact OwnD.nil _ _), Below.refl _ _⟩
  case round =>
    rename World => wo
    obtain ⟨j, n, c, ao, hj, rfl, rfl, HO, hbo⟩ := hrel
    by_cases hlt : j < 2
    · obtain ⟨vw, lw, cw, hw, hfw, hlw, hlp, hnx⟩ := HWD.out j hlt
      have cwo := (hbo.cell (p := ⟨bw, j, none⟩) hbw).trans cw
      obtain ⟨aw, capw, rfl, hrw⟩ := hw
      have HRW := hide hrw
      have HF := hide hfw
      have HNX := hide hnx
      have hi0 : (0 : Int) ≤ (j : Int) := by omega
      have hi1 : (j : Int) < 2 := by omega
      clear cw hrw hfw hnx HWD HEND HP0
      go_wp2
      go_loopw [3, 16] (fun o i wr => ∃ (k n c : Nat) (ao : Option Addr), k ≤ lw.length ∧ i = .int .i64 k ∧ o = .slice ao n c ∧ Hid (OwnD wr w.heap.size (.slice ao n c) (fo [] (P j ++ lw.take k))) ∧ Below w.heap.size w wr) (fun _ i _ => lw.length - (intOf i).toNat)
      case atStart => exact ⟨0, n, c, ao, Nat.zero_le _, rfl, rfl, hide (by simpa using HO.out), hbo⟩
      case round =>
        obtain ⟨k, n2, c2, ao2, hk, rfl, rfl, HO2, hbr⟩ := hrel
        clear HO hbo cwo
        by_cases hlt2 : k < lw.length
        · obtain ⟨b, off, rfl, hb, hrow⟩ := HRW.out (by omega)
          obtain ⟨x, hx⟩ : ∃ x, lw[k]? = some x := ⟨lw[k], List.getElem?_eq_getElem hlt2⟩
          obtain ⟨e0, e1, e2⟩ := (hrow k x hx).below hbr hb
          have HXF := hide (HF.out x (List.mem_of_getElem? hx))
          have HSN := hide (fo_snoc (P j) lw k x hx)
          have hd1 := (Below.refl wr.heap.size wr).alloc (Nat.le_refl _) (.cells #[.string x.nm, .int .i64 x.ver, .string x.nt] 58)
          have hbr1 := hbr.trans (hd1.mono hbr.size)
          have HO3 := hide (HO2.out.down hd1)
          have hll : (fo [] (P j ++ lw.take k)).length ≤ 1048576 := by
            have := fo_len0 (P j ++ lw.take k)
            rw [List.length_append, List.length_take] at this
            omega
          have hi2 : (0 : Int) ≤ (k : Int) := by omega
          have hi3 : (k : Int) < (lw.length : Int) := by omega
          clear hrow hx HRW HF hd1 HO2
          go_wp2_with fail
          refine (put_dom _ (fo [] (P j ++ lw.take k)) x w.heap.size _ HO3.out (rid_fo _) hll hbr1.size HXF.out.1 HXF.out.2).mono ?_
          rintro e w4 ⟨⟨a4, n4, c4, rfl, hO4⟩, hb4⟩
          have hbr4 := hbr1.trans hb4
          have HO4 := hide (show OwnD w4 w.heap.size (.slice a4 n4 c4) (fo [] (P j ++ lw.take (k + 1))) from by rw [HSN.out]; exact hO4)
          clear hO4 hb4 HO3 HSN e0 e1 e2 HXF hll hbr hbr1
          go_wp2
          go_roundw
          case rel => exact ⟨k + 1, n4, c4, a4, by omega, by go_num, rfl, HO4, hbr4⟩
          case measure => simp [intOf]; omega
        · have HO3 := hide (show OwnD wr w.heap.size (.slice ao2 n2 c2) (fo [] (P (j + 1))) from by
            have := HO2.out
            rw [List.take_of_length_le (by omega)] at this
            rw [HNX.out]; exact this)
          clear HRW HF HO2
          go_wp2
          go_roundw
          case rel => exact ⟨j + 1, n2, c2, ao2, by omega, by go_num, rfl, HO3, hbr⟩
          case measure => simp [intOf]; omega
    · obtain rfl : j = 2 := by omega
      have HZ := hide (show OwnD wo w.heap.size (.slice ao n c) (fo [] (la ++ lc)) from by rw [← HEND.out]; exact HO.out)
      clear HO HEND HP0 HWD
      go_wp2
      go_ret
      exact ⟨⟨_, _, _, rfl, HZ.out⟩, hbo⟩
end Go.Proofs.Ytgccoognklolbaa

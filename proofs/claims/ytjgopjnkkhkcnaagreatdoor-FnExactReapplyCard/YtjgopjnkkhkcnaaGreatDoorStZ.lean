/-
  MayCome in both texts. Condition of the program's: the table knownKinds reads as its text lays it.
-/
import Derived.Test.YtjgopjnkkhkcnaaGreatDoorStW
namespace Go.Proofs.YtjgopjnkkhkcnaaGreatDoor
open Go.RowKit M
open Clk (upd upd_same upd_other)
open Go.Sort (grow)
namespace M
/-- What is asked ahead: a good state, a kind, a good name. -/
def MayG (s : St) (k : Int) (x : ByteArray) : Prop := GoodSt s ∧ inB k 1 6 = true ∧ gN x = true
def evM (s : St) (k : Int) (x : ByteArray) : Ev := ⟨s.nx, 0, k, x⟩
end M
set_option maxRecDepth 20000 in
set_option maxHeartbeats 4000000 in
theorem impl_may (v0 v1 : Value) (s : St) (k : Int) (x : ByteArray) (b b0 : Bool) (w : World) (hv : StC w v0 v1 s) (hs : ShortT s) (hn : NmT s) (hx : x.size ≤ maxLen) (hkk : KK w) (hb0 : BP b0 (MayG s k x)) (hb : BP b (MayG s k x ∧ May s (evM s k x))) :
    Calls Tryz.prog 120 #[stv v0 v1 s, .int .i64 k, .string x] w fun e w' => e = .returned (.tuple #[.bool b, .bool b0]) ∧ Below w.heap.size w w' := by
  obtain ⟨a0, c0, rfl⟩ := hv.1.1.form
  obtain ⟨a1, c1, rfl⟩ := hv.2.1.form
  have hbA := (Below.refl w.heap.size w).alloc (Nat.le_refl _) (.cells (sarr (.slice a0 s.sg.length c0) (.slice a1 s.tm.length c1) s) 154)
  have HBX := hide (show Blk (w.alloc (.cells (sarr (.slice a0 s.sg.length c0) (.slice a1 s.tm.length c1) s) 154)) w.heap.size 6 (sq (.slice a0 s.sg.length c0) (.slice a1 s.tm.length c1) s) 154 from new6 w _ _ _ _ _ _ 154)
  have HV := hide hv
  have HS := hide hs
  have HN := hide hn
  have HX := hide hx
  have HK := hide hkk
  have HB0 := hide hb0
  have HB := hide hb
  clear hv hs hn hx hkk hb0 hb
  obtain ⟨b1, hb1⟩ := bp_ex (GoodSt s)
  have HB1 := hide hb1
  clear hb1
  have no := fun (h : ¬ MayG s k x) => (show b0 = false ∧ b = false from ⟨HB0.out.no h, HB.out.no (fun hh => h hh.1)⟩)
  have NO := hide no
  clear no
  go_enter Tryz.func120, Tryz.ntmps120
  go_wp2_with fail
  refine (impl_goodSt _ _ s b1 _ (HV.out.below hbA) HS.out HN.out HB1.out).mono ?_
  rintro e' w1 ⟨rfl, hb⟩
  have hb1 := hbA.trans (hb.mono hbA.size)
  have HBX1 := hide (HBX.out.down hb)
  clear hb hbA HBX
  cases b1 with
  | false =>
    have HF := hide (NO.out (fun h => by have := HB1.out.2 h.1; cases this))
    clear HBX1
    go_wp2
    go_ret2
    exact ⟨by have h1 := HF.out.1; have h2 := HF.out.2; subst h1; subst h2; rfl, hb1⟩
  | true =>
  have HGS := hide (HB1.out.1 rfl)
  clear HB1
  go_wp2_with fail
  refine (impl_kind _ _ (HK.out.below hb1)).mono ?_
  rintro e' w1' ⟨rfl, hw1⟩
  subst w1'
  cases hk : inB k 1 6
  · have HF := hide (NO.out (fun h => by have := h.2.1; rw [hk] at this; cases this))
    clear HBX1
    go_wp2
    go_ret2
    exact ⟨by have h1 := HF.out.1; have h2 := HF.out.2; subst h1; subst h2; rfl, hb1⟩
  have HKI := hide hk
  clear hk
  go_wp2_with fail
  refine (impl_name _ _ HX.out).mono ?_
  rintro e' w1' ⟨rfl, hw1⟩
  subst w1'
  cases hg : goodName x.data.toList
  · have HF := hide (NO.out (fun h => by have : goodName x.data.toList = true := h.2.2; rw [hg] at this; cases this))
    clear HBX1
    go_wp2
    go_ret2
    exact ⟨by have h1 := HF.out.1; have h2 := HF.out.2; subst h1; subst h2; rfl, hb1⟩
  have HM := hide (show MayG s k x from ⟨HGS.out, HKI.out, hg⟩)
  have HY := hide (HB0.out.yes HM.out)
  clear hg
  obtain ⟨r, hr⟩ : ∃ r, (b = true → r = raw s (evM s k x)) ∧ (b = false → r = zst) := by
    cases b with
    | true => exact ⟨raw s (evM s k x), fun _ => rfl, fun h => (by cases h)⟩
    | false => exact ⟨zst, fun h => (by cases h), fun _ => rfl⟩
  have HRR := hide hr
  clear hr
  obtain ⟨⟨d0, d1, d2, d3, d4, d5⟩, -⟩ := HBX1.out.hex
  clear HBX1
  go_wp2_with fail
  refine (show Calls Tryz.prog 175 #[stv (.slice a0 s.sg.length c0) (.slice a1 s.tm.length c1) s, ev s.nx 0 k x] w1 _ from impl_apply _ _ s (evM s k x) b r _ (HV.out.below hb1) HS.out HN.out HX.out (HK.out.below hb1) ⟨fun h => ⟨HGS.out, (HB.out.1 h).2⟩, fun h => HB.out.2 ⟨HM.out, h.2⟩⟩ HRR.out).mono ?_
  rintro e' w2 ⟨⟨u0, u1, rfl, hA⟩, hb⟩
  obtain ⟨a3, c3, rfl⟩ := hA.o0.form
  obtain ⟨a4, c4, rfl⟩ := hA.o1.form
  have hb2 := hb1.trans (hb.mono hb1.size)
  have hb3 := hb2.alloc hb2.size (.cells (sarr (.slice a3 r.sg.length c3) (.slice a4 r.tm.length c4) r) 154)
  clear hb hb1 hb2 hA d0 d1 d2 d3 d4 d5 HRR HB HB0
  go_wp2
  go_ret2
  exact ⟨by have h1 := HY.out; subst h1; rfl, hb3⟩
end Go.Proofs.YtjgopjnkkhkcnaaGreatDoor

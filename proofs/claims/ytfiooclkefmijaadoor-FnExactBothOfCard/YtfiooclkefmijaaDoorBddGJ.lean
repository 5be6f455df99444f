/-
  The program's way through a diagram: comesToYes, decisionsIn; slices.Equal at choices.
-/
import Derived.Test.YtfiooclkefmijaaDoorBddGI
namespace Go.Proofs.YtfiooclkefmijaaDoor
open Go.RowKit M
open Clk (upd upd_same upd_other)
open Go.Sort (grow)
namespace M
open Bdd
theorem shr_i (b : Nat) (k : Nat) (h : k ≤ 5) (kd : IntKind) : Op.shift .shr .i64 (b : Int) kd (k : Int) = pure (.int .i64 ((b / 2 ^ k : Nat) : Int)) := by
  rw [shift_shr .i64 kd (b : Int) (k : Int) (by omega) (by simp only [IntKind.bits]; omega), Int.toNat_natCast]
  rfl
end M
set_option maxRecDepth 20000 in
set_option maxHeartbeats 2000000 in
theorem comes_to (v : Value) (r : Int) (l : List Bdd.Ch) (b : Nat) (w : World) (hv : ChsOf w v l) (hE : Bdd.Ends l r) :
    Calls Tryd.prog 50 #[dgV v r, .int .i64 (b : Int)] w fun e w' => e = .returned (.bool (Bdd.yes l r b)) ∧ Below w.heap.size w w' := by
  have HV := hide hv
  obtain ⟨a, cap, rfl, hrow⟩ := hv
  have HR := hide hrow
  have hd1 := (Below.refl w.heap.size w).alloc (Nat.le_refl _) (.cells #[.slice a l.length cap, .int .i64 r] 27)
  have hbx := Blk.fresh w #[.slice a l.length cap, .int .i64 r] 2 (q2 (.slice a l.length cap) (.int .i64 r)) 27 rfl
  obtain ⟨w1, hw1⟩ : ∃ w1, w.alloc (.cells #[.slice a l.length cap, .int .i64 r] 27) = w1 := ⟨_, rfl⟩
  rw [hw1] at hd1 hbx
  have Hw1 := hide hw1
  have HD := hide hd1
  have HX := hide hbx
  have HE := hide hE
  have k1 := hbx.cell (show 1 < 2 by omega)
  simp [q2] at k1
  clear hrow hd1 hbx hw1 hE
  rw [← Hw1.out] at k1
  go_enter Tryd.func50, Tryd.ntmps50
  go_wp2_with fail
  rw [Hw1.out] at k1 ⊢
  go_loopw [5, 6] (fun x _ wr => ∃ k : Int, x = .int .i64 k ∧ Hid (-2 ≤ k ∧ k < (l.length : Int) ∧ Bdd.yes l r b = Bdd.yes l k b ∧ Below w1.heap.size w1 wr)) (fun x _ _ => (intOf x + 1).toNat)
  case atStart => exact ⟨r, rfl, hide ⟨HE.out.2.1, HE.out.2.2.1, rfl, Below.refl _ _⟩⟩
  case round =>
    obtain ⟨k, rfl, HI⟩ := hrel
    by_cases hk : 0 ≤ k
    · obtain ⟨n, rfl⟩ : ∃ n : Nat, k = (n : Int) := ⟨k.toNat, by omega⟩
      obtain ⟨hlo, hhi, hy, hbr⟩ := HI.out
      have hlt : n < l.length := by omega
      obtain ⟨g, off, rfl, hgl, hrow⟩ := HR.out (by omega)
      obtain ⟨c, hc⟩ : ∃ c, l[n]? = some c := ⟨l[n], by rw [List.getElem?_eq_getElem hlt]⟩
      obtain ⟨p0, p1, p2⟩ := hrow n c hc
      have hb2 := HD.out.trans (hbr.mono HD.out.size)
      have c0 := (hb2.cell (p := ⟨g, off + n * 3, none⟩) hgl).trans p0
      have c1 := (hb2.cell (p := ⟨g, off + n * 3 + 1, none⟩) hgl).trans p1
      have c2 := (hb2.cell (p := ⟨g, off + n * 3 + 2, none⟩) hgl).trans p2
      have x0 := (HX.out.down hbr).cell (show 0 < 2 by omega)
      simp [q2] at x0
      have hw := HE.out.2.2.2 n c hc
      have hto := HE.out.2.2.2.to hc b
      have hys := Bdd.yes_at HE.out.2.2.2 hc b
      obtain ⟨vn, hvn⟩ : ∃ vn : Nat, c.v = (vn : Int) := ⟨c.v.toNat, by omega⟩
      have hvn5 : vn ≤ 5 := by omega
      have hs := shr_i b vn hvn5 .i64
      obtain ⟨q, hq⟩ : ∃ q : Nat, b / 2 ^ vn = q := ⟨_, rfl⟩
      rw [hq] at hs
      have hb := i_bit q
      have hbA := hbr.alloc hbr.size (.cells #[.int .i64 (vn : Int), .int .i64 c.no, .int .i64 c.yes] 66)
      rw [hvn] at c0
      have hi0 : (0 : Int) ≤ (n : Int) := by omega
      have hi1 : (n : Int) < (l.length : Int) := by omega
      rcases (show q % 2 = 1 ∨ q % 2 = 0 by omega) with hm | hm
      · have e : c.to b = c.yes := by unfold Bdd.Ch.to Bdd.bitOf; rw [hvn, Int.toNat_natCast, hq, hm]; rfl
        have HN := hide (show -2 ≤ c.yes ∧ c.yes < (l.length : Int) ∧ Bdd.yes l r b = Bdd.yes l c.yes b ∧ Below w1.heap.size w1 (wr.alloc (.cells #[.int .i64 (vn : Int), .int .i64 c.no, .int .i64 c.yes] 66)) ∧ c.yes < (n : Int) from ⟨by omega, by omega, by rw [hy, hys, e], hbA, by omega⟩)
        rw [hm] at hb
        clear HI hlo hhi hy hbr hrow p0 p1 p2 hb2 hw hto hys hvn5 hq hm e hbA hvn hc HR HV HX HD HE Hw1 hlt
        go_wp2
        exact ⟨⟨c.yes, rfl, hide ⟨HN.out.1, HN.out.2.1, HN.out.2.2.1, HN.out.2.2.2.1⟩⟩, by have := HN.out.2.2.2.2; simp [intOf]; omega⟩
      · have e : c.to b = c.no := by unfold Bdd.Ch.to Bdd.bitOf; rw [hvn, Int.toNat_natCast, hq, hm]; rfl
        have HN := hide (show -2 ≤ c.no ∧ c.no < (l.length : Int) ∧ Bdd.yes l r b = Bdd.yes l c.no b ∧ Below w1.heap.size w1 (wr.alloc (.cells #[.int .i64 (vn : Int), .int .i64 c.no, .int .i64 c.yes] 66)) ∧ c.no < (n : Int) from ⟨by omega, by omega, by rw [hy, hys, e], hbA, by omega⟩)
        rw [hm] at hb
        clear HI hlo hhi hy hbr hrow p0 p1 p2 hb2 hw hto hys hvn5 hq hm e hbA hvn hc HR HV HX HD HE Hw1 hlt
        go_wp2
        exact ⟨⟨c.no, rfl, hide ⟨HN.out.1, HN.out.2.1, HN.out.2.2.1, HN.out.2.2.2.1⟩⟩, by have := HN.out.2.2.2.2; simp [intOf]; omega⟩
    · obtain ⟨hlo, hhi, hy, hbr⟩ := HI.out
      have HF := hide (show Bdd.yes l r b = (k == -1) from by rw [hy]; exact Bdd.yes_neg l (by omega) b)
      have HB := hide (HD.out.trans (hbr.mono HD.out.size))
      clear HI hlo hhi hy hbr HR HV HX HD HE Hw1
      go_wp2
      go_ret
      exact ⟨by rw [HF.out]; rfl, HB.out⟩
set_option maxRecDepth 20000 in
set_option maxHeartbeats 2000000 in
theorem decisions_in (v : Value) (r : Int) (l : List Bdd.Ch) (w : World) (hv : ChsOf w v l) (hE : Bdd.Ends l r) :
    Calls Tryd.prog 46 #[dgV v r] w fun e w' => e = .returned (uv (Bdd.dec l r)) ∧ Below w.heap.size w w' := by
  have HV := hide hv
  obtain ⟨a, cap, rfl⟩ := hv.form
  have hd1 := (Below.refl w.heap.size w).alloc (Nat.le_refl _) (.cells #[.slice a l.length cap, .int .i64 r] 27)
  have hbx := Blk.fresh w #[.slice a l.length cap, .int .i64 r] 2 (q2 (.slice a l.length cap) (.int .i64 r)) 27 rfl
  obtain ⟨w1, hw1⟩ : ∃ w1, w.alloc (.cells #[.slice a l.length cap, .int .i64 r] 27) = w1 := ⟨_, rfl⟩
  rw [hw1] at hd1 hbx
  have Hw1 := hide hw1
  have HD := hide hd1
  have HX := hide hbx
  have HE := hide hE
  have h2 := u_or
  clear hd1 hbx hw1 hE hv
  go_enter Tryd.func46, Tryd.ntmps46
  go_wp2_with fail
  rw [Hw1.out]
  go_loopw [3, 4, 5] (fun x _ i wr => ∃ (n : Nat) (t : Bdd.T), n ≤ 64 ∧ i = .int .i64 n ∧ x = uv t ∧ Hid (Bdd.gat (Bdd.yes l r) n = t ∧ Below w1.heap.size w1 wr)) (fun _ _ i _ => 64 - (intOf i).toNat)
  case atStart => exact ⟨0, _, Nat.zero_le _, rfl, rfl, hide ⟨rfl, Below.refl _ _⟩⟩
  case round =>
    obtain ⟨n, t, hn, rfl, rfl, HI⟩ := hrel
    obtain ⟨hg, hbr⟩ := HI.out
    by_cases hlt : n < 64
    · have HL := hide hlt
      have hd : decide ((n : Int) < 64) = true := by simp; omega
      obtain ⟨x0, x1, -, -⟩ := (HX.out.down hbr).two
      simp [q2] at x0 x1
      have hb2 := HD.out.trans (hbr.mono HD.out.size)
      have HC := hide (comes_to (.slice a l.length cap) r l n wr (HV.out.below hb2) HE.out)
      have hstep : Bdd.gat (Bdd.yes l r) (n + 1) = if Bdd.yes l r n then t ||| BitVec.twoPow 64 n else t := by rw [Bdd.gat, hg]
      cases hyn : Bdd.yes l r n with
      | true =>
        rw [hyn] at HC hstep
        obtain ⟨p, hp⟩ : ∃ p : Bdd.T, BitVec.twoPow 64 n = p := ⟨_, rfl⟩
        have ho := one_shl n hlt .i64
        rw [hp] at ho hstep
        have HS := hide hstep
        have HB := hide hbr
        clear HI hg hbr hb2 hstep hp hn hlt hyn
        go_wp2_with fail
        refine HC.out.mono ?_
        rintro e w2 ⟨rfl, hb⟩
        have HI2 := hide (show Bdd.gat (Bdd.yes l r) (n + 1) = t ||| p ∧ Below w1.heap.size w1 w2 from ⟨HS.out, HB.out.trans (hb.mono HB.out.size)⟩)
        clear hb HC HS HB
        go_wp2
        all_goals first | exact ⟨⟨n + 1, _, by have := HL.out; omega, by first | go_num | rw [next64 HL.out], rfl, HI2⟩, by have := HL.out; first | (rw [next64 HL.out]; simp [intOf]; omega) | (simp [intOf]; omega)⟩ | (exfalso; have := HL.out; omega)
      | false =>
        rw [hyn] at HC hstep
        have HS := hide hstep
        have HB := hide hbr
        clear HI hg hbr hb2 hstep hn hlt hyn
        go_wp2_with fail
        refine HC.out.mono ?_
        rintro e w2 ⟨rfl, hb⟩
        have HI2 := hide (show Bdd.gat (Bdd.yes l r) (n + 1) = t ∧ Below w1.heap.size w1 w2 from ⟨HS.out, HB.out.trans (hb.mono HB.out.size)⟩)
        clear hb HC HS HB
        go_wp2
        all_goals first | exact ⟨⟨n + 1, _, by have := HL.out; omega, by first | go_num | rw [next64 HL.out], rfl, HI2⟩, by have := HL.out; first | (rw [next64 HL.out]; simp [intOf]; omega) | (simp [intOf]; omega)⟩ | (exfalso; have := HL.out; omega)
    · have hd : decide ((n : Int) < 64) = false := by simp; omega
      obtain rfl : n = 64 := by omega
      have HF := hide (show Bdd.dec l r = t from hg)
      have HB := hide (HD.out.trans (hbr.mono HD.out.size))
      clear HI hg hbr hn hlt HD HX HE HV Hw1
      go_wp2
      go_ret
      exact ⟨by rw [HF.out]; rfl, HB.out⟩
end Go.Proofs.YtfiooclkefmijaaDoor

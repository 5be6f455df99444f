/-
  The law's copy of a diagram that came in.
-/
import Derived.Test.YtfiooclkefmijaaDoorBddA
namespace Go.Proofs.YtfiooclkefmijaaDoor
open Go.RowKit M
open Clk (upd upd_same upd_other)
namespace M
open Bdd
/-- The cells of choices by their places. -/
def c3v (f : Nat → Ch) : Nat → Value := fun j => if j % 3 = 0 then .int .i64 (f (j / 3)).v else if j % 3 = 1 then .int .i64 (f (j / 3)).no else .int .i64 (f (j / 3)).yes
theorem c3v_upd (f : Nat → Ch) (k : Nat) (c : Ch) : upd (upd (upd (c3v f) (k * 3) (.int .i64 c.v)) (k * 3 + 1) (.int .i64 c.no)) (k * 3 + 2) (.int .i64 c.yes) = c3v (upd f k c) := by
  funext j
  unfold upd c3v
  by_cases h0 : j / 3 = k
  · rcases (show j = k * 3 ∨ j = k * 3 + 1 ∨ j = k * 3 + 2 by omega) with rfl | rfl | rfl
    · simp [show k * 3 / 3 = k by omega, show k * 3 % 3 = 0 by omega]
    · simp [show (k * 3 + 1) / 3 = k by omega, show (k * 3 + 1) % 3 = 1 by omega]
    · simp [show (k * 3 + 2) / 3 = k by omega, show (k * 3 + 2) % 3 = 2 by omega]
  · rw [if_neg (by omega), if_neg (by omega), if_neg (by omega)]; simp [h0]
def at3 (l : List Ch) : Nat → Ch := fun i => (l[i]?).getD ⟨0, 0, 0⟩
def cp3 (l : List Ch) (k : Nat) : Nat → Ch := fun i => if i < k then at3 l i else ⟨0, 0, 0⟩
theorem cp3_zero (l : List Ch) : cp3 l 0 = fun _ => ⟨0, 0, 0⟩ := by funext i; simp [cp3]
theorem cp3_succ (l : List Ch) (k : Nat) (c : Ch) (h : l[k]? = some c) : upd (cp3 l k) k c = cp3 l (k + 1) := by
  funext i
  unfold upd cp3
  by_cases hi : i = k
  · subst hi; simp [at3, h]
  · rw [if_neg hi]
    by_cases h2 : i < k
    · rw [if_pos h2, if_pos (by omega)]
    · rw [if_neg h2, if_neg (by omega)]
theorem made3 (n : Nat) : madeCells #[.int .i64 0, .int .i64 0, .int .i64 0] (n * 3) = cf (n * 3) (c3v fun _ => ⟨0, 0, 0⟩) := by
  apply Array.ext_getElem?
  intro j
  by_cases hj : j < n * 3
  · rw [cf_get _ hj]
    have h1 : (madeCells #[.int .i64 0, .int .i64 0, .int .i64 0] (n * 3))[j]? = some (#[(.int .i64 0 : Value), .int .i64 0, .int .i64 0][j % 3]!) := by simp [madeCells, hj]
    rw [h1]
    unfold c3v
    rcases (show j % 3 = 0 ∨ j % 3 = 1 ∨ j % 3 = 2 by omega) with h | h | h <;> rw [h] <;> rfl
  · rw [Array.getElem?_eq_none (by rw [size_madeCells]; omega), Array.getElem?_eq_none (by rw [cf_size]; omega)]
theorem fl3_at : ∀ (l : List Ch) (i : Nat), i < l.length * 3 → (fl3 l)[i]? = some (c3v (at3 l) i)
  | l, i, h => by
    have hk : i / 3 < l.length := by omega
    have hc : l[i / 3]? = some (l[i / 3]) := List.getElem?_eq_getElem hk
    obtain ⟨h0, h1, h2⟩ := fl3_get l (i / 3) _ hc
    unfold c3v at3
    rw [hc]
    rcases (show i % 3 = 0 ∨ i % 3 = 1 ∨ i % 3 = 2 by omega) with e | e | e
    · rw [if_pos e]; rw [show i / 3 * 3 = i by omega] at h0; exact h0
    · rw [if_neg (by omega), if_pos e]; rw [show i / 3 * 3 + 1 = i by omega] at h1; exact h1
    · rw [if_neg (by omega), if_neg (by omega)]; rw [show i / 3 * 3 + 2 = i by omega] at h2; exact h2
/-- A block that holds just the choices is a row of the call's own. -/
theorem own3 {w : World} {B g : Nat} {l : List Ch} (hb : Blk w g (l.length * 3) (c3v (at3 l)) 66) (hB : B ≤ g) (hl : l.length ≤ 1048576) : AnsD w B (.slice (some ⟨g, 0, none⟩) l.length l.length) l := by
  refine ⟨fl3_len l, .inr ⟨g, l.length, _, rfl, hB, hb, Nat.le_refl _, by unfold maxLen; omega, cf_size _ _, ?_⟩⟩
  apply List.ext_getElem?
  intro i
  by_cases hi : i < l.length * 3
  · rw [List.getElem?_take_of_lt hi, Array.getElem?_toList, cf_get _ hi, fl3_at l i hi]
  · rw [List.getElem?_eq_none (by rw [List.length_take]; omega), List.getElem?_eq_none (by rw [fl3_len]; omega)]
end M
theorem make_choices (n : Nat) (h : n ≤ 1048576) (w : World) : (Instr.makeSlice 25 (.int .i64 (n : Int)) (.int .i64 (n : Int))).run Tryd.prog w = .ok (.slice (some ⟨w.heap.size, 0, none⟩) n n) (w.alloc (.cells (cf (n * 3) (c3v fun _ => ⟨0, 0, 0⟩)) 66)) := by
  obtain ⟨i, hi, hz0, hz1, hz2⟩ := info_parts info_choice
  have hr := run_make (P := Tryd.prog) w 25 66 i _ Tryd.underlying25 hi hz0 .i64 .i64 (n : Int) (n : Int) (by omega) (Int.le_refl _) (by rw [hz2]; omega) (by omega)
  rw [hr, hz1]
  simp only [Int.toNat_natCast]
  rw [← made3]
  rfl
theorem to_choice (c : Bdd.Ch) (w : World) :
    Calls Tryd.prog 61 #[chV c] w fun e w' => e = .returned (chV c) ∧ Below w.heap.size w w' := by
  go_enter Tryd.func61, Tryd.ntmps61
  go_wp2
  exact bodyPost_ret (v := chV c) (by simp [results, Tryd.results61, go_sem]) rfl ⟨rfl, (((Below.refl _ _).alloc (Nat.le_refl _) _).alloc (by simp) _).alloc (by simp; omega) _⟩
set_option maxHeartbeats 1000000 in
theorem to_choices (v : Value) (l : List Bdd.Ch) (w : World) (hv : ChsOf w v l) (hn : l.length ≤ 1048576) :
    Calls Tryd.prog 44 #[v] w fun e w' => (e = .returned (.slice (some ⟨w.heap.size, 0, none⟩) l.length l.length) ∧ Blk w' w.heap.size (l.length * 3) (c3v (at3 l)) 66) ∧ Below w.heap.size w w' := by
  obtain ⟨a, cap, rfl, hr⟩ := hv
  have HR := hide hr
  clear hr
  have hmk := make_choices l.length hn
  go_enter Tryd.func44, Tryd.ntmps44
  go_wp2
  go_loopw [4] (fun i wr => ∃ k : Nat, k ≤ l.length ∧ i = .int .i64 k ∧ Hid (Blk wr w.heap.size (l.length * 3) (c3v (cp3 l k)) 66) ∧ Below w.heap.size w wr) (fun i _ => l.length - (intOf i).toNat)
  case atStart => exact ⟨0, Nat.zero_le _, rfl, hide (by rw [cp3_zero]; exact Blk.new w (l.length * 3) _ _), (Below.refl _ _).alloc (Nat.le_refl _) _⟩
  case round =>
    obtain ⟨k, hk, rfl, HA, hbw⟩ := hrel
    by_cases hlt : k < l.length
    · obtain ⟨b, off, rfl, hb, hrow⟩ := HR.out (by omega)
      obtain ⟨c, hc⟩ : ∃ c, l[k]? = some c := ⟨l[k], by rw [List.getElem?_eq_getElem hlt]⟩
      obtain ⟨p0, p1, p2⟩ := hrow k c hc
      have c0 := (hbw.cell (p := ⟨b, off + k * 3, none⟩) hb).trans p0
      have c1 := (hbw.cell (p := ⟨b, off + k * 3 + 1, none⟩) hb).trans p1
      have c2 := (hbw.cell (p := ⟨b, off + k * 3 + 2, none⟩) hb).trans p2
      have HCs := hide (cp3_succ l k c hc)
      clear hrow HR p0 p1 p2 hc hmk
      go_wp2_with fail
      refine (to_choice c _).mono ?_
      rintro e w1 ⟨rfl, hb1⟩
      have hbw1 := hbw.trans (hb1.mono hbw.size)
      have hA1 := HA.out.down hb1
      have d0 := hA1.cell (show k * 3 < l.length * 3 by omega)
      have d1 := hA1.cell (show k * 3 + 1 < l.length * 3 by omega)
      have d2 := hA1.cell (show k * 3 + 2 < l.length * 3 by omega)
      have f0 := hA1.thaw (k * 3)
      have f1 := hA1.thaw (k * 3 + 1)
      have f2 := hA1.thaw (k * 3 + 2)
      have hA2 := ((hA1.set (k * 3) (.int .i64 c.v)).set (k * 3 + 1) (.int .i64 c.no)).set (k * 3 + 2) (.int .i64 c.yes)
      rw [c3v_upd, HCs.out] at hA2
      have HA2 := hide hA2
      have HB2 := hide (((hbw1.setCell (p := ⟨w.heap.size, k * 3, none⟩) (Nat.le_refl _) (.int .i64 c.v)).setCell (p := ⟨w.heap.size, k * 3 + 1, none⟩) (Nat.le_refl _) (.int .i64 c.no)).setCell (p := ⟨w.heap.size, k * 3 + 2, none⟩) (Nat.le_refl _) (.int .i64 c.yes))
      clear HA hA1 hA2 hb1 c0 c1 c2 hbw1 hbw HCs
      go_wp2
      exact ⟨⟨k + 1, by omega, by go_num, HA2, HB2.out⟩, by simp [intOf]; omega⟩
    · have hB := HA.out.ext (f' := c3v (at3 l)) (fun i hi => by unfold c3v cp3; simp only [if_pos (show i / 3 < k by omega)])
      have HB := hide hB
      clear HA HR hB hmk
      go_wp2
      go_ret
      exact ⟨⟨rfl, HB.out⟩, hbw⟩
set_option maxRecDepth 20000 in
theorem to_diagram (v : Value) (r : Int) (l : List Bdd.Ch) (w : World) (hv : ChsOf w v l) (hn : l.length ≤ 1048576) :
    Calls Tryd.prog 23 #[dgV v r] w fun e w' => (∃ u, e = .returned (dgV u r) ∧ AnsD w' w.heap.size u l) ∧ Below w.heap.size w w' := by
  have HV := hide hv
  obtain ⟨a, cap, rfl⟩ := hv.form
  have hd1 := (Below.refl w.heap.size w).alloc (Nat.le_refl _) (.cells #[.slice a l.length cap, .int .i64 r] 34)
  have hd2 := hd1.alloc hd1.size (.cells #[.slice none 0 0, .int .i64 0] 27)
  have hd3 := hd2.alloc hd2.size (.cells #[.slice none 0 0, .int .i64 0] 27)
  obtain ⟨w3, hw3⟩ : ∃ w3, ((w.alloc (.cells #[.slice a l.length cap, .int .i64 r] 34)).alloc (.cells #[.slice none 0 0, .int .i64 0] 27)).alloc (.cells #[.slice none 0 0, .int .i64 0] 27) = w3 := ⟨_, rfl⟩
  rw [hw3] at hd3
  have b0 : Blk w3 w.heap.size 2 (q2 (.slice a l.length cap) (.int .i64 r)) 34 := by
    rw [← hw3]; exact ((Blk.fresh w #[.slice a l.length cap, .int .i64 r] 2 (q2 (.slice a l.length cap) (.int .i64 r)) 34 rfl).alloc _).alloc _
  have b1 : Blk w3 (w.heap.size + 1) 2 (q2 (.slice none 0 0) (.int .i64 0)) 27 := by
    rw [← hw3]
    have := (dbox (w.alloc (.cells #[.slice a l.length cap, .int .i64 r] 34))).alloc (.cells #[.slice none 0 0, .int .i64 0] 27)
    simpa using this
  have b2 : Blk w3 (w.heap.size + 1 + 1) 2 (q2 (.slice none 0 0) (.int .i64 0)) 27 := by
    rw [← hw3]
    have := dbox ((w.alloc (.cells #[.slice a l.length cap, .int .i64 r] 34)).alloc (.cells #[.slice none 0 0, .int .i64 0] 27))
    simpa using this
  have HT := hide (to_choices _ l w3 (hv.below hd3) hn)
  have Hw3 := hide hw3
  have HD := hide hd3
  have HB := hide (And.intro b0 (And.intro b1 b2))
  have hz3 : w3.heap.size = w.heap.size + 1 + 1 + 1 := by rw [← hw3]; simp
  have HZ := hide hz3
  clear hv hd1 hd2 hd3 hw3 b0 b1 b2 hz3
  go_enter Tryd.func23, Tryd.ntmps23
  go_wp2_with fail
  rw [Hw3.out]
  refine HT.out.mono ?_
  rintro e w4 ⟨⟨rfl, hbl⟩, hb4⟩
  obtain ⟨g, hg⟩ : ∃ g, w3.heap.size = g := ⟨_, rfl⟩
  rw [hg] at hbl ⊢
  have x0 := HB.out.1.down hb4
  have x1 := HB.out.2.1.down hb4
  have x2 := HB.out.2.2.down hb4
  have hgw : w.heap.size + 1 + 1 + 1 = g := by rw [← hg]; exact HZ.out.symm
  obtain ⟨w7, hw7⟩ : ∃ w7, (((w4.setCell ⟨w.heap.size + 1 + 1, 0, none⟩ (.slice (some ⟨g, 0, none⟩) l.length l.length)).setCell ⟨w.heap.size + 1 + 1, 1, none⟩ (.int .i64 r)).setCell ⟨w.heap.size + 1, 0, none⟩ (.slice (some ⟨g, 0, none⟩) l.length l.length)).setCell ⟨w.heap.size + 1, 1, none⟩ (.int .i64 r) = w7 := ⟨_, rfl⟩
  have HF := hide (show AnsD w7 w.heap.size (.slice (some ⟨g, 0, none⟩) l.length l.length) l ∧ Below w.heap.size w w7 ∧ w7.cell? ⟨w.heap.size + 1, 0, none⟩ = some (.slice (some ⟨g, 0, none⟩) l.length l.length) ∧ w7.cell? ⟨w.heap.size + 1, 1, none⟩ = some (.int .i64 r) from by
    have hb := HD.out.trans (hb4.mono HD.out.size)
    have y2 := (x2.set 0 (.slice (some ⟨g, 0, none⟩) l.length l.length)).set 1 (.int .i64 r)
    have y1 := (((x1.set_other (show w.heap.size + 1 ≠ w.heap.size + 1 + 1 by omega) 0 (.slice (some ⟨g, 0, none⟩) l.length l.length)).set_other (show w.heap.size + 1 ≠ w.heap.size + 1 + 1 by omega) 1 (.int .i64 r)).set 0 (.slice (some ⟨g, 0, none⟩) l.length l.length)).set 1 (.int .i64 r)
    have yg := (((hbl.set_other (show g ≠ w.heap.size + 1 + 1 by omega) 0 (.slice (some ⟨g, 0, none⟩) l.length l.length)).set_other (show g ≠ w.heap.size + 1 + 1 by omega) 1 (.int .i64 r)).set_other (show g ≠ w.heap.size + 1 by omega) 0 (.slice (some ⟨g, 0, none⟩) l.length l.length)).set_other (show g ≠ w.heap.size + 1 by omega) 1 (.int .i64 r)
    rw [hw7] at y1 yg
    refine ⟨own3 yg (by omega) hn, ?_, y1.cell (show 0 < 2 by omega), y1.cell (show 1 < 2 by omega)⟩
    rw [← hw7]
    exact (((hb.setCell (p := ⟨w.heap.size + 1 + 1, 0, none⟩) (by show w.heap.size ≤ w.heap.size + 1 + 1; omega) _).setCell (p := ⟨w.heap.size + 1 + 1, 1, none⟩) (by show w.heap.size ≤ w.heap.size + 1 + 1; omega) _).setCell (p := ⟨w.heap.size + 1, 0, none⟩) (by show w.heap.size ≤ w.heap.size + 1; omega) _).setCell (p := ⟨w.heap.size + 1, 1, none⟩) (by show w.heap.size ≤ w.heap.size + 1; omega) _)
  have Hw7 := hide hw7
  obtain ⟨p0, p1, -, -⟩ := x0.two
  obtain ⟨s0, s1, t0, t1⟩ := x1.two
  obtain ⟨s2, s3, t2, t3⟩ := x2.two
  simp [q2] at p0 p1 s0 s1 s2 s3
  have ne1 : ¬ w.heap.size = w.heap.size + 1 + 1 := by omega
  have ne2 : ¬ w.heap.size + 1 + 1 = w.heap.size + 1 := by omega
  clear HT HV HD HB HZ hbl hb4 x0 x1 x2 hg hgw hw7 Hw3
  go_wp2
  rw [Hw7.out]
  obtain ⟨hA, hB, k0, k1⟩ := HF.out
  exact bodyPost_ret (v := dgV (.slice (some ⟨g, 0, none⟩) l.length l.length) r) (by simp [results, Tryd.results23, go_sem, k0, k1]) rfl ⟨⟨_, rfl, hA⟩, hB⟩
end Go.Proofs.YtfiooclkefmijaaDoor

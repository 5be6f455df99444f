/-
  The law's helpers on choices and diagrams: how many are left, a copy in new memory, two that are told alike, marks.
-/
import Derived.Test.YtfiooclkefmijaaDoorBddE
import Derived.Test.YtfiooclkefmijaaDoorBddG
namespace Go.Proofs.YtfiooclkefmijaaDoor
open Go.RowKit M
open Clk (upd upd_same upd_other)
open Go.Sort (grow)
namespace M
open Bdd
/-- A slice of choices that is read. -/
def ChsOf (w : World) (v : Value) (l : List Ch) : Prop :=
  ∃ a cap, v = .slice a l.length cap ∧ (0 < l.length → ∃ b off, a = some ⟨b, off, none⟩ ∧ b < w.heap.size ∧ ∀ i c, l[i]? = some c → w.cell? ⟨b, off + i * 3, none⟩ = some (.int .i64 c.v) ∧ w.cell? ⟨b, off + i * 3 + 1, none⟩ = some (.int .i64 c.no) ∧ w.cell? ⟨b, off + i * 3 + 2, none⟩ = some (.int .i64 c.yes))
theorem ChsOf.below {w w' : World} {v : Value} {l : List Ch} (h : ChsOf w v l) (hb : Below w.heap.size w w') : ChsOf w' v l := by
  obtain ⟨a, cap, hv, hr⟩ := h
  refine ⟨a, cap, hv, fun hn => ?_⟩
  obtain ⟨b, off, ha, hlt, hrow⟩ := hr hn
  refine ⟨b, off, ha, Nat.lt_of_lt_of_le hlt hb.size, fun i c hi => ?_⟩
  obtain ⟨h0, h1, h2⟩ := hrow i c hi
  exact ⟨(hb.cell (p := ⟨b, off + i * 3, none⟩) hlt).trans h0, (hb.cell (p := ⟨b, off + i * 3 + 1, none⟩) hlt).trans h1, (hb.cell (p := ⟨b, off + i * 3 + 2, none⟩) hlt).trans h2⟩
theorem ChsOf.form {w : World} {v : Value} {l : List Ch} (h : ChsOf w v l) : ∃ a cap, v = .slice a l.length cap := by
  obtain ⟨a, cap, hv, _⟩ := h; exact ⟨a, cap, hv⟩
theorem AnsD.chs {w : World} {B : Nat} {v : Value} {l : List Ch} (h : AnsD w B v l) : ChsOf w v l := by
  obtain ⟨a, cap, hv, hr⟩ := h.cells
  refine ⟨a, cap, hv, fun hn => ?_⟩
  obtain ⟨g, ha, hlt, hc⟩ := hr hn
  exact ⟨g, 0, ha, hlt, fun i c hi => by rw [Nat.zero_add]; exact hc i c hi⟩
end M
theorem eq_choice (c : Bdd.Ch) (w : World) :
    Calls Tryd.prog 59 #[chV c, chV c] w fun e w' => e = .returned (.bool true) ∧ Below w.heap.size w w' := by
  have h1 : (c.v != c.v) = false := by simp
  have h2 : (c.no != c.no) = false := by simp
  have h3 : (c.yes != c.yes) = false := by simp
  go_enter Tryd.func59, Tryd.ntmps59
  go_wp2
  go_ret
  exact ⟨rfl, ((Below.refl _ _).alloc (Nat.le_refl _) _).alloc (by simp) _⟩
set_option maxHeartbeats 1000000 in
theorem eq_choices (v u : Value) (l : List Bdd.Ch) (w : World) (hv : ChsOf w v l) (hu : ChsOf w u l) (hn : l.length ≤ 1048576) :
    Calls Tryd.prog 39 #[v, u] w fun e w' => e = .returned (.bool true) ∧ Below w.heap.size w w' := by
  obtain ⟨a, cap, rfl, hr⟩ := hv
  obtain ⟨a2, cap2, rfl, hr2⟩ := hu
  have HR := hide hr
  have HR2 := hide hr2
  clear hr hr2
  go_enter Tryd.func39, Tryd.ntmps39
  go_wp2
  go_loopw [5] (fun i wr => ∃ k : Nat, k ≤ l.length ∧ i = .int .i64 k ∧ Below w.heap.size w wr) (fun i _ => l.length - (intOf i).toNat)
  case atStart => exact ⟨0, Nat.zero_le _, rfl, Below.refl _ _⟩
  case round =>
    obtain ⟨k, hk, rfl, hbw⟩ := hrel
    by_cases hlt : k < l.length
    · obtain ⟨b, off, rfl, hb, hrow⟩ := HR.out (by omega)
      obtain ⟨b2, off2, rfl, hb2, hrow2⟩ := HR2.out (by omega)
      obtain ⟨c, hc⟩ : ∃ c, l[k]? = some c := ⟨l[k], by rw [List.getElem?_eq_getElem hlt]⟩
      obtain ⟨p0, p1, p2⟩ := hrow k c hc
      obtain ⟨s0, s1, s2⟩ := hrow2 k c hc
      have k0 := cell_regrown ((hbw.cell (p := ⟨b, off + k * 3, none⟩) hb).trans p0)
      have k1 := cell_regrown ((hbw.cell (p := ⟨b, off + k * 3 + 1, none⟩) hb).trans p1)
      have k2 := cell_regrown ((hbw.cell (p := ⟨b, off + k * 3 + 2, none⟩) hb).trans p2)
      have g0 := cell_regrown ((hbw.cell (p := ⟨b2, off2 + k * 3, none⟩) hb2).trans s0)
      have g1 := cell_regrown ((hbw.cell (p := ⟨b2, off2 + k * 3 + 1, none⟩) hb2).trans s1)
      have g2 := cell_regrown ((hbw.cell (p := ⟨b2, off2 + k * 3 + 2, none⟩) hb2).trans s2)
      have hi0 : (0 : Int) ≤ (k : Int) := by omega
      have hi1 : (k : Int) < (l.length : Int) := by omega
      have HE := hide (show ∀ d os, Calls Tryd.prog 59 #[chV c, chV c] (grow (redrawn wr d) os) fun e w'' => e = .returned (.bool true) ∧ ∃ p : Regrown, w'' = grow (redrawn wr p.d) p.os from fun d os => Calls.regrown_of (eq_choice _ _))
      clear hrow hrow2 HR HR2 p0 p1 p2 s0 s1 s2 hc
      go_wp2
      refine wp_region_quiet_below (by kernel_rfl) (by kernel_rfl) ?_
      repeat (go_big_quiet_step (exact HE.out _ _))
      refine wpQuiet_nil ?_
      intro _ hw'
      obtain ⟨⟨dq, osq⟩, hw''⟩ := hw'
      subst hw''
      have hbw2 := hbw.trans ((below_regrown wr dq osq).mono hbw.size)
      go_wp2
      go_roundw
      case rel => exact ⟨k + 1, by omega, by go_num, hbw2⟩
      case measure => simp [intOf]; omega
    · clear HR HR2
      go_wp2
      go_ret
      exact ⟨rfl, hbw⟩
theorem eq_diagram (v u : Value) (r : Int) (l : List Bdd.Ch) (w : World) (hv : ChsOf w v l) (hu : ChsOf w u l) (hn : l.length ≤ 1048576) :
    Calls Tryd.prog 18 #[dgV v r, dgV u r] w fun e w' => e = .returned (.bool true) ∧ Below w.heap.size w w' := by
  have HV := hide hv
  have HU := hide hu
  obtain ⟨a, cap, rfl⟩ := hv.form
  obtain ⟨a2, cap2, rfl⟩ := hu.form
  have hr : (r != r) = false := by simp
  clear hv hu
  have hd1 := (Below.refl w.heap.size w).alloc (Nat.le_refl _) (.cells #[.slice a l.length cap, .int .i64 r] 27)
  have hd2 := hd1.alloc hd1.size (.cells #[.slice a2 l.length cap2, .int .i64 r] 27)
  have HD := hide hd2
  have b0 := (Blk.fresh w #[.slice a l.length cap, .int .i64 r] 2 (q2 (.slice a l.length cap) (.int .i64 r)) 27 rfl).alloc (.cells #[.slice a2 l.length cap2, .int .i64 r] 27)
  have b1 := Blk.fresh (w.alloc (.cells #[.slice a l.length cap, .int .i64 r] 27)) #[.slice a2 l.length cap2, .int .i64 r] 2 (q2 (.slice a2 l.length cap2) (.int .i64 r)) 27 rfl
  simp only [World.size_alloc] at b1
  have HB := hide (And.intro b0 b1)
  clear hd1 hd2 b0 b1
  go_enter Tryd.func18, Tryd.ntmps18
  go_wp2_with fail
  refine (eq_choices _ _ l _ (HV.out.below HD.out) (HU.out.below HD.out) hn).mono ?_
  rintro e w1 ⟨rfl, hb⟩
  have c0 := (HB.out.1.down hb).cell (show 1 < 2 by omega)
  have c1 := (HB.out.2.down hb).cell (show 1 < 2 by omega)
  simp [q2] at c0 c1
  have HE := hide (HD.out.trans (hb.mono HD.out.size))
  clear hb HB HD HV HU
  go_wp2
  go_ret
  exact ⟨rfl, HE.out⟩
end Go.Proofs.YtfiooclkefmijaaDoor

/-
  A timer is put into the slot for it of a turning wheel, where there is one; the slots are handed out.
-/
import Derived.Test.YtcodllammndciaaWhU
namespace Go.Proofs.Ytcodllammndciaa
open Go.RowKit M
open Clk (upd upd_same upd_other)
open Go.Sort (grow)
namespace M
/-- The rows with a timer put behind those in its slot. -/
def putR (rs : Nat → Rw) (now tm id : Int) : Nat → Rw := if (slotA now tm).2 = true then upd rs (slotA now tm).1.toNat ((rs (slotA now tm).1.toNat).snoc tm id) else rs
theorem slotA_range {now tm : Int} (h : (slotA now tm).2 = true) : 0 ≤ (slotA now tm).1 ∧ (slotA now tm).1 < 24 := by
  unfold slotA at h ⊢
  split
  · rename_i hg
    rw [if_pos hg] at h
    cases hs : slotF now tm with
    | none => rw [hs] at h; cases h
    | some k => exact slotF_range hs
  · rename_i hg
    rw [if_neg hg] at h; cases h
end M
set_option maxRecDepth 20000 in
set_option maxHeartbeats 4000000 in
theorem turn_put (B g : Nat) (rs : Nat → Rw) (X : Nat → Value) (now tm id : Int) (w : World) (h : TW w B g rs X) (hs : Short 24 rs) (hB : B ≤ w.heap.size) :
    Calls Try.prog 59 #[.pointer (some ⟨g, 0, none⟩), .int .i64 now, .agg #[.int .i64 tm, .int .i64 id]] w fun e w' => (e = .returned (.bool (slotA now tm).2) ∧ ∃ X', TW w' B g (putR rs now tm id) X') ∧ Below B w w' := by
  have hdn := (Below.refl w.heap.size w).alloc (Nat.le_refl _) (.cells #[.int .i64 tm, .int .i64 id] 40)
  have hTm := Blk.fresh w #[.int .i64 tm, .int .i64 id] 2 (p2 (.int .i64 tm) (.int .i64 id)) 40 rfl
  have HT := hide (h.down hdn)
  have HTm := hide hTm
  have HSl := hide (show ∀ W, _ from fun W => impl_slot now tm W)
  have hdB := hdn.mono hB
  have hgl := h.blk.lt
  cases hf : (slotA now tm).2 with
  | true =>
    obtain ⟨k, hk⟩ := Int.eq_ofNat_of_zero_le (slotA_range hf).1
    have hk24 : k < 24 := by have := (slotA_range hf).2; omega
    have HP := hide (show putR rs now tm id = upd rs (k / 8 * 8 + k % 8) ((rs (k / 8 * 8 + k % 8)).snoc tm id) by
      unfold putR; rw [if_pos hf, hk, show k / 8 * 8 + k % 8 = k by omega]; rfl)
    have HSk := hide (hs.2 (k / 8 * 8 + k % 8) (by omega))
    rw [hf, hk] at HSl
    obtain ⟨lv, hlv⟩ : ∃ l, k / 8 = l := ⟨_, rfl⟩
    obtain ⟨im, him⟩ : ∃ l, k % 8 = l := ⟨_, rfl⟩
    have hq : (k : Int).tdiv 8 = (lv : Int) := by rw [Int.tdiv_eq_ediv_of_nonneg (by omega)]; omega
    have hm : (k : Int).tmod 8 = (im : Int) := by rw [Int.tmod_eq_emod_of_nonneg (by omega)]; omega
    have hlv0 : (0 : Int) ≤ (lv : Int) := by omega
    have hlv3 : (lv : Int) < 3 := by omega
    have hw1 : IntKind.i64.wrap (lv : Int) = (lv : Int) := by rw [IntKind.wrap_i64]; omega
    have hw2 : IntKind.i64.wrap (im : Int) = (im : Int) := by rw [IntKind.wrap_i64]; omega
    have hnl : lv < 3 := by omega
    have hni : im < 8 := by omega
    rw [hlv, him] at HP HSk
    obtain ⟨x0, x1, -, -⟩ := hTm.pair
    clear hTm h hs hf hk hlv him
    go_enter Try.func59, Try.ntmps59
    go_wp2_with fail
    refine (HSl.out _).mono ?_
    rintro e w2 ⟨rfl, m, rfl⟩
    have hb2 := below_drewN hdB m
    have HT2 := hide (HT.out.down (below_drewN (Below.refl _ _) m))
    obtain ⟨y0, y1, -, -⟩ := (HTm.out.down (below_drewN (Below.refl _ _) m)).pair
    clear x0 x1
    go_wp2_with fail
    have HRp := hide (show ∀ W : World, W.heap = (w.alloc (.cells #[.int .i64 tm, .int .i64 id] 40)).heap → _ from fun W hh => ring_put B g lv im im rs X tm id W (HT.out.same hh) hnl (by omega) (by omega) HSk.out (by rw [hh]; exact Nat.le_trans hB hdn.size))
    go_region_with (go_at_call 78; refine (HRp.out ((w.alloc (.cells #[.int .i64 tm, .int .i64 id] 40)).drewN (m + 1)) rfl).mono ?_; rintro e wj ⟨⟨rfl, Xj, hTj⟩, hbj⟩)
    all_goals
      have hbf := (below_drewN hdB (m + 1)).trans hbj
      have HTj := hide hTj
      clear hTj hbj HT2 HT HTm HSl hb2 y0 y1 HRp
      go_wp2
      go_ret
      exact ⟨⟨rfl, Xj, by rw [HP.out]; exact HTj.out⟩, hbf⟩
  | false =>
    have HP := hide (show putR rs now tm id = rs by unfold putR; rw [hf]; rfl)
    rw [hf] at HSl
    obtain ⟨x0, x1, -, -⟩ := hTm.pair
    clear hTm h hs hf
    go_enter Try.func59, Try.ntmps59
    go_wp2_with fail
    refine (HSl.out _).mono ?_
    rintro e w2 ⟨rfl, m, rfl⟩
    have hb2 := below_drewN hdB m
    have HT2 := hide (HT.out.down (below_drewN (Below.refl _ _) m))
    go_wp2
    go_ret
    exact ⟨⟨rfl, X, by rw [HP.out]; exact HT2.out⟩, hb2⟩
end Go.Proofs.Ytcodllammndciaa

/-
  The program's slices.Collect over the tasks in order.
-/
import Derived.Test.YtkfnfgencaplfaaPlanI
namespace Go.Proofs.Ytkfnfgencaplfaa
open Go.RowKit M
open Clk (upd upd_same upd_other)
attribute [local go_sem] Oper.semAt_some
namespace M
def pv (l : List Nat) : List Value := l.map fun t : Nat => .int .i64 (t : Int)
theorem pv_len (l : List Nat) : (pv l).length = l.length := by simp [pv]
theorem pv_snoc (l : List Nat) (t : Nat) : pv (l ++ [t]) = pv l ++ [.int .i64 (t : Int)] := by simp [pv]
def lv (l : List Nat) : Nat → Int := fun i => ((l.getD i 0 : Nat) : Int)
theorem pv_range (l : List Nat) : pv l = (List.range l.length).map (iv (lv l)) := by
  apply List.ext_getElem?
  intro i
  by_cases hi : i < l.length
  · rw [List.getElem?_map, List.getElem?_range hi]
    simp [pv, hi, iv, lv]
  · rw [List.getElem?_eq_none (by rw [pv_len]; omega), List.getElem?_eq_none (by simp; omega)]
/-- A row is kept where only other blocks turn. -/
theorem owns_kept {S : Nat → Prop} {A B : World} {b e s n : Nat} {v : Value} {xs : List Value} (h : A.ownsRow b e s v n xs) (hk : Kept S A B) (hne : ∀ g, v.ownBlock = some g → ¬ S g) : B.ownsRow b e s v n xs := by
  refine ⟨h.1, ?_⟩
  rcases h.2 with h0 | ⟨g, cap, cur, hv, hB, hb, r⟩
  · exact .inl h0
  · refine .inr ⟨g, cap, cur, hv, hB, ?_, r⟩
    have hlt : g < A.heap.size := by
      rcases Nat.lt_or_ge g A.heap.size with h' | h'
      · exact h'
      · rw [Array.getElem?_eq_none h'] at hb; cases hb
    rw [hk.block g hlt (hne g (by rw [hv]; rfl))]; exact hb
theorem Blk.kept {S : Nat → Prop} {A B : World} {g n : Nat} {f : Nat → Value} {t : TypeId} (h : Blk A g n f t) (hk : Kept S A B) (hne : ¬ S g) : Blk B g n f t := by
  have hl := h.lt
  unfold Blk at *
  rw [hk.block g hl hne]; exact h
/-- What collecting keeps between two rounds. -/
def CI (w : World) (av : Nat) (pre : List Nat) (W : World) : Prop :=
  ∃ v, Blk W w.heap.size 1 (fun _ => v) 29 ∧ W.ownsRow (av + 1) 3 1 v pre.length (pv pre) ∧ Below w.heap.size w W
theorem CI.kept {w A B : World} {av L : Nat} {pre : List Nat} (h : CI w av pre A) (hL : w.heap.size < L) (hav : L < av) (hk : Kept (fun k => k = av ∨ k = L) A B) : CI w av pre B := by
  obtain ⟨v, h1, h2, h3⟩ := h
  exact ⟨v, h1.kept hk (by omega), owns_kept h2 hk (fun g hg => by have := (h2.lt g hg).1; omega), hk.below h3 h3.size (fun k hk => by omega)⟩
end M
theorem info_ints : (Try.prog.info? 29).map (fun i => (i.zero, i.size, i.bytes)) = some (some (.slice none 0 0), 1, 24) := by kernel_rfl
set_option maxRecDepth 20000 in
set_option maxHeartbeats 2000000 in
theorem append_seq (k : Nat) (ts : Nat → Tk) (bl : Nat) (v : Value) (w : World) (hB : Bnd k ts) (hbox : w.cell? ⟨bl, 0, none⟩ = some v) (hv : TasksOf w v k ts) :
    Calls Try.prog 81 #[.slice none 0 0, .func (.func 82) #[] #[.pointer (some ⟨bl, 0, none⟩)]] w fun e w' => (∃ r, e = .returned r ∧ w'.ownsRow w.heap.size 3 1 r (ord ts k k).length (pv (ord ts k k))) ∧ Below w.heap.size w w' := by
  obtain ⟨i0, hi, hz0, hz1, hz2⟩ := info_parts info_int
  have hbl := World.block_lt_of_cell? _ _ hbox
  have hbA := (Below.refl w.heap.size w).alloc (Nat.le_refl _) (.cells #[.slice none 0 0] 29)
  have hb1 : Blk (w.alloc (.cells #[.slice none 0 0] 29)) w.heap.size 1 (fun _ => .slice none 0 0) 29 := Blk.fresh w _ 1 _ 29 rfl
  have hS := order_seq k ts bl v w hB hv
  have hboxA := (hbA.cell (p := ⟨bl, 0, none⟩) hbl).trans hbox
  have hk := hB.1
  have hlo := ord_len_le ts k k
  have HO := hide hlo
  have hsA : (w.alloc (.cells #[.slice none 0 0] 29)).heap.size = w.heap.size + 1 := by simp
  clear hbox hv hB hlo
  refine (callsIn_wide (n := 3)).1 ?_
  refine callsIn_of_wp_marks Try.func81 rfl trivial ?_ rfl
  simp only [Try.ntmps81, List.size_toArray, List.length_cons, List.length_nil, Nat.reduceAdd, Nat.reduceSub, Array.replicate_succ, Array.replicate_zero, List.push_toArray, List.append_toArray, List.nil_append, List.cons_append]
  gi_wp2
  refine wp_range (gf := 82) (lb := #[.pointer (some ⟨bl, 0, none⟩)]) rfl (enters_of Try.func82 (by kernel_rfl) rfl) hS hboxA hbA rfl (CI w) (fun av pre A B hav h hk => ?hI) (fun av A hav hA => ?h0)
    (fun x => { tmps := #[.slice none 0 0, .func (.func 82) #[] #[.pointer (some ⟨bl, 0, none⟩)], .pointer (some ⟨w.heap.size, 0, none⟩), undef, .slice none 0 0, .int .i64 (x : Int), .func (.func 82) #[] #[.pointer (some ⟨bl, 0, none⟩)], .int .i64 (x : Int), undef, undef, undef, undef, undef], defers := [] }) ?assign ?body ?done
  case hI => rw [hsA] at hav hk; exact h.kept (by omega) (by omega) hk
  case h0 => exact ⟨_, hb1.down hA, World.ownsRow_nil _ _ _ _, hbA.trans (hA.mono (by simp))⟩
  case assign =>
    intro l x W K hK
    gi_wp2
    exact hK
  case body =>
    rintro l av pre x W ⟨u, hbx, hrow, hbw⟩ hav hlt hpx
    rw [hsA] at hav
    have hpl : pre.length + 1 ≤ 30 := by have := hpx.length_le; have := HO.out; simp at *; omega
    obtain ⟨au, cu, rfl⟩ := own_form hrow
    have c0 : W.cell? ⟨w.heap.size, 0, none⟩ = some (.slice au pre.length cu) := hbx.cell (show 0 < 1 by omega)
    have hbE := (Below.refl W.heap.size W).alloc (Nat.le_refl _) (.cells #[.int .i64 (x : Int)] 3)
    have hrE := owns_below hrow hbE
    have hbxE := hbx.down hbE
    have hsW := hbw.size
    have hlb := hbx.lt
    have HBx := hide hbxE
    have HRow := hide hrow
    clear hbx hbxE hrow hpx hS
    gi_wp2_with (gi_at_builtin; refine wpListIn_append_own _ rfl _ _ 29 rfl (av + 1) 3 i0 _ 1 8 Try.underlying29 hi hz0 hz1 hz2 rfl (by decide) _ pre.length _ rfl hrE ⟨W.heap.size, 0, none⟩ 1 1 [.int .i64 (x : Int)] rfl rfl (news1 W _ _) (by intro u hu; simp at hu; subst hu; rfl) (by unfold maxLen; omega) (by omega) (by simp; omega) ?_)
    intro v' w2 hown hgrow _
    obtain ⟨a2, c2, rfl⟩ := own_form hown
    have hbx2 := HBx.out.grown hrE (by decide) hgrow
    have d0 : w2.cell? ⟨w.heap.size, 0, none⟩ = some (.slice au pre.length cu) := hbx2.cell (show 0 < 1 by omega)
    have t0 := hbx2.thaw 0
    have hkeep : ∀ q, q < W.heap.size → q ≤ av → q ≠ w.heap.size → (w2.setCell ⟨w.heap.size, 0, none⟩ (.slice a2 (pre.length + 1) c2)).heap[q]? = W.heap[q]? := fun q h1 h2 h3 => by
      rw [Go.heap_setCell_other _ _ _ _ h3, hgrow.block q (by simp; omega) (fun e => by have := (hrE.lt q e.symm).1; omega)]
      exact hbE.block q h1
    have hbw2 : Below w.heap.size w (w2.setCell ⟨w.heap.size, 0, none⟩ (.slice a2 (pre.length + 1) c2)) := ((hbw.trans (hbE.mono hsW)).grown hgrow (by simp; omega) (fun q hq => by have := (hrE.lt q hq).1; omega)).setCell (Nat.le_refl _) _
    have hbW2 : Below w.heap.size W (w2.setCell ⟨w.heap.size, 0, none⟩ (.slice a2 (pre.length + 1) c2)) := ((hbE.mono hsW).grown hgrow (by simp; omega) (fun q hq => by have := (hrE.lt q hq).1; omega)).setCell (Nat.le_refl _) _
    have HF := hide (show CI w av (pre ++ [x]) (w2.setCell ⟨w.heap.size, 0, none⟩ (.slice a2 (pre.length + 1) c2)) from by
      refine ⟨_, (hbx2.set 0 _).ext fun j hj => by obtain rfl : j = 0 := by omega
                                                   exact upd_same _ _ _, ?_, hbw2⟩
      rw [List.length_append, pv_snoc]
      exact owns_kept hown (Kept.of_set (S := fun q => q = w.heap.size) _ _ rfl) (fun g hg => by have := (hown.lt g hg).1; omega))
    have HK := hide (And.intro (hkeep av hlt (Nat.le_refl _) (by omega)) (And.intro (hkeep (w.heap.size + 1) (by omega) (by omega) (by omega)) (hkeep (w.heap.size + 1 + 1) (by omega) (by omega) (by omega))))
    clear hgrow hown hrE HBx HRow hbx2 hbw2 hkeep
    gi_wp2
    exact RoundP.intro HF.out HK.out (hbW2.block bl hbl) hbW2
  case done =>
    rintro av W hav ⟨u, hbx, hrow, hbw⟩ hK
    rw [hsA] at hav
    have c0 : W.cell? ⟨w.heap.size, 0, none⟩ = some u := hbx.cell (show 0 < 1 by omega)
    have hkp : Kept (fun q => q = w.heap.size + 1) W (W.putObj (w.heap.size + 1) (.deferred none)) := Kept.of_put _ rfl
    have HR := hide (show (W.putObj (w.heap.size + 1) (.deferred none)).ownsRow w.heap.size 3 1 u (ord ts k k).length (pv (ord ts k k)) ∧ Below w.heap.size w (W.putObj (w.heap.size + 1) (.deferred none)) from
      ⟨owns_mono (owns_kept hrow hkp (fun g hg => by have := (hrow.lt g hg).1; omega)) (by omega), hkp.below hbw hbw.size (fun q hq => by omega)⟩)
    obtain ⟨au, cu, rfl⟩ := own_form hrow
    clear hbx hrow hkp hS
    gi_wp2
    refine ⟨by simp, .inl ⟨_, _, rfl, run_takeDeferred hK, ?_⟩⟩
    exact ⟨_, results_tmp rfl _ _ _, ⟨_, rfl, by rw [hsA]; exact HR.out.1⟩, by rw [hsA]; exact HR.out.2⟩
theorem collect_is (k : Nat) (ts : Nat → Tk) (bl : Nat) (v : Value) (w : World) (hB : Bnd k ts) (hbox : w.cell? ⟨bl, 0, none⟩ = some v) (hv : TasksOf w v k ts) :
    Calls Try.prog 59 #[.func (.func 82) #[] #[.pointer (some ⟨bl, 0, none⟩)]] w fun e w' => (∃ r, e = .returned r ∧ w'.ownsRow w.heap.size 3 1 r (ord ts k k).length (pv (ord ts k k))) ∧ Below w.heap.size w w' := by
  have HA := hide (append_seq k ts bl v w hB hbox hv)
  clear hB hbox hv
  go_enter Try.func59, Try.ntmps59
  go_wp2_with fail
  refine HA.out.mono ?_
  rintro e w1 ⟨⟨r, rfl, hr⟩, hb⟩
  have HR := hide hr
  obtain ⟨a, c, rfl⟩ := own_form hr
  clear hr HA
  go_wp2
  go_ret
  exact ⟨⟨_, rfl, HR.out⟩, hb⟩
theorem tasks_order (a : Option Addr) (k cap : Nat) (w : World) :
    Calls Try.prog 60 #[.slice a k cap] w fun e w' => e = .returned (.func (.func 82) #[] #[.pointer (some ⟨w.heap.size, 0, none⟩)]) ∧ w' = w.alloc (.cells #[.slice a k cap] 25) := by
  go_enter Try.func60, Try.ntmps60
  go_wp2
  go_ret
  exact ⟨rfl, rfl⟩
end Go.Proofs.Ytkfnfgencaplfaa

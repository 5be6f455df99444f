/-
  Plans that are drawn, by whatever bytes; and who stands where in an order.
-/
import Derived.Test.YtkfnfgencaplfaaPlC
import Derived.Test.YtkfnfgencaplfaaPlanNS
import Derived.Test.YtkfnfgencaplfaaPlanNI
import Derived.Test.YtkfnfgencaplfaaSaI
namespace Go.Proofs.Ytkfnfgencaplfaa
open Go.RowKit M
open Clk (upd upd_same upd_other)
namespace M
theorem cur_new {w : World} {a : Option Addr} {n cap : Nat} {f : Nat → Nat} (hv : OctetsOf w (.slice a n cap) n f) (hn : n ≤ 1048576) : CurAt (w.alloc (.cells #[.slice a n cap, .int .i64 0, .int .u64 0] 94)) w.heap.size w.heap.size 0 :=
  ⟨.slice a n cap, n, f, 0, 0, Nat.le_refl _, hn, Nat.le_refl _, Blk.fresh w _ 3 _ _ rfl, w, rfl, hv, (Below.refl w.heap.size w).alloc (Nat.le_refl _) _⟩
/-- What is drawn is a plan that can be read. -/
def DrawnP (w : World) (r : Value) (k : Nat) (ts : Nat → Tk) : Prop := k ≤ 31 ∧ (∀ i, (ts i).nn ≤ 4) ∧ TasksOf w r k ts
theorem DrawnP.short {w : World} {r : Value} {k : Nat} {ts : Nat → Tk} (h : DrawnP w r k ts) : Short k ts := ⟨by have := h.1; omega, fun i _ => by have := h.2.1 i; omega⟩
/-- Where each stands, behind the first i of an order. -/
def pf (o : List Nat) : Nat → (Nat → Int)
  | 0 => fun _ => 0
  | i + 1 => upd (pf o i) (o.getD i 0) (i : Int)
theorem pf_at {o : List Nat} (hd : o.Nodup) : ∀ (i : Nat), i ≤ o.length → ∀ (j x : Nat), j < i → o[j]? = some x → pf o i x = (j : Int)
  | 0, _, j, _, hj, _ => absurd hj (by omega)
  | i + 1, hi, j, x, hj, hx => by
    have hs : o[i]? = some o[i] := List.getElem?_eq_getElem (by omega)
    have hg : o.getD i 0 = o[i] := by rw [List.getD_eq_getElem?_getD, hs]; rfl
    show upd (pf o i) (o.getD i 0) (i : Int) x = _
    rw [hg]
    by_cases hji : j = i
    · subst hji
      rw [hs] at hx
      simp only [Option.some.injEq] at hx
      rw [hx]; unfold upd; rw [if_pos rfl]
    · have hne : x ≠ o[i] := by
        intro e
        subst e
        exact hji ((List.getElem?_inj (show j < o.length by omega) hd).1 (hx.trans hs.symm))
      rw [show upd (pf o i) o[i] (i : Int) x = pf o i x from by unfold upd; rw [if_neg hne]]
      exact pf_at hd i (by omega) j x (by omega) hx
/-- What a task needs, by way of others too, stands ahead of it. -/
theorem Nd.ahead {k : Nat} {ts : Nat → Tk} {t : Nat} (hg : GoodP k ts) (ht : t < k) {y : Nat} (h : Nd ts t y) : ∃ a b : Nat, (ord ts k k)[a]? = some y ∧ (ord ts k k)[b]? = some t ∧ a < b := by
  have key : ∀ (x j : Nat), x < k → j < (ts x).nn → ∀ b : Nat, (ord ts k k)[b]? = some x → ∃ a : Nat, (ord ts k k)[a]? = some (need ts x j) ∧ a < b := by
    intro x j hx hj b hb
    have hlt : b < (ord ts k k).length := by
      rcases Nat.lt_or_ge b (ord ts k k).length with h' | h'
      · exact h'
      · rw [List.getElem?_eq_none h'] at hb; cases hb
    have hsp : ord ts k k = (ord ts k k).take b ++ x :: (ord ts k k).drop (b + 1) := by
      rw [List.getElem?_eq_getElem hlt] at hb
      simp only [Option.some.injEq] at hb
      rw [← hb, ← List.drop_eq_getElem_cons hlt, List.take_append_drop]
    have hm := ord_topo ts k k _ _ _ hsp j hj
    obtain ⟨a, ha⟩ := List.mem_iff_getElem?.1 hm
    rw [List.getElem?_take] at ha
    split at ha
    · exact ⟨a, ha, by omega⟩
    · cases ha
  induction h with
  | one h =>
    obtain ⟨b, hb⟩ := List.mem_iff_getElem?.1 (whole_mem hg.2 ht)
    obtain ⟨a, ha, hab⟩ := key t _ ht h b hb
    exact ⟨a, b, ha, hb, hab⟩
  | more hy h ih =>
    obtain ⟨a, b, ha, hb, hab⟩ := ih
    obtain ⟨c, hc, hca⟩ := key _ _ (hy.lt hg.1 ht) h a ha
    exact ⟨c, b, hc, hb, by omega⟩
end M
set_option maxHeartbeats 2000000 in
theorem draw_good (v : Value) (n : Nat) (f : Nat → Nat) (w : World) (hv : OctetsOf w v n f) (hn : n ≤ 1048576) :
    Calls Try.prog 74 #[v] w fun e w' => (∃ r k ts, e = .returned r ∧ DrawnP w' r k ts) ∧ Below w.heap.size w w' := by
  obtain ⟨a, cap, rfl⟩ := hv.form
  have hal := (Below.refl w.heap.size w).alloc (Nat.le_refl _) (.cells #[.slice a n cap, .int .i64 0, .int .u64 0] 94)
  have HC := hide (cur_new hv hn)
  clear hv
  go_enter Try.func74, Try.ntmps74
  go_wp2_with fail
  refine (cur_plan w.heap.size w.heap.size 0 _ HC.out (by omega)).mono ?_
  rintro e w1 ⟨⟨r, rfl, R, hR, ho, hd⟩, hc, hb⟩
  have HZ := hide (show DrawnP w1 r R.length (tsR R) ∧ Below w.heap.size w w1 from ⟨⟨hR, tsR_nn hd, rows_tasks ho hd⟩, hal.trans (hb.below (Nat.le_refl _) hal.size)⟩)
  clear ho hd hc hb hal HC
  go_wp2
  go_ret
  exact ⟨⟨_, _, _, rfl, HZ.out.1⟩, HZ.out.2⟩
set_option maxHeartbeats 2000000 in
theorem draw_order (v : Value) (n : Nat) (f : Nat → Nat) (w : World) (hv : OctetsOf w v n f) (hn : n ≤ 1048576) :
    Calls Try.prog 45 #[v] w fun e w' => (∃ r k ts, e = .returned r ∧ DrawnP w' r k ts) ∧ Below w.heap.size w w' := by
  obtain ⟨a, cap, rfl⟩ := hv.form
  have HV := hide hv
  clear hv
  go_enter Try.func45, Try.ntmps45
  go_wp2_with fail
  refine (draw_good _ n f _ HV.out hn).mono ?_
  rintro e w1 ⟨⟨r, k, ts, rfl, h⟩, hb⟩
  have HZ := hide (And.intro h hb)
  clear h hb HV
  go_wp2
  go_ret
  exact ⟨⟨_, _, _, rfl, HZ.out.1⟩, HZ.out.2⟩
set_option maxHeartbeats 2000000 in
theorem draw_needs (v : Value) (n : Nat) (f : Nat → Nat) (w : World) (hv : OctetsOf w v n f) (hn : n ≤ 1048576) :
    Calls Try.prog 47 #[v] w fun e w' => (∃ r k ts x, e = .returned (.tuple #[r, .int .i64 x]) ∧ DrawnP w' r k ts) ∧ Below w.heap.size w w' := by
  obtain ⟨a, cap, rfl⟩ := hv.form
  have hal := (Below.refl w.heap.size w).alloc (Nat.le_refl _) (.cells #[.slice a n cap, .int .i64 0, .int .u64 0] 94)
  have HC := hide (cur_new hv hn)
  clear hv
  go_enter Try.func47, Try.ntmps47
  go_wp2_with fail
  have hcl := HC.out.lt
  refine (cur_plan w.heap.size w.heap.size 0 _ HC.out (by omega)).mono ?_
  rintro e w1 ⟨⟨r, rfl, R, hR, ho, hd⟩, hc, hb⟩
  have HB1 := hide (hal.trans (hb.below (Nat.le_refl _) hal.size))
  have HO := hide (And.intro ho hd)
  have HC1 := hide hc
  obtain ⟨ar, cr, rfl⟩ := own_form ho
  clear ho hd hc hb hal HC
  go_wp2_with fail
  rw [show (R.length : Int) + 2 = ((R.length + 2 : Nat) : Int) from by omega]
  refine (cur_pick w.heap.size w.heap.size _ (R.length + 2) _ HC1.out (by omega) (by omega)).mono ?_
  rintro e w2 ⟨⟨y, hy, rfl⟩, hc2, hb2⟩
  have ho2 := hb2.owns HO.out.1 hcl
  have hd2 := HO.out.2.but hb2 hcl
  have HZ := hide (show DrawnP w2 (.slice ar R.length cr) R.length (tsR R) ∧ Below w.heap.size w w2 from ⟨⟨hR, tsR_nn hd2, rows_tasks ho2 hd2⟩, HB1.out.trans (hb2.below (Nat.le_refl _) HB1.out.size)⟩)
  clear ho2 hd2 hc2 hb2 HO HC1 HB1
  go_wp2
  go_ret2
  exact ⟨⟨_, _, _, _, rfl, HZ.out.1⟩, HZ.out.2⟩
end Go.Proofs.Ytkfnfgencaplfaa

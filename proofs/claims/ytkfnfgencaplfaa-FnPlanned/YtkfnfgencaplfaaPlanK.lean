/-
  SlackOf of both texts.
-/
import Derived.Test.YtkfnfgencaplfaaPlanFI
import Derived.Test.YtkfnfgencaplfaaPlanFS
namespace Go.Proofs.Ytkfnfgencaplfaa
open Go.RowKit M
open Clk (upd upd_same upd_other)
namespace M
/-- How much a task's latest beginning is behind its earliest. -/
def slk (ts : Nat → Tk) (k j : Nat) : Int := lat ts (eal ts (ord ts k k)) (ord ts k k).reverse j - est ts (ord ts k k) j
def mixF (p q : Nat → Int) (i : Nat) : Nat → Int := fun j => if j < i then p j - q j else p j
theorem mixF_step (p q : Nat → Int) (i : Nat) : upd (mixF p q i) i (mixF p q i i - q i) = mixF p q (i + 1) := by
  funext j
  unfold upd mixF
  by_cases e : j = i
  · subst e; simp
  · rw [if_neg e]
    by_cases h : j < i
    · rw [if_pos h, if_pos (by omega)]
    · rw [if_neg h, if_neg (by omega)]
theorem mixF_at (p q : Nat → Int) (i : Nat) : mixF p q i i = p i := by unfold mixF; rw [if_neg (Nat.lt_irrefl _)]
/-- Both times of a good plan lie close to nought. -/
theorem times_in {k : Nat} {ts : Nat → Tk} (hg : GoodP k ts) : (∀ y, 0 ≤ est ts (ord ts k k) y ∧ est ts (ord ts k k) y ≤ 93000) ∧ ∀ y, y < k → -93000 ≤ lat ts (eal ts (ord ts k k)) (ord ts k k).reverse y ∧ lat ts (eal ts (ord ts k k)) (ord ts k k).reverse y ≤ 93000 := by
  have hk := hg.1.1
  have hlen : (ord ts k k).length = k := hg.2
  obtain ⟨h1, h2, h3⟩ := est_in hg.1 (ord ts k k) (fun x hx => ord_lt ts k k x hx)
  rw [hlen] at h1 h3
  have h4 := lat_in hg.1 (all := eal ts (ord ts k k)) ⟨h2, by omega⟩ (ord ts k k).reverse (fun x hx => ord_lt ts k k x (List.mem_reverse.1 hx))
  rw [List.length_reverse, hlen] at h4
  refine ⟨fun y => ?_, fun y hy => ?_⟩
  · have := h1 y; omega
  · have := h4 y hy; omega
end M
set_option maxRecDepth 20000 in
set_option maxHeartbeats 2000000 in
theorem impl_slack (v : Value) (k : Nat) (ts : Nat → Tk) (w : World) (hv : TasksOf w v k ts) (hs : Short k ts) (hg : GoodP k ts) :
    Calls Try.prog 31 #[v] w fun e w' => (∃ r, e = .returned (.tuple #[r, .bool true]) ∧ AnsC w' w.heap.size r k (slk ts k)) ∧ Below w.heap.size w w' := by
  have HV := hide hv
  have HG := hide hg
  have HS := hide hs
  have hk := hg.1.1
  obtain ⟨hin1, hin2⟩ := times_in hg
  obtain ⟨a, cap, rfl⟩ := hv.form
  clear hv hs hg
  go_enter Try.func31, Try.ntmps31
  go_wp2_with fail
  refine (impl_early _ k ts _ HV.out HS.out HG.out).mono ?_
  rintro e w1 ⟨⟨r, rfl, hr⟩, hb1⟩
  have hri := hr.ints
  obtain ⟨a1, c1, rfl⟩ := hr.form
  have HR1 := hide hri
  have hs1 := hb1.size
  clear hr hri
  go_wp2_with fail
  refine (impl_late _ k ts _ (HV.out.below hb1) HS.out HG.out).mono ?_
  rintro e w2 ⟨⟨r, rfl, hr⟩, hb2⟩
  obtain ⟨a2, c2, rfl⟩ := hr.form
  have HR2 := hide hr
  have HSl := hide (show ∀ j, slk ts k j = lat ts (eal ts (ord ts k k)) (ord ts k k).reverse j - est ts (ord ts k k) j from fun j => rfl)
  have hin1' := hide hin1
  have hin2' := hide hin2
  clear hr hin1 hin2
  generalize lat ts (eal ts (ord ts k k)) (ord ts k k).reverse = L at *
  generalize est ts (ord ts k k) = E at *
  clear HV HS HG
  go_wp2
  go_loopw [26] (fun y wr => ∃ i : Nat, i ≤ k ∧ y = .int .i64 i ∧ Hid (AnsC wr w1.heap.size (.slice a2 k c2) k (mixF L E i)) ∧ Below w1.heap.size w1 wr) (fun y _ => k - (intOf y).toNat)
  case atStart => exact ⟨0, Nat.zero_le _, rfl, hide (HR2.out.ext fun j _ => by unfold mixF; rw [if_neg (by omega)]), hb2⟩
  case round =>
    rename World => wo
    obtain ⟨i, hik, rfl, HA, hbw⟩ := hrel
    by_cases hlt : i < k
    · rcases HA.out with ⟨_, h0⟩ | ⟨b, cap', e, hB, hob⟩
      · omega
      · cases e
        obtain ⟨_, _, e, hr⟩ := HR1.out
        cases e
        obtain ⟨b1, o1, rfl, hb1', hrow⟩ := hr (by omega)
        have d0 := (hbw.cell (p := ⟨b1, o1 + i, none⟩) hb1').trans (hrow i hlt)
        have d1 := hob.cell hlt
        have t1 := hob.thaw i
        have hi0 : (0 : Int) ≤ (i : Int) := by omega
        have hi1 : (i : Int) < (k : Int) := by omega
        have hl1 := hin1'.out i
        have hl2 := hin2'.out i hlt
        have HA2 := hide (show AnsC (wo.setCell ⟨b, i, none⟩ (.int .i64 (mixF L E i i - E i))) w1.heap.size (.slice (some ⟨b, 0, none⟩) k c2) k (mixF L E (i + 1)) ∧ Below w1.heap.size w1 (wo.setCell ⟨b, i, none⟩ (.int .i64 (mixF L E i i - E i))) from by
          refine ⟨.inr ⟨b, c2, rfl, hB, ?_⟩, hbw.setCell hB _⟩
          rw [← mixF_step]
          exact hob.set i _)
        rw [mixF_at] at d1 HA2
        clear HA hob hr hrow HR1 HR2
        generalize L i = li at *
        generalize E i = ei at *
        go_wp2
        exact ⟨⟨i + 1, by omega, by go_num, hide HA2.out.1, HA2.out.2⟩, by simp [intOf]; omega⟩
    · obtain rfl : k = i := by omega
      have hbf := hb1.trans (hbw.mono hs1)
      have HA2 := hide (show AnsC wo w.heap.size (.slice a2 k c2) k (slk ts k) from (HA.out.ext fun j hj => by rw [HSl.out]; unfold mixF; rw [if_pos hj]).mono hs1)
      clear HA HR1 HR2
      go_wp2
      go_ret2
      exact ⟨⟨_, rfl, HA2.out⟩, hbf⟩
set_option maxHeartbeats 1000000 in
theorem impl_slack_no (v : Value) (k : Nat) (ts : Nat → Tk) (w : World) (hv : TasksOf w v k ts) (hs : Short k ts) (hg : ¬ GoodP k ts) :
    Calls Try.prog 31 #[v] w fun e w' => e = .returned (.tuple #[.slice none 0 0, .bool false]) ∧ Below w.heap.size w w' := by
  have HV := hide hv
  have HG := hide hg
  have HS := hide hs
  obtain ⟨a, cap, rfl⟩ := hv.form
  clear hv hs hg
  go_enter Try.func31, Try.ntmps31
  go_wp2_with fail
  refine (impl_early_no _ k ts _ HV.out HS.out HG.out).mono ?_
  rintro e w1 ⟨rfl, hb1⟩
  clear HV HS HG
  go_wp2
  go_ret2
  exact ⟨rfl, hb1⟩
set_option maxHeartbeats 1000000 in
theorem spec_slack_no (v : Value) (k : Nat) (ts : Nat → Tk) (w : World) (hv : TasksOf w v k ts) (hs : Short k ts) (hg : ¬ GoodP k ts) :
    Calls Try.prog 30 #[v] w fun e w' => e = .returned (.tuple #[.slice none 0 0, .bool false]) ∧ Below w.heap.size w w' := by
  have HV := hide hv
  have HG := hide hg
  have HS := hide hs
  obtain ⟨a, cap, rfl⟩ := hv.form
  clear hv hs hg
  go_enter Try.func30, Try.ntmps30
  go_wp2_with fail
  refine (spec_good _ k ts false _ HV.out HS.out (by rw [decide_eq_false_iff_not]; exact HG.out)).mono ?_
  rintro e w1 ⟨rfl, hb1⟩
  clear HV HS HG
  go_wp2
  go_ret2
  exact ⟨rfl, hb1⟩
set_option maxRecDepth 20000 in
set_option maxHeartbeats 2000000 in
theorem spec_slack (v : Value) (k : Nat) (ts : Nat → Tk) (w : World) (hv : TasksOf w v k ts) (hs : Short k ts) (hg : GoodP k ts) :
    Calls Try.prog 30 #[v] w fun e w' => (∃ r, e = .returned (.tuple #[r, .bool true]) ∧ IntsOf w' r k (slk ts k)) ∧ Below w.heap.size w w' := by
  obtain ⟨i0, hi, hz0, hz1, hz2⟩ := info_parts info_int
  have HV := hide hv
  have HG := hide hg
  have HS := hide hs
  have hk := hg.1.1
  obtain ⟨hin1, hin2⟩ := times_in hg
  obtain ⟨a, cap, rfl⟩ := hv.form
  clear hv hs hg
  go_enter Try.func30, Try.ntmps30
  go_wp2_with fail
  refine (spec_good _ k ts true _ HV.out HS.out (by rw [decide_eq_true_eq]; exact HG.out)).mono ?_
  rintro e w0 ⟨rfl, hb0⟩
  go_wp2_with fail
  refine (l4earliest _ k ts _ (HV.out.below hb0) HG.out).mono ?_
  rintro e w1 ⟨⟨r, rfl, hr⟩, hb1⟩
  obtain ⟨a1, c1, rfl⟩ := hr.form
  have HR1 := hide hr
  have hb01 := hb0.trans (hb1.mono hb0.size)
  have hs1 := hb01.size
  clear hr
  go_wp2_with fail
  refine (l4latest _ k ts _ (HV.out.below hb01) HG.out).mono ?_
  rintro e w2 ⟨⟨r, rfl, hr⟩, hb2⟩
  obtain ⟨a2, c2, rfl⟩ := hr.form
  have HR2 := hide hr
  have HR1' := hide (HR1.out.below hb2)
  have hb02 := hb01.trans (hb2.mono hs1)
  have HSl := hide (show ∀ j, slk ts k j = lat ts (eal ts (ord ts k k)) (ord ts k k).reverse j - est ts (ord ts k k) j from fun j => rfl)
  have hin1' := hide hin1
  have hin2' := hide hin2
  clear hr hin1 hin2 HR1
  generalize lat ts (eal ts (ord ts k k)) (ord ts k k).reverse = L at *
  generalize est ts (ord ts k k) = E at *
  have hs2 := hb02.size
  clear HV HS HG
  go_wp2
  go_loopw [6, 20] (fun x y wr => ∃ i : Nat, i ≤ k ∧ y = .int .i64 i ∧ Hid (wr.ownsRow w2.heap.size 3 1 x i ((List.range i).map (iv (slk ts k)))) ∧ Below w2.heap.size w2 wr) (fun _ y _ => k - (intOf y).toNat)
  case atStart => exact ⟨0, Nat.zero_le _, rfl, hide (World.ownsRow_nil _ _ _ _), Below.refl _ _⟩
  case round =>
    rename World => wo
    obtain ⟨i, hik, rfl, HW, hbw⟩ := hrel
    obtain ⟨ax, cx, rfl⟩ := own_form HW.out
    by_cases hlt : i < k
    · obtain ⟨_, _, e, hr⟩ := HR1'.out
      cases e
      obtain ⟨b1, o1, rfl, hb1', hrow⟩ := hr (by omega)
      obtain ⟨_, _, e, hr2⟩ := HR2.out
      cases e
      obtain ⟨b2, o2, rfl, hb2', hrow2⟩ := hr2 (by omega)
      have d0 := (hbw.cell (p := ⟨b1, o1 + i, none⟩) hb1').trans (hrow i hlt)
      have d1 := (hbw.cell (p := ⟨b2, o2 + i, none⟩) hb2').trans (hrow2 i hlt)
      have hi0 : (0 : Int) ≤ (i : Int) := by omega
      have hi1 : (i : Int) < (k : Int) := by omega
      have hl1 := hin1'.out i
      have hl2 := hin2'.out i hlt
      have hsl := HSl.out i
      have hso := hbw.size
      have hbE := (Below.refl wo.heap.size wo).alloc (Nat.le_refl _) (.cells #[.int .i64 (L i - E i)] 3)
      have hrE := owns_below HW.out hbE
      clear HW hr hr2 hrow hrow2 HR1' HR2
      generalize L i = li at *
      generalize E i = ei at *
      go_wp2_with (at_builtin; refine wpList_append_own _ rfl _ _ 29 rfl w2.heap.size 3 i0 _ 1 8 Try.underlying29 hi hz0 hz1 hz2 rfl (by decide) _ i _ rfl hrE ⟨wo.heap.size, 0, none⟩ 1 1 [.int .i64 (li - ei)] rfl rfl (news1 wo _ _) (by intro u hu; simp at hu; subst hu; rfl) (by unfold maxLen; omega) (by omega) (by simp; omega) ?_)
      intro v7 w7 hown7 hgrow7 _
      have hb7 : Below w2.heap.size w2 w7 := (hbw.trans (hbE.mono hso)).grown hgrow7 (by simp; omega) (fun q hq => (hrE.lt q hq).1)
      obtain ⟨a7, c7, rfl⟩ := own_form hown7
      have HW7 := hide (show w7.ownsRow w2.heap.size 3 1 (.slice a7 (i + 1) c7) (i + 1) ((List.range (i + 1)).map (iv (slk ts k))) from by rw [range_snoc, show iv (slk ts k) i = .int .i64 (li - ei) by unfold iv; rw [hsl]]; exact hown7)
      clear hgrow7 hown7 hrE hbE
      go_wp2
      exact ⟨⟨i + 1, by omega, by go_num, HW7, hb7⟩, by simp [intOf]; omega⟩
    · obtain rfl : k = i := by omega
      have hbf := hb02.trans (hbw.mono hs2)
      have HA2 := hide (own_ints HW.out)
      clear HW HR1' HR2
      go_wp2
      go_ret2
      exact ⟨⟨_, rfl, HA2.out⟩, hbf⟩
end Go.Proofs.Ytkfnfgencaplfaa

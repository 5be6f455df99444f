/-
  Which queues are good: the program's text. Each function returns whether; nothing that was there is turned.
-/
import Derived.Test.YtfjdbenbiakbbaaJoin11
namespace Go.Proofs.Ytfjdbenbiakbbaa
open Go.RowKit M
open Go.Sort (grow)
namespace M
/-- The plain bounds of a queue. -/
structure Head (q : Qu) : Prop where
  w0 : 1 ≤ q.win
  w1 : q.win ≤ 10
  s : q.sent.length ≤ 40
  gs : q.got.length ≤ q.sent.length
  b0 : 0 ≤ q.base
  bg : q.base ≤ q.got.length
  l : q.line.length ≤ 40
def TxAt (q : Qu) (i : Nat) : Prop := ∀ s, q.sent[i]? = some s → s.size ≤ 12 ∧ (i < q.got.length → q.got[i]? = some s)
def PkAt (q : Qu) (i : Nat) : Prop := ∀ p, q.line[i]? = some p → PkOk q p
theorem goodQ_iff (q : Qu) : GoodQ q ↔ Head q ∧ (∀ i, i < q.sent.length → TxAt q i) ∧ ∀ i, i < q.line.length → PkAt q i := by
  constructor
  · intro h
    exact ⟨⟨h.w0, h.w1, h.s40, h.gs, h.b0, h.bg, h.l40⟩, fun i _ s hs => ⟨h.tx i s hs, fun hg => h.beg i s hg hs⟩, fun i _ p hp => h.pk i p hp⟩
  · rintro ⟨h, h1, h2⟩
    have lt1 : ∀ i s, q.sent[i]? = some s → i < q.sent.length := fun i s hs => (List.getElem?_eq_some_iff.1 hs).1
    exact ⟨h.w0, h.w1, h.s, h.gs, h.b0, h.bg, h.l, fun i s hs => (h1 i (lt1 i s hs) s hs).1, fun i s hg hs => (h1 i (lt1 i s hs) s hs).2 hg, fun i p hp => h2 i (List.getElem?_eq_some_iff.1 hp).1 p hp⟩
theorem GoodQ.head {q : Qu} (h : GoodQ q) : Head q := ((goodQ_iff q).1 h).1
theorem come_iff (q : Qu) (hg : q.got.length ≤ q.sent.length) : q.got = q.sent.take q.got.length ↔ ∀ i, i < q.got.length → ∀ s, q.sent[i]? = some s → q.got[i]? = some s := by
  constructor
  · intro h i hi s hs
    rw [h, List.getElem?_take_of_lt hi]
    exact hs
  · intro h
    apply List.ext_getElem?
    intro i
    by_cases hi : i < q.got.length
    · have h2 : i < q.sent.length := by omega
      rw [h i hi _ (List.getElem?_eq_getElem h2), List.getElem?_take_of_lt hi, List.getElem?_eq_getElem h2]
    · rw [List.getElem?_eq_none (by omega), List.getElem?_eq_none (by rw [List.length_take]; omega)]
/-- The first number that is not to be sent yet. -/
def eow (q : Qu) : Int := if q.base + q.win ≤ q.sent.length then q.base + q.win else q.sent.length
end M
theorem impl_window (n : Int) (w : World) :
    Calls Try.prog 60 #[.int .i64 n] w fun e w' => e = .returned (.bool (inB n 1 10)) ∧ w' = w := by
  go_enter Try.func60, Try.ntmps60
  go_wp2_with (go_at_call 63; refine (impl_in _ _ _ _).mono ?_; rintro e w' ⟨rfl, rfl⟩)
  go_ret
  exact ⟨rfl, rfl⟩
theorem long_text (x : ByteArray) (w : World) (b : Bool) (hx : x.size ≤ maxLen) (hb : BP b (12 < x.size)) :
    Calls Try.prog 85 #[.string x] w fun e w' => e = .returned (.bool b) ∧ w' = w := by
  unfold maxLen at hx
  cases b with
  | false =>
    have h0 : ¬ 12 < x.size := fun h2 => by have := hb.2 h2; cases this
    clear hb
    go_enter Try.func85, Try.ntmps85
    go_wp2
    go_ret
    exact ⟨ret_bool (by simp; omega), rfl⟩
  | true =>
    have h0 : 12 < x.size := hb.1 rfl
    clear hb
    go_enter Try.func85, Try.ntmps85
    go_wp2
    go_ret
    exact ⟨ret_bool (by simp; omega), rfl⟩
abbrev longF : Value := .func (.func 85) #[] #[]
set_option maxHeartbeats 1000000 in
theorem index_long (v : Value) (l : Txs) (w : World) (hv : TxsOf w v l) (hn : l.length ≤ 1048576) (hnm : ∀ x ∈ l, x.size ≤ maxLen) :
    Calls Try.prog 92 #[v, longF] w fun e w' => (∃ r : Int, e = .returned (.int .i64 r) ∧ (0 ≤ r ↔ ∃ x ∈ l, 12 < x.size)) ∧ w' = w := by
  obtain ⟨a, cap, rfl, hr⟩ := hv
  have HR := hide hr
  have HN := hide hnm
  clear hr hnm
  go_enter Try.func92, Try.ntmps92
  go_wp2
  go_loop [8] (fun i => ∃ k : Nat, k ≤ l.length ∧ i = .int .i64 k ∧ Hid (∀ x ∈ l.take k, ¬ 12 < x.size)) (fun i => l.length - (intOf i).toNat)
  case atStart => exact ⟨0, Nat.zero_le _, rfl, hide (by simp)⟩
  case round =>
    obtain ⟨k, hk, rfl, HX⟩ := hrel
    by_cases hlt : k < l.length
    · obtain ⟨b, off, rfl, hb, hrow⟩ := HR.out (by omega)
      obtain ⟨y, hy⟩ : ∃ y, l[k]? = some y := ⟨l[k], List.getElem?_eq_getElem hlt⟩
      have c0 := hrow k y hy
      have HY := hide hy
      have HS := hide (HN.out y (List.mem_of_getElem? hy))
      clear hrow hy HR HN
      obtain ⟨bb, hbb⟩ := bp_ex (12 < y.size)
      have HBB := hide hbb
      clear hbb
      cases bb with
      | true =>
        have HM := hide (show ∃ x ∈ l, 12 < x.size from ⟨y, List.mem_of_getElem? HY.out, HBB.out.1 rfl⟩)
        go_wp2_with (go_at_call 85; refine (long_text y _ true HS.out HBB.out).mono ?_; rintro e w' ⟨rfl, rfl⟩)
        go_ret
        exact ⟨⟨_, rfl, ⟨fun _ => HM.out, fun _ => by omega⟩⟩, rfl⟩
      | false =>
        have HX2 := hide (show ∀ x ∈ l.take (k + 1), ¬ 12 < x.size from by
          rw [take_snoc' HY.out]
          intro x hx
          rcases List.mem_append.1 hx with h | h
          · exact HX.out x h
          · simp at h; subst h; exact fun h2 => by have := HBB.out.2 h2; cases this)
        clear HX
        go_wp2_with (go_at_call 85; refine (long_text y _ false HS.out HBB.out).mono ?_; rintro e w' ⟨rfl, rfl⟩)
        go_round
        case rel => exact ⟨k + 1, by omega, by go_num, HX2⟩
        case measure => simp [intOf]; omega
    · have HB := hide (show ¬ ∃ x ∈ l, 12 < x.size from by
        have := HX.out
        rw [List.take_of_length_le (by omega)] at this
        rintro ⟨x, h1, h2⟩; exact this x h1 h2)
      clear HX HR HN
      go_wp2
      go_ret
      exact ⟨⟨_, rfl, ⟨fun h => absurd h (by decide), fun h => absurd h HB.out⟩⟩, rfl⟩
theorem contains_long (v : Value) (l : Txs) (b : Bool) (w : World) (hv : TxsOf w v l) (hn : l.length ≤ 1048576) (hnm : ∀ x ∈ l, x.size ≤ maxLen) (hb : BP b (∃ x ∈ l, 12 < x.size)) :
    Calls Try.prog 84 #[v, longF] w fun e w' => e = .returned (.bool b) ∧ w' = w := by
  have HV := hide hv
  have HN := hide hnm
  have HB := hide hb
  obtain ⟨a, cap, rfl⟩ := hv.form
  clear hv hnm hb
  go_enter Try.func84, Try.ntmps84
  go_wp2_with fail
  refine (index_long _ l _ HV.out hn HN.out).mono ?_
  rintro e w' ⟨⟨r, rfl, hr⟩, rfl⟩
  have HR := hide hr
  clear hr
  go_wp2
  go_ret
  exact ⟨ret_bool (by
    rw [Bool.eq_iff_iff]
    have h1 := HR.out
    have h2 := HB.out
    unfold BP at h2
    rw [h2, ← h1]
    simp), rfl⟩
set_option maxHeartbeats 1000000 in
theorem impl_sent (v : Value) (l : Txs) (b : Bool) (w : World) (hv : TxsOf w v l) (hn : l.length ≤ 1048576) (hnm : ∀ x ∈ l, x.size ≤ maxLen) (hb : BP b (l.length ≤ 40 ∧ ∀ x ∈ l, x.size ≤ 12)) :
    Calls Try.prog 61 #[v] w fun e w' => e = .returned (.bool b) ∧ w' = w := by
  have HV := hide hv
  have HN := hide hnm
  have HB := hide hb
  obtain ⟨a, cap, rfl⟩ := hv.form
  clear hv hnm hb
  by_cases h40 : l.length ≤ 40
  · have h40' : (l.length : Int) ≤ 40 := by omega
    obtain ⟨c, hc⟩ := bp_ex (∃ x ∈ l, 12 < x.size)
    have HC := hide hc
    have HF := hide (show (!c) = b from by
      rw [Bool.eq_iff_iff]
      have h1 := HB.out
      unfold BP at h1 hc
      rw [h1, Bool.not_eq_true', ← Bool.not_eq_true, hc]
      constructor
      · intro h
        exact ⟨h40, fun x hx => by
          rcases Nat.lt_or_ge 12 x.size with h' | h'
          · exact absurd ⟨x, hx, h'⟩ h
          · exact h'⟩
      · rintro ⟨_, h⟩ ⟨x, hx, h2⟩
        have := h x hx
        omega)
    clear hc
    go_enter Try.func61, Try.ntmps61
    go_wp2_with (go_at_call 84; refine (contains_long _ l c _ HV.out hn HN.out HC.out).mono ?_; rintro e w' ⟨rfl, rfl⟩)
    go_ret
    exact ⟨ret_bool HF.out, rfl⟩
  · have h40' : ¬ (l.length : Int) ≤ 40 := by omega
    have HF := hide (BP.no HB.out (fun h => h40 h.1))
    go_enter Try.func61, Try.ntmps61
    go_wp2
    go_ret
    exact ⟨ret_bool HF.out.symm, rfl⟩
set_option maxHeartbeats 1000000 in
theorem impl_come (v u : Value) (g l : Txs) (b : Bool) (w : World) (hv : TxsOf w v g) (hu : TxC w u l) (hn : g.length ≤ 1048576) (hn2 : l.length ≤ 1048576) (hb : BP b (g.length ≤ l.length ∧ g = l.take g.length)) :
    Calls Try.prog 62 #[v, u] w fun e w' => e = .returned (.bool b) ∧ Below w.heap.size w w' := by
  have HB := hide hb
  clear hb
  obtain ⟨a, cap, rfl, hr⟩ := hv
  obtain ⟨a2, cap2, rfl, hc2, hr2⟩ := hu.parts
  have HR := hide hr
  have HR2 := hide hr2
  have HU := hide hu
  clear hr hr2 hu
  by_cases hle : g.length ≤ l.length
  · have hle' : (g.length : Int) ≤ (l.length : Int) := by omega
    have hcap : (g.length : Int) ≤ (cap2 : Int) := by omega
    by_cases h0 : g.length = 0
    · have hg : g = [] := List.length_eq_zero_iff.1 h0
      subst hg
      have HF := hide (show b = true from HB.out.2 ⟨by simp, by simp⟩)
      have hb9 : (0 : Nat) ≤ 9223372036854775807 := by omega
      clear HB HR HR2 h0
      simp only [List.length_nil] at hle hle' hcap ⊢
      cases a2 with
      | none =>
        obtain ⟨z1, z2, z3⟩ := HU.out.nil0
        subst z3
        subst z2
        go_enter Try.func62, Try.ntmps62
        go_wp2_with (go_at_call 86; refine (Try.slices_Equal_string_empty _ _ _ _ _ _ hb9).mono ?_; rintro e w' ⟨rfl, rfl⟩)
        go_ret
        exact ⟨ret_bool (by rw [HF.out]), Below.refl _ _⟩
      | some ad =>
        go_enter Try.func62, Try.ntmps62
        go_wp2_with (go_at_call 86; refine (Try.slices_Equal_string_empty _ _ _ _ _ _ hb9).mono ?_; rintro e w' ⟨rfl, rfl⟩)
        go_ret
        exact ⟨ret_bool (by rw [HF.out]), Below.refl _ _⟩
    · obtain ⟨b1, o1, rfl, hb1, hrow⟩ := HR.out (by omega)
      obtain ⟨b2, o2, rfl, hb2, hrow2⟩ := HR2.out (by omega)
      have HE := hide (Try.slices_Equal_string b1 o1 g.length cap b2 o2 g.length cap2 g l w (Nat.le_refl _) hle (by omega) (by omega) (fun j hj => by
        rw [List.getD_eq_getElem?_getD, List.getElem?_eq_getElem hj]
        exact hrow j _ (List.getElem?_eq_getElem hj)) (fun j hj => by
        rw [List.getD_eq_getElem?_getD, List.getElem?_eq_getElem hj]
        exact hrow2 j _ (List.getElem?_eq_getElem hj)))
      have HF := hide (show decide (g = l.take g.length) = b from by
        rw [Bool.eq_iff_iff, decide_eq_true_iff]
        have h1 := HB.out
        unfold BP at h1
        rw [h1]
        exact ⟨fun h => ⟨hle, h⟩, fun h => h.2⟩)
      have hs0 : (0 : Int) ≤ (g.length : Int) := by omega
      clear hrow hrow2 HR HR2 HU h0
      go_enter Try.func62, Try.ntmps62
      go_wp2_with (go_at_call 86; refine HE.out.mono ?_; rintro e w' ⟨rfl, qq, rfl⟩)
      go_ret
      exact ⟨ret_bool HF.out, below_drewN (Below.refl _ w) _⟩
  · have hle' : ¬ (g.length : Int) ≤ (l.length : Int) := by omega
    have HF := hide (BP.no HB.out (fun h => hle h.1))
    clear HR HR2 HU
    go_enter Try.func62, Try.ntmps62
    go_wp2
    go_ret
    exact ⟨ret_bool HF.out.symm, Below.refl _ _⟩
set_option maxHeartbeats 1000000 in
theorem impl_eow (v1 v3 v4 : Value) (q : Qu) (w : World) (hv : QuQ w v1 v3 v4 q) (h0 : Head q) :
    Calls Try.prog 87 #[qv v1 v3 v4 q] w fun e w' => e = .returned (.int .i64 (eow q)) ∧ Below w.heap.size w w' := by
  obtain ⟨a1, c1, rfl⟩ := hv.s.form
  obtain ⟨a3, c3, rfl⟩ := hv.g.form
  obtain ⟨a4, c4, rfl⟩ := hv.l.form
  have hbA := (Below.refl w.heap.size w).alloc (Nat.le_refl _) (.cells (qarr (.slice a1 q.sent.length c1) (.slice a3 q.got.length c3) (.slice a4 q.line.length c4) q) 32)
  have k1 := h0.w0
  have k2 := h0.w1
  have k3 := h0.b0
  have k4 : q.base ≤ 40 := by have := h0.bg; have := h0.gs; have := h0.s; omega
  have k5 : q.sent.length ≤ 40 := h0.s
  clear hv h0
  by_cases hle : q.base + q.win ≤ (q.sent.length : Int)
  · have HF := hide (show eow q = q.base + q.win from by unfold eow; rw [if_pos hle])
    go_enter Try.func87, Try.ntmps87
    go_wp2
    go_ret
    exact ⟨ret_int (by rw [HF.out]; omega), hbA⟩
  · have HF := hide (show eow q = q.sent.length from by unfold eow; rw [if_neg hle])
    go_enter Try.func87, Try.ntmps87
    go_wp2
    go_ret
    exact ⟨ret_int (by rw [HF.out]; omega), hbA⟩
end Go.Proofs.Ytfjdbenbiakbbaa

/-
  The specification's choices of a table: l7Build.
-/
import Derived.Test.YtfiooclkefmijaaDoorBddV
import Derived.Test.YtfiooclkefmijaaDoorBddE
namespace Go.Proofs.YtfiooclkefmijaaDoor
open Go.RowKit M
open Clk (upd upd_same upd_other)
namespace M
open Bdd
theorem fl3_get : ∀ (l : List Ch) (i : Nat) (c : Ch), l[i]? = some c → (fl3 l)[i * 3]? = some (.int .i64 c.v) ∧ (fl3 l)[i * 3 + 1]? = some (.int .i64 c.no) ∧ (fl3 l)[i * 3 + 2]? = some (.int .i64 c.yes)
  | [], i, c, h => by simp at h
  | d :: r, 0, c, h => by
    simp at h; subst h
    exact ⟨rfl, rfl, rfl⟩
  | d :: r, i + 1, c, h => by
    have := fl3_get r i c (by simpa using h)
    rw [show (i + 1) * 3 = i * 3 + 3 by omega]
    exact this
/-- The cells of the choices of a row of the call's own. -/
theorem AnsD.cells {w : World} {B : Nat} {v : Value} {l : List Ch} (h : AnsD w B v l) : ∃ a cap, v = .slice a l.length cap ∧ (0 < l.length → ∃ g, a = some ⟨g, 0, none⟩ ∧ g < w.heap.size ∧ ∀ i c, l[i]? = some c → w.cell? ⟨g, i * 3, none⟩ = some (.int .i64 c.v) ∧ w.cell? ⟨g, i * 3 + 1, none⟩ = some (.int .i64 c.no) ∧ w.cell? ⟨g, i * 3 + 2, none⟩ = some (.int .i64 c.yes)) := by
  obtain ⟨a, cap, hv, hr⟩ := own_cells h (fl3_len l)
  refine ⟨a, cap, hv, fun hn => ?_⟩
  obtain ⟨g, ha, _, hlt, hc⟩ := hr hn
  exact ⟨g, ha, hlt, fun i c hi => by
    obtain ⟨h0, h1, h2⟩ := fl3_get l i c hi
    exact ⟨hc _ _ h0, hc _ _ h1, hc _ _ h2⟩⟩
/-- What l7Build leaves. -/
def BldA (w : World) (B : Nat) (n : Int) (l : List Ch) (e : Ending) (w' : World) : Prop := (∃ v, e = .returned (.tuple #[.int .i64 n, v]) ∧ AnsD w' B v l) ∧ Below B w w'
def Builds (k : Nat) : Prop := ∀ (t : T) (v : Nat) (l : List Ch) (x : Value) (B : Nat) (w : World), k + v = 6 → (∀ u, u < v → Ind t u) → l.length + 2 ^ k ≤ 900 → AnsD w B x l → B ≤ w.heap.size →
  Calls Tryd.prog 57 #[uv t, .int .i64 (v : Int), x] w fun e w' => BldA w B (bld k t v l).1 (bld k t v l).2 e w'
theorem bld_len : ∀ (k : Nat) (t : T) (v : Nat) (l : List Ch), (bld k t v l).2.length + 1 ≤ l.length + 2 ^ k
  | 0, t, v, l => by simp [bld]
  | k + 1, t, v, l => by
    have h0 := bld_len k t (v + 1) l
    have h1 := bld_len k (hf t v false) (v + 1) l
    have h2 := bld_len k (hf t v true) (v + 1) (bld k (hf t v false) (v + 1) l).2
    have h3 := put_len ⟨v, (bld k (hf t v false) (v + 1) l).1, (bld k (hf t v true) (v + 1) (bld k (hf t v false) (v + 1) l).2).1⟩ (bld k (hf t v true) (v + 1) (bld k (hf t v false) (v + 1) l).2).2
    have h4 : 0 < 2 ^ k := Nat.two_pow_pos k
    rw [bld, Nat.pow_succ]
    split
    · simp only; omega
    split
    · simp only; omega
    split
    · omega
    · omega
theorem tn_inj {s t : T} : (tn s == tn t) = decide (s = t) := by
  by_cases h : s = t
  · subst h; simp
  · have : s.toNat ≠ t.toNat := fun e => h (BitVec.eq_of_toNat_eq e)
    simp only [tn_def, h, decide_false, beq_eq_false_iff_ne, ne_eq]; omega
end M
theorem bld_no (v : Int) (l : List Bdd.Ch) (x : Value) (B : Nat) (w : World) (h : AnsD w B x l) :
    Calls Tryd.prog 57 #[uv 0, .int .i64 v, x] w fun e w' => BldA w B (-2) l e w' := by
  have HH := hide h
  obtain ⟨a, cap, rfl⟩ := h.form
  rw [show uv 0 = .int .u64 0 from rfl]
  clear h
  go_enter Tryd.func57, Tryd.ntmps57
  go_wp2
  go_ret2
  exact ⟨⟨_, rfl, HH.out⟩, Below.refl _ _⟩
theorem bld_yes (v : Int) (l : List Bdd.Ch) (x : Value) (B : Nat) (w : World) (h : AnsD w B x l) :
    Calls Tryd.prog 57 #[uv Bdd.all1, .int .i64 v, x] w fun e w' => BldA w B (-1) l e w' := by
  have HH := hide h
  obtain ⟨a, cap, rfl⟩ := h.form
  rw [show uv Bdd.all1 = .int .u64 18446744073709551615 from rfl]
  clear h
  go_enter Tryd.func57, Tryd.ntmps57
  go_wp2
  go_ret2
  exact ⟨⟨_, rfl, HH.out⟩, Below.refl _ _⟩
theorem bld_same (k : Nat) (ih : Builds k) (t : Bdd.T) (v : Nat) (l : List Bdd.Ch) (x : Value) (B : Nat) (w : World) (hk : k + 1 + v = 6) (hI : ∀ u, u < v → Bdd.Ind t u) (hl : l.length + 2 ^ (k + 1) ≤ 900) (h : AnsD w B x l) (hB : B ≤ w.heap.size) (t0 : t ≠ 0) (t1 : t ≠ Bdd.all1) (he : Bdd.hf t v false = Bdd.hf t v true) :
    Calls Tryd.prog 57 #[uv t, .int .i64 (v : Int), x] w fun e w' => BldA w B (Bdd.bld k t (v + 1) l).1 (Bdd.bld k t (v + 1) l).2 e w' := by
  have hv : v < 6 := by omega
  rw [Nat.pow_succ] at hl
  have H1 := hide (ih t (v + 1) l x B w (by omega) (fun u hu => by
    by_cases e : u = v
    · subst e; exact Bdd.ind_of_eq hv he
    · exact hI u (by omega)) (by omega) h hB)
  have HW := hide (fun b w => l7_half t v hv b w)
  obtain ⟨a, cap, rfl⟩ := h.form
  have z0 := tn_zero t0
  have z1 := tn_all t1
  have hd : ∀ s : Bdd.T, (tn s == tn s) = true := fun s => by simp
  have hvw : (v : Int) ≤ 5 := by omega
  generalize Bdd.bld k t (v + 1) l = N at *
  obtain ⟨n, ln⟩ := N
  have HE := hide he
  clear ih hI hl h t0 t1 he hB hk hv
  have H0 := hide (HW.out false w)
  have Ht := hide (HW.out true w)
  rw [HE.out] at H0
  generalize Bdd.hf t v true = s at *
  clear HW HE
  go_enter Tryd.func57, Tryd.ntmps57
  go_wp2_with fail
  refine H0.out.mono ?_
  rintro e w1 ⟨rfl, rfl⟩
  go_wp2_with fail
  refine Ht.out.mono ?_
  rintro e w1 ⟨rfl, rfl⟩
  go_wp2_with fail
  refine H1.out.mono ?_
  rintro e w2 ⟨⟨x', rfl, hA⟩, hb⟩
  clear H0 Ht H1
  go_wp2
  go_ret2
  exact ⟨⟨_, rfl, hA⟩, hb⟩
theorem eql3 (c d : Bdd.Ch) (b : Bool) (hb : decide (c = d) = b) (w : World) : (Op.equalIn 10000 66 (.agg #[.int .i64 c.v, .int .i64 c.no, .int .i64 c.yes]) (.agg #[.int .i64 d.v, .int .i64 d.no, .int .i64 d.yes])).run Tryd.prog w = .ok b w := by
  rw [← hb]; exact eq3 c d w
set_option maxRecDepth 20000 in
set_option maxHeartbeats 4000000 in
theorem bld_step (k : Nat) (ih : Builds k) (t : Bdd.T) (v : Nat) (l : List Bdd.Ch) (x : Value) (B : Nat) (w : World) (hk : k + 1 + v = 6) (hI : ∀ u, u < v → Bdd.Ind t u) (hl : l.length + 2 ^ (k + 1) ≤ 900) (h : AnsD w B x l) (hB : B ≤ w.heap.size) (t0 : t ≠ 0) (t1 : t ≠ Bdd.all1) (he : Bdd.hf t v false ≠ Bdd.hf t v true) :
    Calls Tryd.prog 57 #[uv t, .int .i64 (v : Int), x] w fun e w' => BldA w B (Bdd.bld (k + 1) t v l).1 (Bdd.bld (k + 1) t v l).2 e w' := by
  have hv : v < 6 := by omega
  have hn : ∀ b, ∀ u, u < v + 1 → Bdd.Ind (Bdd.hf t v b) u := fun b u hu => by
    by_cases e : u = v
    · subst e; exact Bdd.ind_hf t hv _
    · exact (hI u (by omega)).keep (by omega) hv _
  rw [Nat.pow_succ] at hl
  have hp : 0 < 2 ^ k := Nat.two_pow_pos k
  have n1 := bld_len k (Bdd.hf t v false) (v + 1) l
  have n2 := bld_len k (Bdd.hf t v true) (v + 1) (Bdd.bld k (Bdd.hf t v false) (v + 1) l).2
  have H0 := hide (l7_half t v hv false w)
  have Ht := hide (l7_half t v hv true w)
  have H1 := hide (ih (Bdd.hf t v false) (v + 1) l x B w (by omega) (hn false) (by omega) h hB)
  have H2 := hide (fun x1 w1 (h1 : AnsD w1 B x1 (Bdd.bld k (Bdd.hf t v false) (v + 1) l).2) (hB1 : B ≤ w1.heap.size) => ih (Bdd.hf t v true) (v + 1) (Bdd.bld k (Bdd.hf t v false) (v + 1) l).2 x1 B w1 (by omega) (hn true) (by omega) h1 hB1)
  have HL := hide (show (Bdd.bld k (Bdd.hf t v true) (v + 1) (Bdd.bld k (Bdd.hf t v false) (v + 1) l).2).2.length ≤ 900 by omega)
  have HE := hide (show Bdd.bld (k + 1) t v l = Bdd.put ⟨v, (Bdd.bld k (Bdd.hf t v false) (v + 1) l).1, (Bdd.bld k (Bdd.hf t v true) (v + 1) (Bdd.bld k (Bdd.hf t v false) (v + 1) l).2).1⟩ (Bdd.bld k (Bdd.hf t v true) (v + 1) (Bdd.bld k (Bdd.hf t v false) (v + 1) l).2).2 from by rw [Bdd.bld, if_neg t0, if_neg t1, if_neg he])
  have hd : (tn (Bdd.hf t v false) == tn (Bdd.hf t v true)) = false := by rw [tn_inj]; simp [he]
  obtain ⟨a0, cap0, rfl⟩ := h.form
  generalize Bdd.bld (k + 1) t v l = N at *
  generalize Bdd.bld k (Bdd.hf t v false) (v + 1) l = A at *
  generalize Bdd.bld k (Bdd.hf t v true) (v + 1) A.2 = C at *
  generalize Bdd.hf t v false = tf at *
  generalize Bdd.hf t v true = tt at *
  obtain ⟨a, la⟩ := A
  obtain ⟨b, lb⟩ := C
  simp only at *
  have z0 := tn_zero t0
  have z1 := tn_all t1
  have hvw : (v : Int) ≤ 5 := by omega
  have HB := hide hB
  clear ih hI hl h t0 t1 hn n1 n2 hp hk hv he hB
  obtain ⟨i0, hi, hz0, hz1, hz2⟩ := info_parts info_choice
  go_enter Tryd.func57, Tryd.ntmps57
  go_wp2_with fail
  refine H0.out.mono ?_
  rintro e w ⟨rfl, rfl⟩
  go_wp2_with fail
  refine Ht.out.mono ?_
  rintro e w ⟨rfl, rfl⟩
  go_wp2_with fail
  refine H1.out.mono ?_
  rintro e w1 ⟨⟨x1, rfl, hA1⟩, hb1⟩
  have hs1 : B ≤ w1.heap.size := Nat.le_trans HB.out hb1.size
  go_wp2_with fail
  refine (H2.out x1 w1 hA1 hs1).mono ?_
  rintro e w2 ⟨⟨x2, rfl, hA2⟩, hb⟩
  have hb2 := hb1.trans hb
  have hs2 : B ≤ w2.heap.size := Nat.le_trans HB.out hb2.size
  have HA2 := hide hA2
  have HB2 := hide hb2
  obtain ⟨aS, cS, rfl, hrow⟩ := hA2.cells
  have HR := hide hrow
  clear hA1 hb1 hb hA2 hb2 hrow H0 Ht H1 H2 hs1
  obtain ⟨c, hcd⟩ : ∃ c : Bdd.Ch, (⟨v, a, b⟩ : Bdd.Ch) = c := ⟨_, rfl⟩
  have e1 : (v : Int) = c.v := by rw [← hcd]
  have e2 : a = c.no := by rw [← hcd]
  have e3 : b = c.yes := by rw [← hcd]
  rw [hcd] at HE
  obtain ⟨w3, hw3⟩ : ∃ w3, w2.alloc (.cells #[.int .i64 c.v, .int .i64 c.no, .int .i64 c.yes] 66) = w3 := ⟨_, rfl⟩
  have hd3 : Below w2.heap.size w2 w3 := by rw [← hw3]; exact (Below.refl _ _).alloc (Nat.le_refl _) _
  have hcb : Blk w3 w2.heap.size 3 (c3f c) 66 := by rw [← hw3]; exact Blk.fresh w2 #[.int .i64 c.v, .int .i64 c.no, .int .i64 c.yes] 3 (c3f c) 66 rfl
  have HD3 := hide hd3
  have HCB := hide hcb
  have Hw3 := hide hw3
  clear hd3 hcb hw3 hcd
  subst e2 e3
  rw [e1] at *
  go_wp2_with fail
  rw [Hw3.out]
  go_loopw [13, 14, 60] (fun _ _ i wr => ∃ n : Nat, n ≤ lb.length ∧ i = .int .i64 n ∧ Hid ((∀ j d, j < n → lb[j]? = some d → d ≠ c) ∧ Below w3.heap.size w3 wr)) (fun _ _ i _ => lb.length - (intOf i).toNat)
  case atStart => exact ⟨0, Nat.zero_le _, rfl, hide ⟨fun j d hj => absurd hj (by omega), Below.refl _ _⟩⟩
  case round =>
    obtain ⟨n, hn, rfl, HI⟩ := hrel
    have hn9 : n ≤ 900 := Nat.le_trans hn HL.out
    by_cases hlt : n < lb.length
    · obtain ⟨g, rfl, hg, hrow⟩ := HR.out (by omega)
      obtain ⟨d, hd⟩ : ∃ d, lb[n]? = some d := ⟨lb[n], by rw [List.getElem?_eq_getElem hlt]⟩
      obtain ⟨r0, r1, r2⟩ := hrow n d hd
      obtain ⟨hno, hbr⟩ := HI.out
      have hb23 := HD3.out.trans (hbr.mono HD3.out.size)
      have k0 := (hb23.cell (p := ⟨g, n * 3, none⟩) hg).trans r0
      have k1 := (hb23.cell (p := ⟨g, n * 3 + 1, none⟩) hg).trans r1
      have k2 := (hb23.cell (p := ⟨g, n * 3 + 2, none⟩) hg).trans r2
      have hcr := HCB.out.down hbr
      have q0 := (hcr.alloc (.cells #[.int .i64 d.v, .int .i64 d.no, .int .i64 d.yes] 66)).cell (show 0 < 3 by omega)
      have q1 := (hcr.alloc (.cells #[.int .i64 d.v, .int .i64 d.no, .int .i64 d.yes] 66)).cell (show 1 < 3 by omega)
      have q2' := (hcr.alloc (.cells #[.int .i64 d.v, .int .i64 d.no, .int .i64 d.yes] 66)).cell (show 2 < 3 by omega)
      simp only [c3f, if_true] at q0 q1 q2'
      simp at q1 q2'
      have hbA := hbr.alloc hbr.size (.cells #[.int .i64 d.v, .int .i64 d.no, .int .i64 d.yes] 66)
      have hlti : (n : Int) < (lb.length : Int) := by omega
      by_cases hdc : d = c
      · have heq := eql3 d c true (by simp [hdc])
        have HE2 := hide (show N = ((n : Int), lb) from by
          rw [HE.out]
          have hm : c ∈ lb := by rw [← hdc]; exact List.mem_of_getElem? hd
          have hix : lb.idxOf c = n := by
            have h1 := List.idxOf_lt_length_of_mem hm
            rcases Nat.lt_trichotomy (lb.idxOf c) n with h2 | h2 | h2
            · exact absurd (by simp) (hno _ _ h2 (List.getElem?_eq_getElem h1))
            · exact h2
            · exfalso
              have := List.not_of_lt_findIdx (p := (· == c)) (xs := lb) (i := n) h2
              have h3 : lb[n] = d := by rw [List.getElem?_eq_getElem hlt] at hd; injection hd
              rw [h3, hdc] at this
              simp at this
          unfold Bdd.put
          rw [if_pos hm, hix])
        have HFin := hide (show AnsD (wr.alloc (.cells #[.int .i64 d.v, .int .i64 d.no, .int .i64 d.yes] 66)) B (.slice (some ⟨g, 0, none⟩) lb.length cS) lb ∧ Below B w (wr.alloc (.cells #[.int .i64 d.v, .int .i64 d.no, .int .i64 d.yes] 66)) from by
          have hz := HD3.out.trans (hbA.mono HD3.out.size)
          exact ⟨HA2.out.down hz, HB2.out.trans (hz.mono hs2)⟩)
        clear HI hno hbr hb23 hcr hbA hrow r0 r1 r2 HR HD3 HCB Hw3 HA2 HB2 hd HE hdc
        go_wp2
        go_ret2
        rw [HE2.out]
        exact ⟨⟨_, rfl, HFin.out.1⟩, HFin.out.2⟩
      · have heq := eql3 d c false (by simp [hdc])
        have HI2 := hide (show (∀ j d, j < n + 1 → lb[j]? = some d → d ≠ c) ∧ Below w3.heap.size w3 (wr.alloc (.cells #[.int .i64 d.v, .int .i64 d.no, .int .i64 d.yes] 66)) from ⟨fun j d' hj hd' => by
          by_cases e : j = n
          · subst e; rw [hd] at hd'; injection hd' with hd'; rw [← hd']; exact hdc
          · exact hno j d' (by omega) hd', hbA⟩)
        clear HI hno hbr hb23 hcr hbA hrow r0 r1 r2 HR HD3 HCB Hw3 HA2 HB2 hd HE hdc
        go_wp2
        exact ⟨⟨n + 1, by omega, by go_num, HI2⟩, by simp [intOf]; omega⟩
    · obtain rfl : n = lb.length := by omega
      obtain ⟨hno, hbr⟩ := HI.out
      have hb23 := HD3.out.trans (hbr.mono HD3.out.size)
      have hcr := HCB.out.down hbr
      have q0 := hcr.cell (show 0 < 3 by omega)
      have q1 := hcr.cell (show 1 < 3 by omega)
      have q2' := hcr.cell (show 2 < 3 by omega)
      simp only [c3f, if_true] at q0 q1 q2'
      simp at q1 q2'
      have hown : AnsD wr B (.slice aS lb.length cS) lb := HA2.out.down hb23
      have HE2 := hide (show N = ((lb.length : Int), lb ++ [c]) from by
        rw [HE.out]
        have hm : c ∉ lb := fun hm => by
          obtain ⟨j, hj, e⟩ := List.getElem_of_mem hm
          exact hno j c hj (by rw [List.getElem?_eq_getElem hj, e]) rfl
        unfold Bdd.put
        rw [if_neg hm])
      have hBr : B ≤ wr.heap.size := Nat.le_trans hs2 hb23.size
      have HB9 := hide (HB2.out.trans (hb23.mono hs2))
      have hlt' : ¬ ((lb.length : Int) < (lb.length : Int)) := by omega
      clear HI hno hbr hb23 hcr HR HD3 HCB Hw3 HA2 HB2 HE hlt
      go_wp2_with (at_builtin; refine wpList_append_own _ rfl _ _ 25 rfl B 66 i0 _ 3 24 Tryd.underlying25 hi hz0 hz1 hz2 rfl (by decide) _ lb.length _ rfl (hown.alloc _) ⟨wr.heap.size, 0, none⟩ 1 1 (c3 c) rfl rfl ?c1 ?c2 ?c3 ?c4 ?c5 ?_)
      try (case c1 => exact news3 wr _ _ _ _ _ rfl)
      case c2 => exact ⟨rfl, rfl, rfl⟩
      case c3 => unfold maxLen; omega
      case c4 => omega
      case c5 => omega
      intro v' w4 hown4 hgrow _
      have hb4 : Below B w w4 := (HB9.out.alloc hBr _).grown hgrow (by simp; omega) (own_ge hown)
      obtain ⟨a4, c4, rfl⟩ := own_form hown4
      have HO4 := hide (show AnsD w4 B (.slice a4 (lb.length + 1) c4) (lb ++ [c]) from by
        unfold AnsD
        rw [fl3_snoc, List.length_append]
        exact hown4)
      clear hown4 hgrow hown
      go_wp2
      go_ret2
      rw [HE2.out]
      exact ⟨⟨_, rfl, HO4.out⟩, hb4⟩
theorem builds_ok : ∀ k, Builds k := by
  intro k
  induction k with
  | zero =>
    intro t v l x B w hk hI hl h hB
    rcases Bdd.none_left (t := t) (fun u hu => hI u (by omega)) with rfl | rfl
    · exact bld_no _ l x B w h
    · exact bld_yes _ l x B w h
  | succ k ih =>
    intro t v l x B w hk hI hl h hB
    by_cases t0 : t = 0
    · subst t0
      rw [show Bdd.bld (k + 1) 0 v l = (-2, l) by rw [Bdd.bld, if_pos rfl]]
      exact bld_no _ l x B w h
    by_cases t1 : t = Bdd.all1
    · subst t1
      rw [show Bdd.bld (k + 1) Bdd.all1 v l = (-1, l) by rw [Bdd.bld, if_neg t0, if_pos rfl]]
      exact bld_yes _ l x B w h
    by_cases he : Bdd.hf t v false = Bdd.hf t v true
    · rw [show Bdd.bld (k + 1) t v l = Bdd.bld k t (v + 1) l by rw [Bdd.bld, if_neg t0, if_neg t1, if_pos he]]
      exact bld_same k ih t v l x B w hk hI hl h hB t0 t1 he
    · exact bld_step k ih t v l x B w hk hI hl h hB t0 t1 he
end Go.Proofs.YtfiooclkefmijaaDoor

/-
  Items of events tell each event's Version; items that are cut are good, tell what they told, and are ahead: plain mathematics.
-/
import Derived.Test.YtbajiamkgffhkaaDoorItV
import Derived.Test.YtbajiamkgffhkaaDoorItT
import Derived.Test.YtbajiamkgffhkaaDoorItE
namespace Go.Proofs.YtbajiamkgffhkaaDoor
open Go.RowKit M
open Clk (upd upd_same upd_other)
namespace M
theorem u_le_ah {n : Nat} {l : Nat → Im} (h : Ris n l) {q : Nat} (hq : q < n) : (l q).u ≤ ah l n := by
  rw [← ah_succ]; exact ah_mono h (by omega) (Nat.le_refl _)
theorem ap_new {n : Nat} {l : Nat → Im} {id x : Int} (h : Ris n l) (hid : id = ah l n + 1) : vA (kpt n l x + 1) (apL n l id x) id = x := by
  have hk := kpt_le n l x
  rw [vA_of (j := kpt n l x) (by omega) (fun q hq => ?_) (by unfold apL; rw [upd_same]; exact Int.le_refl _)]
  · unfold apL; rw [upd_same]
  · unfold apL
    rw [upd_other _ _ _ _ (by omega)]
    have := u_le_ah h (show q < n by omega)
    omega
theorem ap_old {n : Nat} {l : Nat → Im} {id x q : Int} (h : Ris n l) (hid : id = ah l n + 1) (h1 : 1 ≤ q) (h2 : q ≤ ah l n) : vA (kpt n l x + 1) (apL n l id x) q = vA n l q := by
  obtain ⟨j, hj, ha, hb⟩ := first_at l q h1 n h2
  rw [vA_of hj ha hb]
  have hk := kpt_ge n l x
  by_cases e : j = kpt n l x
  · have hv : (l j).v = x := by
      unfold kpt at e
      split at e
      · rename_i hc
        obtain ⟨m, rfl⟩ : ∃ m, n = m + 1 := ⟨n - 1, by omega⟩
        obtain rfl : j = m := by omega
        exact hc.2
      · omega
    rw [vA_of (j := j) (by omega) (fun p hp => by unfold apL; rw [upd_other _ _ _ _ (by omega)]; exact ha p hp) (by unfold apL; rw [e, upd_same]; show q ≤ id; omega)]
    unfold apL
    rw [e, upd_same, ← e, hv]
  · rw [vA_of (j := j) (by omega) (fun p hp => by unfold apL; rw [upd_other _ _ _ _ (by omega)]; exact ha p hp) (by unfold apL; rw [upd_other _ _ _ _ e]; exact hb)]
    unfold apL
    rw [upd_other _ _ _ _ e]
theorem vA_ga (es : List Ev) : ∀ k : Nat, k ≤ es.length → Pf es k → ∀ j e, j < k → es[j]? = some e → vA (ga es k).1 (ga es k).2 ((j : Int) + 1) = e.ver
  | 0, _, _, j, e, hj, _ => absurd hj (by omega)
  | k + 1, hk, hp, j, e, hj, he => by
    obtain ⟨i1, i2, -, -⟩ := ga_inv es k (by omega) (hp.mono (by omega))
    obtain ⟨x, hx⟩ : ∃ x, es[k]? = some x := ⟨es[k], List.getElem?_eq_getElem (by omega)⟩
    obtain ⟨p1, p2, p3⟩ := hp k x (by omega) hx
    rw [ga_succ hx]
    have hid : x.id = ah (ga es k).2 (ga es k).1 + 1 := by rw [i2, p2]
    by_cases f : j = k
    · subst f
      rw [he] at hx
      obtain rfl : e = x := by simpa using hx
      rw [show (j : Int) + 1 = e.id from p2.symm]
      exact ap_new i1 hid
    · show vA (kpt _ _ _ + 1) (apL _ _ _ _) _ = _
      rw [ap_old i1 hid (by omega) (by rw [i2]; omega)]
      exact vA_ga es k (by omega) (hp.mono (by omega)) j e (by omega) he
theorem iok_step {es : List Ev} (h : IOk es) {k : Nat} {e : Ev} (hk : k < es.length) (he : es[k]? = some e) : GoodP (ga es k).1 (ga es k).2 e.id e.ver := by
  rcases Classical.em (GoodP (ga es k).1 (ga es k).2 e.id e.ver ∧ e.ok = true) with q | q
  · exact q.1
  · exact absurd h (step_no hk he q)
theorem iok_good {es : List Ev} (h : IOk es) : GoodI (ga es es.length).1 (ga es es.length).2 := ⟨h.2.2, (ga_inv es es.length (Nat.le_refl _) h.2.1).1⟩
/- What is cut. -/
theorem cut_ris {n c : Nat} {l : Nat → Im} {x : Int} (h : Ris n l) (hc : Beg n l x c) (h2 : x ≤ ah l n) : Ris c (cutL l x c) := fun i hi => by
  obtain ⟨k, rfl⟩ : ∃ k, c = k + 1 := ⟨c - 1, by omega⟩
  show okI (pre (upd l k ⟨x, (l k).v⟩) i) (upd l k ⟨x, (l k).v⟩ i)
  rw [pre_ext (l' := l) (n := k) (fun j hj => upd_other _ _ _ _ (by omega)) (by omega)]
  have hkn : k < n := by have := hc.1; omega
  by_cases e : i = k
  · subst e
    rw [upd_same]
    have h3 := h i hkn
    have h4 := hc.top h2
    have h5 := hc.2.1 i (by omega)
    rw [← ah_pre] at h5
    unfold okI at h3 ⊢
    show _ < x ∧ x ≤ 1000 ∧ _ < (l i).v ∧ (l i).v ≤ 1000000
    omega
  · rw [upd_other _ _ _ _ e]
    exact h i (by omega)
theorem cut_ah {n c : Nat} {l : Nat → Im} {x : Int} (hc : Beg n l x c) (h0 : 0 ≤ x) (h2 : x ≤ ah l n) : ah (cutL l x c) c = x := by
  cases c with
  | zero =>
    rw [ah_zero]
    rcases Nat.eq_zero_or_pos n with rfl | hn
    · rw [ah_zero] at h2; omega
    · have := hc.2.2 hn
      rw [ah_zero] at this
      omega
  | succ k => show (upd l k ⟨x, (l k).v⟩ k).u = x; rw [upd_same]
theorem cut_v {l : Nat → Im} {x : Int} (c q : Nat) : (cutL l x c q).v = (l q).v := by
  cases c with
  | zero => rfl
  | succ k =>
    show (upd l k ⟨x, (l k).v⟩ q).v = (l q).v
    by_cases e : q = k
    · subst e; rw [upd_same]
    · rw [upd_other _ _ _ _ e]
theorem cut_vA {n c : Nat} {l : Nat → Im} {x q : Int} (hc : Beg n l x c) (h0 : 0 ≤ x) (h2 : x ≤ ah l n) (h1 : 1 ≤ q) (hq : q ≤ x) : vA c (cutL l x c) q = vA n l q := by
  obtain ⟨j, hj, ha, hb⟩ := first_at (cutL l x c) q h1 c (by rw [cut_ah hc h0 h2]; exact hq)
  rw [vA_of hj ha hb, cut_v]
  obtain ⟨k, rfl⟩ : ∃ k, c = k + 1 := ⟨c - 1, by omega⟩
  refine (vA_of (j := j) (by have := hc.1; omega) (fun p hp => ?_) ?_).symm
  · have := ha p hp
    change (upd l k ⟨x, (l k).v⟩ p).u < q at this
    rwa [upd_other _ _ _ _ (by omega)] at this
  · by_cases e : j = k
    · subst e
      have := hc.top h2
      omega
    · change q ≤ (upd l k ⟨x, (l k).v⟩ j).u at hb
      rwa [upd_other _ _ _ _ e] at hb
theorem cut_ra {n c : Nat} {l : Nat → Im} {x : Int} (h : GoodI n l) (hc : Beg n l x c) (h0 : 0 ≤ x) (h2 : x ≤ ah l n) : RA c (cutL l x c) n l true true := by
  have hr := cut_ris h.2 hc h2
  have ha := cut_ah hc h0 h2
  have hcn := hc.1
  have h20 := h.1
  refine .inl ⟨⟨by omega, hr⟩, h, ⟨⟨x, (lst (cutL l x c) c).v⟩, ⟨⟨h0, by rw [ha]; exact Int.le_refl _, h2, fun q q1 q2 => cut_vA hc h0 h2 q1 q2, fun q1 => by rw [ha] at q1; change x < x at q1; omega⟩, fun hz => ?_, fun hz => ?_⟩, ?_⟩, rfl⟩
  · change x = 0 at hz
    subst hz
    rw [hc.zero]
    rfl
  · change 0 < x at hz
    have hp := hc.pos (by omega) h2
    obtain ⟨k, rfl⟩ : ∃ k, c = k + 1 := ⟨c - 1, by omega⟩
    show (cutL l x (k + 1) k).v = vA (k + 1) (cutL l x (k + 1)) x
    rw [vA_in hr (i := k) (by omega) (by have := hr.ah_lt (show k < k + 1 by omega); rw [← ah_succ, ha] at this; exact this) (by rw [← ah_succ, ha]; exact Int.le_refl _)]
  · rw [ha]; simp
theorem cut_good {n c : Nat} {l : Nat → Im} {x : Int} (h : GoodI n l) (hc : Beg n l x c) (h2 : x ≤ ah l n) : GoodI c (cutL l x c) := ⟨by have := hc.1; have := h.1; omega, cut_ris h.2 hc h2⟩
end M
end Go.Proofs.YtbajiamkgffhkaaDoor

/-
  The specification's firing of a step, and its CanFire.
-/
import Derived.Test.YthilapalgakhhaaNetMark
import Derived.Test.YthilapalgakhhaaNetGoodS
import Derived.OwnWalk
import Derived.WalkSmall
namespace Go.Proofs.Ythilapalgakhhaa
open Go.RowKit M
open Clk (upd upd_same upd_other)
namespace M
theorem IntsOf.ext {w : World} {v : Value} {n : Nat} {f g : Nat → Int} (h : IntsOf w v n f) (e : ∀ i, i < n → f i = g i) : IntsOf w v n g := by
  obtain ⟨a, cap, hv, hr⟩ := h
  refine ⟨a, cap, hv, fun hn => ?_⟩
  obtain ⟨b, off, ha, hlt, hrow⟩ := hr hn
  exact ⟨b, off, ha, hlt, fun i hi => by rw [hrow i hi, e i hi]⟩
/-- n numbers at the head of a block of the call's own, with room behind. -/
def OwnB (w : World) (g n cap : Nat) (f : Nat → Int) : Prop := n ≤ cap ∧ ∃ h : Nat → Value, Blk w g cap h 3 ∧ ∀ i, i < n → h i = .int .i64 (f i)
theorem own_b {w : World} {B n : Nat} {v : Value} {f : Nat → Int} (h : w.ownsRow B 3 1 v n ((List.range n).map (iv f))) (hn : 0 < n) : ∃ g cap, v = .slice (some ⟨g, 0, none⟩) n cap ∧ B ≤ g ∧ OwnB w g n cap f := by
  rcases h.2 with ⟨_, h0⟩ | ⟨g, cap, cur, rfl, hB, hg, hc, hm, hs, ht⟩
  · omega
  · refine ⟨g, cap, rfl, hB, hc, fun i => cur.getD i undef, ?_, fun i hi => ?_⟩
    · unfold Blk
      rw [hg]
      congr 2
      apply Array.ext_getElem?
      intro j
      by_cases hj : j < cap
      · rw [cf_get _ hj]
        have : j < cur.size := by omega
        simp [Array.getD, this]
      · rw [Array.getElem?_eq_none (by omega), Array.getElem?_eq_none (by rw [cf_size]; omega)]
    · have h1 : ((List.range n).map (iv f))[i]? = some (iv f i) := by rw [List.getElem?_map, List.getElem?_range hi]; rfl
      rw [← ht, List.getElem?_take_of_lt (by omega), Array.getElem?_toList] at h1
      have : i < cur.size := by omega
      simp [Array.getD, this] at h1 ⊢
      exact h1
theorem OwnB.cell {w : World} {g n cap : Nat} {f : Nat → Int} (h : OwnB w g n cap f) {i : Nat} (hi : i < n) : w.cell? ⟨g, i, none⟩ = some (.int .i64 (f i)) := by
  obtain ⟨hc, k, hb, hk⟩ := h
  rw [← hk i hi]; exact hb.cell (by omega)
theorem OwnB.thaw {w : World} {g n cap : Nat} {f : Nat → Int} (h : OwnB w g n cap f) (i : Nat) : w.frozen? ⟨g, i, none⟩ = false := by
  obtain ⟨hc, k, hb, hk⟩ := h
  exact hb.thaw i
theorem OwnB.lt {w : World} {g n cap : Nat} {f : Nat → Int} (h : OwnB w g n cap f) : g < w.heap.size := by
  obtain ⟨hc, k, hb, hk⟩ := h
  exact hb.lt
theorem OwnB.down {w w' : World} {g n cap : Nat} {f : Nat → Int} (h : OwnB w g n cap f) (hb : Below w.heap.size w w') : OwnB w' g n cap f := by
  obtain ⟨hc, k, hk, he⟩ := h
  exact ⟨hc, k, hk.down hb, he⟩
theorem OwnB.set {w : World} {g n cap : Nat} {f : Nat → Int} (h : OwnB w g n cap f) (i : Nat) (x : Int) : OwnB (w.setCell ⟨g, i, none⟩ (.int .i64 x)) g n cap (upd f i x) := by
  obtain ⟨hc, k, hk, he⟩ := h
  refine ⟨hc, _, hk.set i _, fun j hj => ?_⟩
  by_cases e : j = i
  · subst e; rw [upd_same, upd_same]
  · rw [upd_other _ _ _ _ e, upd_other _ _ _ _ e]; exact he j hj
theorem OwnB.ints {w : World} {g n cap : Nat} {f : Nat → Int} (h : OwnB w g n cap f) : IntsOf w (.slice (some ⟨g, 0, none⟩) n cap) n f :=
  ⟨_, _, rfl, fun _ => ⟨g, 0, rfl, h.lt, fun i hi => by rw [Nat.zero_add]; exact h.cell hi⟩⟩
/-- What the specification tells of a step that is fired. -/
def Fired (w : World) (n : Nat) (r : Option (Nat → Int)) (R : Value) : Prop := (r = none ∧ R = .slice none 0 0) ∨ ∃ c, r = some c ∧ IntsOf w R n c
/-- The same, in memory of its own. -/
def FiredO (w : World) (n : Nat) (r : Option (Nat → Int)) (R : Value) : Prop := (r = none ∧ R = .slice none 0 0) ∨ ∃ c, r = some c ∧ ∃ g cap, R = .slice (some ⟨g, 0, none⟩) n cap ∧ OwnB w g n cap c
theorem FiredO.fired {w : World} {n : Nat} {r : Option (Nat → Int)} {R : Value} (h : FiredO w n r R) : Fired w n r R := by
  rcases h with h | ⟨c, hc, g, cap, rfl, hb⟩
  · exact .inl h
  · exact .inr ⟨c, hc, hb.ints⟩
end M
set_option maxHeartbeats 1000000 in
theorem l3fire_own (x y v : Value) (s : Sp) (n : Nat) (m : Nat → Int) (r : Option (Nat → Int)) (w : World) (hx : IntsOf w x s.ni s.fi) (hy : IntsOf w y s.no s.fo) (hv : IntsOf w v n m) (hg : GoodS n s) (hn1 : 1 ≤ n) (hn8 : n ≤ 8) (hm : Mk n m) (hr : fire s m = r) :
    Calls Try.prog 52 #[.agg #[x, y], v] w fun e w' => (∃ R, e = .returned (.tuple #[R, .bool r.isSome]) ∧ FiredO w' n r R) ∧ Below w.heap.size w w' := by
  obtain ⟨i0, hi, hz0, hz1, hz2⟩ := info_parts info_int
  obtain ⟨ax, cx, rfl, rx⟩ := hx
  obtain ⟨ay, cy, rfl, ry⟩ := hy
  obtain ⟨av, cv, rfl, rv⟩ := hv
  obtain ⟨bv, ov, rfl, hbv, hrow⟩ := rv (by omega)
  have RX := hide rx
  have RY := hide ry
  have HG := hide hg
  have HM := hide hm
  have HR := hide hr
  have HRV := hide hrow
  have hl1 : s.ni ≤ 8 := by have := ris_len hg.1 (by omega); omega
  have hl2 : s.no ≤ 8 := by have := ris_len hg.2 (by omega); omega
  have hb0 := ((Below.refl w.heap.size w).alloc (Nat.le_refl _) (.cells #[.slice ax s.ni cx, .slice ay s.no cy] 60)).alloc (by simp) (.cells #[] 3)
  clear rx ry hg hm hr hrow rv
  go_enter Try.func52, Try.ntmps52
  go_wp2_with (at_builtin; refine wpList_append_own _ rfl _ _ 33 rfl (w.heap.size + 1) 3 i0 _ 1 8 Try.underlying33 hi hz0 hz1 hz2 rfl (by decide) _ 0 [] rfl ?own ⟨bv, ov, none⟩ n cv ((List.range n).map (iv m)) rfl ?c0 ?c1 ?c2 ?c3 ?c4 ?c5 ?_)
  case own =>
    have := World.ownsRow_made (base := w.heap.size + 1) (e := 3) (size := 1) (w.alloc (.cells #[.slice ax s.ni cx, .slice ay s.no cy] 60)) #[] 0 (by simp) (Nat.zero_le _) rfl
    rw [World.size_alloc] at this
    exact this
  case c0 => simp
  case c1 =>
    intro j u hj
    have hjn : j < n := by have := (List.getElem?_eq_some_iff.1 hj).1; simpa using this
    rw [List.getElem?_map, List.getElem?_range hjn] at hj
    simp only [Option.map_some, Option.some.injEq] at hj
    subst hj
    rw [Addr.add_lit]
    exact (hb0.cell (p := ⟨bv, ov + j, none⟩) hbv).trans (HRV.out j hjn)
  case c2 => intro u hu; obtain ⟨j, _, rfl⟩ := List.mem_map.1 hu; rfl
  case c3 => unfold maxLen; omega
  case c4 => omega
  case c5 => simp
  intro v' w4 hown4 hgrow _
  obtain ⟨g, cap, rfl, hBg, hOB⟩ := own_b hown4 (by omega)
  have hb4 : Below w.heap.size w w4 := hb0.grown hgrow hb0.size (fun j hj => by simp [Value.ownBlock] at hj; omega)
  have hst : Blk w4 w.heap.size 2 (p2 (.slice ax s.ni cx) (.slice ay s.no cy)) 60 := by
    have h0 := (Blk.fresh w _ 2 (p2 (.slice ax s.ni cx) (.slice ay s.no cy)) 60 rfl).alloc (.cells #[] 3)
    unfold Blk at h0 ⊢
    rw [hgrow.block w.heap.size (by simp; omega) (by simp [Value.ownBlock])]
    exact h0
  have H4 := hide (And.intro hOB (And.intro hst hb4))
  obtain ⟨e0, e1, -, -⟩ := hst.pair
  have hRet := hide (show ∀ c w', OwnB w' g n cap c → r = some c → FiredO w' n r (.slice (some ⟨g, 0, none⟩) n cap) from fun c w' h e => .inr ⟨c, e, g, cap, rfl, h⟩)
  clear hown4 hgrow hOB hst hb4 hb0 HRV hi hz0 hz1 hz2
  go_wp2
  go_loopw [17] (fun i wr => ∃ (j : Nat) (c : Nat → Int), j ≤ s.ni ∧ i = .int .i64 j ∧ Hid (takes s.fi m j = some c) ∧ Hid (OwnB wr g n cap c ∧ Blk wr w.heap.size 2 (p2 (.slice ax s.ni cx) (.slice ay s.no cy)) 60 ∧ Below w.heap.size w wr)) (fun i _ => s.ni - (intOf i).toNat)
  case atStart => exact ⟨0, m, Nat.zero_le _, rfl, hide rfl, H4⟩
  case round =>
    rename World => wo
    obtain ⟨j, c, hj, rfl, HT, HF⟩ := hrel
    obtain ⟨hB0, hB1, hbw⟩ := HF.out
    obtain ⟨e0, e1, -, -⟩ := hB1.pair
    have hc := takes_mk HG.out.1 HM.out hj HT.out
    by_cases hlt : j < s.ni
    · obtain ⟨bs, os, rfl, hbs, hrow⟩ := RX.out (by omega)
      have hfk := (HG.out.1 j hlt).1
      obtain ⟨z, hz⟩ := Int.eq_ofNat_of_zero_le hfk.1
      have hzt : (s.fi j).toNat = z := by omega
      have d0 := (hbw.cell (p := ⟨bs, os + j, none⟩) hbs).trans (hrow j hlt)
      rw [hz] at d0
      have hzn : z < n := by omega
      have d1 := hB0.cell hzn
      have f1 := hB0.thaw z
      have hi0 : (0 : Int) ≤ (z : Int) := by omega
      have hi1 : (z : Int) < (n : Int) := by omega
      obtain ⟨b1, b2⟩ := hc.1 z
      by_cases h0 : c z = 0
      · have hn := takes_stop HT.out (by rw [hzt]; exact h0) hlt
        have er : r = none := by rw [← HR.out]; exact fire_takes hn
        subst er
        rw [h0] at d1
        clear hB0 hB1 RX RY HG HM HR HT HF hrow hfk hz hzt hc b1 b2 h0 hn H4 hRet
        go_wp2
        go_ret2
        exact ⟨⟨_, rfl, .inl ⟨rfl, rfl⟩⟩, hbw⟩
      · have HT2 := hide (takes_go HT.out (by rw [hzt]; exact h0))
        rw [hzt] at HT2
        have HF2 := hide (And.intro (hB0.set z (c z - 1)) (And.intro (hB1.set_other (g' := g) (by omega) z (.int .i64 (c z - 1))) (hbw.setCell (p := ⟨g, z, none⟩) (by simp; omega) (.int .i64 (c z - 1)))))
        have hne : (c z == 0) = false := by simp [h0]
        clear hB0 hB1 RX RY HG HM HR HT HF hrow hfk hz hzt hc H4 hRet
        generalize hcz : c z = cz at *
        clear hcz
        go_wp2
        exact ⟨⟨j + 1, _, by omega, by go_num, HT2, HF2⟩, by simp [intOf]; omega⟩
    · obtain rfl : j = s.ni := by omega
      have HFG := hide (fire_gives HT.out)
      have HC := hide hc
      clear hB0 hB1 hbw RX HT hc H4
      go_wp2
      go_loopw [36] (fun i wr => ∃ (j : Nat) (c2 : Nat → Int), j ≤ s.no ∧ i = .int .i64 j ∧ Hid (gives s.fo c j = some c2) ∧ Hid (OwnB wr g n cap c2 ∧ Blk wr w.heap.size 2 (p2 (.slice ax s.ni cx) (.slice ay s.no cy)) 60 ∧ Below w.heap.size w wr)) (fun i _ => s.no - (intOf i).toNat)
      case atStart => exact ⟨0, c, Nat.zero_le _, rfl, hide rfl, HF⟩
      case round =>
        obtain ⟨j, c2, hj, rfl, HT, HF⟩ := hrel
        obtain ⟨hB0, hB1, hbw⟩ := HF.out
        obtain ⟨e0, e1, -, -⟩ := hB1.pair
        have hc := gives_mk HG.out.2 HC.out hj HT.out
        by_cases hlt : j < s.no
        · obtain ⟨bs, os, rfl, hbs, hrow⟩ := RY.out (by omega)
          have hfk := (HG.out.2 j hlt).1
          obtain ⟨z, hz⟩ := Int.eq_ofNat_of_zero_le hfk.1
          have hzt : (s.fo j).toNat = z := by omega
          have d0 := (hbw.cell (p := ⟨bs, os + j, none⟩) hbs).trans (hrow j hlt)
          rw [hz] at d0
          have hzn : z < n := by omega
          have d1 := hB0.cell hzn
          have f1 := hB0.thaw z
          have hi0 : (0 : Int) ≤ (z : Int) := by omega
          have hi1 : (z : Int) < (n : Int) := by omega
          obtain ⟨b1, b2⟩ := hc.1 z
          have HF2 := hide (And.intro (hB0.set z (c2 z + 1)) (And.intro (hB1.set_other (g' := g) (by omega) z (.int .i64 (c2 z + 1))) (hbw.setCell (p := ⟨g, z, none⟩) (by simp; omega) (.int .i64 (c2 z + 1)))))
          by_cases h0 : c2 z = 9
          · have hn := gives_stop HT.out (by rw [hzt]; exact h0) hlt
            have er : r = none := by rw [← HR.out, HFG.out]; exact hn
            subst er
            rw [h0] at d1
            clear hB0 hB1 RY HG HM HR HT HF hrow hfk hz hzt hc b1 b2 hn HFG HC hRet
            go_wp2
            go_ret2
            refine ⟨⟨_, rfl, .inl ⟨rfl, rfl⟩⟩, ?_⟩
            exact hbw.setCell (by simp; omega) _
          · have HT2 := hide (gives_go HT.out (by rw [hzt]; exact h0))
            rw [hzt] at HT2
            have hne : ¬ (c2 z + 1 > 9) := by omega
            clear hB0 hB1 RY HG HM HR HT HF hrow hfk hz hzt hc HFG HC hRet
            generalize hcz : c2 z = cz at *
            clear hcz
            go_wp2
            exact ⟨⟨j + 1, _, by omega, by go_num, HT2, HF2⟩, by simp [intOf]; omega⟩
        · obtain rfl : j = s.no := by omega
          have er : r = some c2 := by rw [← HR.out, HFG.out]; exact HT.out
          have HFi := hide (hRet.out c2 _ hB0 er)
          subst er
          clear hB0 hB1 RY HG HM HR HT HF hc HFG HC hRet
          go_wp2
          go_ret2
          exact ⟨⟨_, rfl, HFi.out⟩, hbw⟩
theorem l3fire (x y v : Value) (s : Sp) (n : Nat) (m : Nat → Int) (r : Option (Nat → Int)) (w : World) (hx : IntsOf w x s.ni s.fi) (hy : IntsOf w y s.no s.fo) (hv : IntsOf w v n m) (hg : GoodS n s) (hn1 : 1 ≤ n) (hn8 : n ≤ 8) (hm : Mk n m) (hr : fire s m = r) :
    Calls Try.prog 52 #[.agg #[x, y], v] w fun e w' => (∃ R, e = .returned (.tuple #[R, .bool r.isSome]) ∧ Fired w' n r R) ∧ Below w.heap.size w w' :=
  (l3fire_own x y v s n m r w hx hy hv hg hn1 hn8 hm hr).mono fun _ _ ⟨⟨R, he, hF⟩, hb⟩ => ⟨⟨R, he, hF.fired⟩, hb⟩
end Go.Proofs.Ythilapalgakhhaa

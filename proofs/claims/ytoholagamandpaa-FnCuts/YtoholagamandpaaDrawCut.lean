/-
  The specification's drawn acts and cut: whatever the bytes, lists that can be read, in memory of their own.
-/
import Derived.Test.YtoholagamandpaaCurActs
namespace Go.Proofs.Ytoholagamandpaa
open Go.RowKit M
open Clk (upd upd_same upd_other)
namespace M
theorem own_thaw {w : World} {B e s n g cap : Nat} {xs : List Value} (h : w.ownsRow B e s (.slice (some ⟨g, 0, none⟩) n cap) n xs) (i : Nat) : w.frozen? ⟨g, i, none⟩ = false := by
  rcases h.2 with ⟨h0, _⟩ | ⟨g', cap', cur, hv, hB, hg, _⟩
  · cases h0
  · have hgg : g = g' := by simp at hv; exact hv.1
    subst hgg
    simp [World.frozen?, hg]
/-- Numbers up to 61. -/
def nv (F : Nat → Nat) : Nat → Int := fun q => ((F q : Nat) : Int)
theorem nv_upd (F : Nat → Nat) (q : Nat) : upd (nv F) q (nv F q + 1) = nv (upd F q (F q + 1)) := by
  funext j; unfold nv upd; split
  next h => subst h; rfl
  next => rfl
end M
set_option maxHeartbeats 4000000 in
theorem draw_cut (v : Value) (n : Nat) (f : Nat → Nat) (w : World) (hv : OctetsOf w v n f) (hn : n ≤ 1048576) :
    Calls Try.prog 11 #[v] w fun e w' => (∃ (p nn : Nat) (l : Nat → Ac) (c : Nat → Int) (r u : Value), e = .returned (.tuple #[.int .i64 (p : Int), r, u]) ∧ (1 ≤ p ∧ p ≤ 7) ∧ nn ≤ 61 ∧ ActsOf w' r nn l ∧ IntsOf w' u p c) ∧ Below w.heap.size w w' := by
  obtain ⟨i0, hi, hz0, hz1, hz2⟩ := info_parts info_int
  have HV := hide hv
  obtain ⟨a, cap, rfl⟩ := hv.form
  clear hv
  have H1 := hide (show ∀ w1, w.alloc (.cells #[.slice a n cap, .int .i64 0, .int .u64 0] 60) = w1 → CurAt w1 w.heap.size w.heap.size 0 ∧ Below w.heap.size w w1 from by
    rintro w1 rfl
    have hb := (Below.refl w.heap.size w).alloc (Nat.le_refl _) (.cells #[.slice a n cap, .int .i64 0, .int .u64 0] 60)
    exact ⟨⟨.slice a n cap, n, f, 0, 0, Nat.le_refl _, hn, Nat.le_refl _, Blk.fresh w _ 3 _ _ rfl, w, rfl, HV.out, hb⟩, hb⟩)
  go_enter Try.func11, Try.ntmps11
  go_wp2_with fail
  generalize hW : w.alloc _ = w1
  obtain ⟨hc1, hb1⟩ := H1.out w1 hW
  clear hW H1 HV
  refine (cur_procs w.heap.size w.heap.size 0 _ hc1 (by omega)).mono ?_
  rintro e w2 ⟨⟨p, hp, rfl⟩, hc2, ho2⟩
  have hB2 : w.heap.size ≤ w2.heap.size := Nat.le_trans hb1.size ho2.size
  have hb2 := hb1.trans (ho2.below (Nat.le_refl _) hb1.size)
  have hcl2 := hc2.lt
  clear hc1 ho2 hb1
  go_wp2_with fail
  refine (cur_acts w.heap.size w.heap.size _ p _ hc2 (by omega) hp hB2).mono ?_
  rintro e w3 ⟨⟨r, m, l, rfl, hm, hor, hpr⟩, hc3, ho3⟩
  have hb3 := hb2.trans (ho3.below (Nat.le_refl _) hB2)
  have hs3 := ho3.size
  obtain ⟨ra, rc, rfl⟩ := own_form hor
  have HOR := hide hor
  have HPR := hide hpr
  have HC3 := hide hc3
  have hmk := make_ints p (by omega)
  clear hc2 ho3 hor hpr hc3 hb2
  have hcl3 : w.heap.size < w3.heap.size := by omega
  go_wp2
  go_loopw [26] (fun y wr => ∃ (i : Nat) (F : Nat → Nat), i ≤ m ∧ y = .int .i64 i ∧ Hid (Blk wr w3.heap.size p (iv (nv F)) 3) ∧ Hid (∀ q, F q ≤ i) ∧ Below w3.heap.size w3 wr) (fun y _ => m - (intOf y).toNat)
  case atStart => exact ⟨0, fun _ => 0, Nat.zero_le _, rfl, hide (Blk.new w3 p _ _), hide (fun _ => Nat.le_refl _), (Below.refl _ _).alloc (Nat.le_refl _) _⟩
  case round =>
    rename World => wo
    obtain ⟨i, F, him, rfl, HB, HF, hbw⟩ := hrel
    by_cases hlt : i < m
    · obtain ⟨ax, cx, hax, hac⟩ := (own_acts HOR.out).below hbw
      obtain ⟨g, off, hg', hgl, hcell⟩ := hac (by omega)
      obtain ⟨rfl, rfl⟩ : ra = ax ∧ rc = cx := by simpa using hax
      subst hg'
      obtain ⟨q, hqp, hq⟩ := HPR.out i hlt
      have c0 := (hcell i hlt).1
      have c1 := (hcell i hlt).2
      rw [hq] at c0
      have d1 := HB.out.cell_ints hqp
      have d2 := HB.out.thaw q
      have hFq := HF.out q
      have hlB := HB.out.lt
      have hsz := hbw.size
      have n1 : wo.heap.size ≠ w3.heap.size := by omega
      have n2 : w3.heap.size ≠ wo.heap.size := by omega
      have hq0 : (0 : Int) ≤ (q : Int) := by omega
      have hq1 : (q : Int) < (p : Int) := by omega
      have H2 := hide (show ∀ (o : Obj) (x : Int), x = nv F q + 1 → Blk ((wo.setCell ⟨w3.heap.size, q, none⟩ (.int .i64 x)).alloc o) w3.heap.size p (iv (nv (upd F q (F q + 1)))) 3 ∧ Below w3.heap.size w3 ((wo.setCell ⟨w3.heap.size, q, none⟩ (.int .i64 x)).alloc o) from fun o x hx => by
        subst hx
        refine ⟨Blk.alloc ?_ o, (hbw.setCell (Nat.le_refl _) _).alloc (by simpa using hsz) o⟩
        rw [← nv_upd]; exact HB.out.set_int _ _)
      have HF2 := hide (show ∀ q', upd F q (F q + 1) q' ≤ i + 1 from fun q' => by
        unfold upd; have := HF.out q'; split <;> omega)
      have hnv : nv F q = ((F q : Nat) : Int) := rfl
      rw [hnv] at d1
      clear hcell hac hax HB HF
      generalize F q = Fq at *
      go_wp2
      exact ⟨⟨i + 1, _, by omega, by go_num, hide (H2.out _ _ (by rw [hnv])).1, HF2, (H2.out _ _ (by rw [hnv])).2⟩, by simp [intOf]; omega⟩
    · obtain rfl : i = m := by omega
      have hb4 := hb3.trans (hbw.mono (by omega))
      have hs4 : w3.heap.size < wo.heap.size := HB.out.lt
      have HC4 := hide (HC3.out.below hbw)
      have HOR4 := hide (owns_below HOR.out hbw)
      have HOB := hide (show ∀ k, (Value.slice ra i rc).ownBlock = some k → k < w3.heap.size from fun k hk => (HOR.out.lt k hk).2)
      clear HC3 HOR HPR
      go_wp2
      go_loopw [11, 40] (fun x y wr => ∃ (j : Nat) (ao : Option Addr) (c : Nat) (G : Nat → Nat), j ≤ p ∧ y = .int .i64 j ∧ x = .slice ao j c ∧ Hid (wr.ownsRow wo.heap.size 3 1 (.slice ao j c) j ((List.range j).map (iv (nv G)))) ∧ Hid (∀ q, G q ≤ 200) ∧ Hid (CurAt wr w.heap.size w.heap.size (302 + j)) ∧ But w.heap.size wo wr) (fun _ y _ => p - (intOf y).toNat)
      case atStart => exact ⟨0, none, 0, fun _ => 0, Nat.zero_le _, rfl, rfl, hide (World.ownsRow_nil _ _ _ _), hide (fun _ => Nat.zero_le _), hide (HC4.out.more (by omega)), But.refl _ _⟩
      case round =>
        rename World => wq
        obtain ⟨j, ao, c, G, hjp, rfl, rfl, HO, HGb, HCq, hbq⟩ := hrel
        have hclo : w.heap.size < wo.heap.size := by omega
        by_cases hlt2 : j < p
        · have d1 := (hbq.blk HB.out (by omega)).cell_ints hlt2
          have hFj := HF.out j
          have hnv : nv F j = ((F j : Nat) : Int) := rfl
          rw [hnv] at d1
          clear hnv
          have hj0 : (0 : Int) ≤ (j : Int) := by omega
          have hj1 : (j : Int) < (p : Int) := by omega
          have HPk := hide (show ∀ wx : World, CurAt wx w.heap.size w.heap.size (302 + j) → Calls Try.prog 40 #[.pointer (some ⟨w.heap.size, 0, none⟩), .int .i64 (((F j : Nat) : Int) + 1)] wx fun e w' => (∃ x : Nat, (x < F j + 1 ∨ x = 0) ∧ e = .returned (.int .i64 (x : Int))) ∧ CurAt w' w.heap.size w.heap.size (302 + j + 1) ∧ But w.heap.size wx w' from fun wx hx => cur_pick w.heap.size w.heap.size (302 + j) (F j + 1) wx hx (by omega) (by omega))
          go_wp2_with fail
          refine (HPk.out _ HCq.out).mono ?_
          rintro e w6 ⟨⟨x, hx, rfl⟩, hc6, ho6⟩
          have hxb : x ≤ 200 := by omega
          have hown := ho6.owns HO.out hclo
          have hbq6 := hbq.trans ho6
          have hs6 := hbq6.size
          have HC6 := hide hc6
          clear HO HCq ho6 d1 hc6 HPk hx
          go_wp2_with (at_builtin; refine wpList_append_own _ rfl _ _ 24 rfl wo.heap.size 3 i0 _ 1 8 Try.underlying24 hi hz0 hz1 hz2 rfl (by decide) _ j _ rfl (hown.alloc _) ⟨w6.heap.size, 0, none⟩ 1 1 [.int .i64 (x : Int)] rfl rfl ?c1 ?c2 ?c3 ?c4 ?c5 ?_)
          try (case c1 => exact news1 w6 _ _)
          case c2 => first | rfl | (intro u hu; simp at hu; subst hu; rfl)
          case c3 => unfold maxLen; omega
          case c4 => omega
          case c5 => first | omega | (simp; omega)
          intro v' w7 hown7 hgrow _
          have hb7 : But w.heap.size wo w7 := (hbq6.trans (But.of_below ((Below.refl _ _).alloc (Nat.le_refl _) _))).grown hgrow (fun k hk => (hown.lt k hk).1)
          have HC7 := hide ((HC6.out.below ((Below.refl _ _).alloc (Nat.le_refl _) _)).grown (hown.alloc _) hclo hgrow)
          obtain ⟨a7, c7, rfl⟩ := own_form hown7
          have HO7 := hide (show w7.ownsRow wo.heap.size 3 1 (.slice a7 (j + 1) c7) (j + 1) ((List.range (j + 1)).map (iv (nv (upd G j x)))) by
            rw [range_snoc]
            have e1 : (List.range j).map (iv (nv (upd G j x))) = (List.range j).map (iv (nv G)) := List.map_congr_left fun q hq => by
              have := List.mem_range.1 hq
              unfold iv nv; rw [upd_other _ _ _ _ (by omega)]
            have e2 : iv (nv (upd G j x)) j = .int .i64 (x : Int) := by unfold iv nv; rw [upd_same]
            rw [e1, e2]; exact hown7)
          have HG7 := hide (show ∀ q, upd G j x q ≤ 200 from fun q => by unfold upd; have := HGb.out q; split <;> omega)
          clear hown7 hgrow hown HC6 HGb
          go_wp2
          exact ⟨⟨j + 1, a7, c7, _, by omega, by go_num, rfl, HO7, HG7, HC7, hb7⟩, by simp [intOf]; omega⟩
        · obtain rfl : j = p := by omega
          have HORq := hide (hbq.owns HOR4.out (by omega))
          have hbfq := hb4.trans (hbq.below (Nat.le_refl _) (by omega))
          clear HOR4 HC4 HB HF
          go_wp2_with fail
          refine (cur_one w.heap.size w.heap.size (302 + j) 20 _ HCq.out (by omega) (by omega)).mono ?_
          rintro e w8 ⟨⟨b, rfl⟩, hc8, ho8⟩
          have hbf8 := hbfq.trans (ho8.below (Nat.le_refl _) (by have := hbq.size; omega))
          have hor8 := ho8.owns HORq.out (by omega)
          have hoc8 := ho8.owns HO.out hclo
          have HOR8 := hide hor8
          have HOC8 := hide hoc8
          clear hc8 ho8 HORq HO HCq hor8 hoc8
          cases b
          · go_wp2
            go_ret3
            exact ⟨⟨j, i, l, nv G, _, _, rfl, hp, hm, own_acts HOR8.out, own_ints HOC8.out⟩, hbf8⟩
          · obtain ⟨ax, cx, hax, hac⟩ := own_cells HOC8.out (by simp)
            obtain ⟨g, hg', hBg, hgl, hcell⟩ := hac (by omega)
            obtain ⟨rfl, rfl⟩ : ao = ax ∧ c = cx := by simpa using hax
            subst hg'
            have z0 : w8.cell? ⟨g, 0, none⟩ = some (.int .i64 ((G 0 : Nat) : Int)) := hcell 0 _ (by rw [List.getElem?_map, List.getElem?_range (by omega)]; rfl)
            have f0 := own_thaw HOC8.out 0
            have hG0 := HGb.out 0
            have hj00 : (0 : Int) < (j : Int) := by omega
            have HZ := hide (show ∀ x : Int, ActsOf (w8.setCell ⟨g, 0, none⟩ (.int .i64 x)) (.slice ra i rc) i l ∧ IntsOf (w8.setCell ⟨g, 0, none⟩ (.int .i64 x)) (.slice (some ⟨g, 0, none⟩) j c) j (upd (nv G) 0 x) ∧ Below w.heap.size w (w8.setCell ⟨g, 0, none⟩ (.int .i64 x)) from fun x => by
              refine ⟨own_acts (owns_only HOR8.out ((Only.refl g w8).set 0 _) (fun k hk => by have := HOB.out k hk; omega)), ⟨_, _, rfl, fun _ => ⟨g, 0, rfl, by rw [World.size_setCell]; exact hgl, fun q hq => ?_⟩⟩, hbf8.setCell (by simp; omega) _⟩
              rw [Nat.zero_add]
              by_cases hq0 : q = 0
              · subst hq0; rw [upd_same]; exact World.cell?_setCell_same _ _ _ z0
              · rw [upd_other _ _ _ _ hq0]
                have h0 : w8.cell? ⟨g, q, none⟩ = some (.int .i64 (nv G q)) := hcell q _ (by rw [List.getElem?_map, List.getElem?_range hq]; rfl)
                rw [World.cell?_setCell_other _ _ _ _ (by intro e; apply hq0; simpa using e.symm)]; exact h0)
            clear hcell hac hax HOC8 HOR8
            generalize G 0 = G0 at *
            go_wp2
            go_ret3
            exact ⟨⟨j, i, l, _, _, _, rfl, hp, hm, (HZ.out _).1, (HZ.out _).2.1⟩, (HZ.out _).2.2⟩
end Go.Proofs.Ytoholagamandpaa

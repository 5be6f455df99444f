/-
  The specification's reader of choices: a list of acts whose processes are within their bounds.
-/
import Derived.Test.YtlbcmlleoncddaaCur2
import Derived.Test.YtlbcmlleoncddaaActAid
import Derived.Test.YtlbcmlleoncddaaAV0
namespace Go.Proofs.Ytlbcmlleoncddaa
open Go.RowKit M
open Clk (upd upd_same upd_other)
namespace M
def cellsA (l : Nat → Ac) (n : Nat) : List Value := (List.range (n * 2)).map (av l)
theorem cellsA_len (l : Nat → Ac) (n : Nat) : (cellsA l n).length = n * 2 := by simp [cellsA]
theorem cellsA_snoc (l : Nat → Ac) (n : Nat) (a : Ac) : cellsA (upd l n a) (n + 1) = cellsA l n ++ [.int .i64 a.proc, .int .i64 a.frm] := by
  unfold cellsA
  rw [show (n + 1) * 2 = n * 2 + 1 + 1 by omega, range_snoc, range_snoc, List.append_assoc]
  have e1 : (List.range (n * 2)).map (av (upd l n a)) = (List.range (n * 2)).map (av l) := List.map_congr_left fun j hj => by
    have := List.mem_range.1 hj
    unfold av; rw [upd_other _ _ _ _ (show j / 2 ≠ n by omega)]
  rw [e1, av_even, av_odd, upd_same]
  rfl
theorem own_acts {w : World} {B e n : Nat} {v : Value} {l : Nat → Ac} (h : w.ownsRow B e 2 v n (cellsA l n)) : ActsOf w v n l := by
  obtain ⟨a, cap, hv, hr⟩ := own_cells h (cellsA_len l n)
  refine ⟨a, cap, hv, fun hn => ?_⟩
  obtain ⟨g, ha, _, hlt, hc⟩ := hr hn
  refine ⟨g, 0, ha, hlt, fun i hi => ?_⟩
  rw [Nat.zero_add]
  constructor
  · exact hc _ _ (by unfold cellsA; rw [List.getElem?_map, List.getElem?_range (by omega)]; simp [av_even])
  · exact hc _ _ (by unfold cellsA; rw [List.getElem?_map, List.getElem?_range (by omega)]; simp [av_odd])
theorem CurAt.drew {w : World} {B cb N : Nat} (h : CurAt w B cb N) : CurAt w.drew B cb N := by
  obtain ⟨v, n, f, t, s, ht, hn, hB, hk, w0, h0, ho, hb0⟩ := h
  exact ⟨v, n, f, t, s, ht, hn, hB, hk, w0, h0, ho, hb0.drew⟩
theorem But.of_drew {cb : Nat} {w w' : World} (h : But cb w.drew w') : But cb w w' := ⟨h.os, h.tape, h.output, h.size, h.block⟩
theorem But.drewN {cb : Nat} {w w' : World} (h : But cb w w') (k : Nat) : But cb w (w'.drewN k) := ⟨h.os, h.tape, h.output, h.size, h.block⟩
theorem CurAt.drewN {w : World} {B cb N : Nat} (h : CurAt w B cb N) (k : Nat) : CurAt (w.drewN k) B cb N := by
  obtain ⟨v, n, f, t, s, ht, hn, hB, hk, w0, h0, ho, hb0⟩ := h
  exact ⟨v, n, f, t, s, ht, hn, hB, hk, w0, h0, ho, hb0.trans ⟨rfl, rfl, rfl, Nat.le_refl _, fun _ _ => rfl⟩⟩
theorem But.setCell {cb : Nat} {w w' : World} (h : But cb w w') {g o : Nat} (hg : w.heap.size ≤ g) (x : Value) : But cb w (w'.setCell ⟨g, o, none⟩ x) :=
  have hb := (Below.refl g w').setCell (p := ⟨g, o, none⟩) (Nat.le_refl _) x
  ⟨hb.os.trans h.os, hb.tape.trans h.tape, hb.output.trans h.output, by rw [World.size_setCell]; exact h.size, fun k hk hne => by rw [Below.heap_setCell _ _ _ _ (by simp; omega)]; exact h.block k hk hne⟩
theorem But.grown {cb : Nat} {w w1 w2 : World} {row : Option Nat} (h : But cb w w1) (hg : w1.grownBy w2 row) (hr : ∀ k, row = some k → w.heap.size ≤ k) : But cb w w2 :=
  ⟨hg.os.trans h.os, hg.tape.trans h.tape, hg.output.trans h.output, Nat.le_trans h.size hg.size, fun k hk hne => by
    rw [hg.block k (Nat.lt_of_lt_of_le hk h.size) (fun e => by have := hr k e.symm; omega)]; exact h.block k hk hne⟩
theorem CurAt.only {w w' : World} {B cb N g : Nat} (h : CurAt w B cb N) (ho : Only g w w') (hne : g ≠ cb) (hg : B ≤ g) : CurAt w' B cb N := by
  obtain ⟨v, n, f, t, s, ht, hn, hB, hk, w0, h0, h1, hb0⟩ := h
  exact ⟨v, n, f, t, s, ht, hn, hB, ho.blk hk (Ne.symm hne), w0, h0, h1, hb0.trans (ho.below hg)⟩
theorem CurAt.grown {w w' : World} {B cb N B' e s m : Nat} {v : Value} {xs : List Value} (h : CurAt w B cb N) (hown : w.ownsRow B' e s v m xs) (hlt : cb < B') (hg : w.grownBy w' v.ownBlock) : CurAt w' B cb N := by
  obtain ⟨v', n, f, t, s', ht, hn, hBc, hk, w0, h0, h1, hb0⟩ := h
  have hne : ∀ k, k < B' → some k ≠ v.ownBlock := fun k hk' e => by have := (hown.lt k e.symm).1; omega
  refine ⟨v', n, f, t, s', ht, hn, hBc, ?_, w0, h0, h1, hb0.trans ⟨hg.os, hg.tape, hg.output, hg.size, fun k hk' => ?_⟩⟩
  · unfold Blk; rw [hg.block cb hk.lt (hne cb hlt)]; exact hk
  · exact hg.block k (by have := hk.lt; omega) (hne k (by omega))
theorem news2 (w : World) (c0 c1 : Value) (t : TypeId) : ∀ (j : Nat) u, [c0, c1][j]? = some u → (w.alloc (.cells #[c0, c1] t)).cell? ((⟨w.heap.size, 0, none⟩ : Addr).add j) = some u := by
  intro j u hj
  match j, hj with
  | 0, hj => simp at hj; subst hj; simp [Addr.add]
  | 1, hj => simp at hj; subst hj; simp [Addr.add]
def two (x y : Int) : Nat → Value := fun j => if j = 0 then .int .i64 x else .int .i64 y
/-- What is known ahead of the append: the act at block ab, the list so far, the reader. -/
def RA (w : World) (B cb N ab i : Nat) (v : Value) (l : Nat → Ac) (x : Nat) (wz : World) : Prop :=
  ∃ fr : Int, Blk wz ab 2 (two (x : Int) fr) 54 ∧ wz.ownsRow w.heap.size 54 2 v i (cellsA l i) ∧ CurAt wz B cb N ∧ But cb w wz
theorem owns_only {w w' : World} {B e s n ab : Nat} {v : Value} {xs : List Value} (h : w.ownsRow B e s v n xs) (ho : Only ab w w') (hne : ∀ k, v.ownBlock = some k → k ≠ ab) : w'.ownsRow B e s v n xs := by
  refine ⟨h.1, ?_⟩
  rcases h.2 with h0 | ⟨g, cap, cur, hv, hB, hg, r⟩
  · exact .inl h0
  · exact .inr ⟨g, cap, cur, hv, hB, by rw [ho.block g (hne g (by rw [hv]; rfl))]; exact hg, r⟩
theorem RA_set {w w6 : World} {B cb N N' ab i x : Nat} {v : Value} {l : Nat → Ac} (h1 : Blk w6 ab 2 (two (x : Int) (-1)) 54) (h2 : w6.ownsRow w.heap.size 54 2 v i (cellsA l i)) (h3 : CurAt w6 B cb N) (h4 : But cb w w6) (hab : ab ≠ cb) (hsz : w.heap.size ≤ ab) (hB : B ≤ w.heap.size) (hob : ∀ k, v.ownBlock = some k → k ≠ ab) (hN : N ≤ N') (k : Int) : RA w B cb N' ab i v l x (w6.setCell ⟨ab, 1, none⟩ (.int .i64 k)) := by
  have ho := (Only.refl ab w6).set 1 (.int .i64 k)
  refine ⟨k, (h1.set 1 (.int .i64 k)).ext (fun j hj => ?_), owns_only h2 ho hob, (h3.only ho hab (by omega)).more hN, h4.setCell hsz _⟩
  match j, hj with
  | 0, _ => rfl
  | 1, _ => rfl
end M
set_option maxHeartbeats 4000000 in
theorem cur_acts (B cb N p : Nat) (w : World) (h : CurAt w B cb N) (hN : N ≤ 800000) (hp : 1 ≤ p ∧ p ≤ 7) (hBw : B ≤ w.heap.size) :
    Calls Try.prog 58 #[.pointer (some ⟨cb, 0, none⟩), .int .i64 (p : Int)] w fun e w' => (∃ r n l, e = .returned r ∧ n ≤ 61 ∧ w'.ownsRow w.heap.size 54 2 r n (cellsA l n) ∧ ∀ i, i < n → ∃ q : Nat, q < p ∧ (l i).proc = (q : Int)) ∧ CurAt w' B cb (N + 300) ∧ But cb w w' := by
  obtain ⟨i0, hi, hz0, hz1, hz2⟩ := info_parts info_act
  have hcl := h.lt
  have hBc := hBw
  have HC := hide h
  clear h
  go_enter Try.func58, Try.ntmps58
  go_wp2_with fail
  refine (cur_pick B cb N 16 _ HC.out (by omega) (by omega)).mono ?_
  rintro e w1 ⟨⟨x, hx, rfl⟩, hc1, ho1⟩
  have hx16 : x ≤ 15 := by omega
  have HC1 := hide hc1
  clear hc1 HC hx
  go_wp2_with fail
  refine (cur_one B cb (N + 1) 20 _ HC1.out (by omega) (by omega)).mono ?_
  rintro e w2 ⟨⟨b, rfl⟩, hc2, ho⟩
  have ho2 := ho1.trans ho
  have HC2 := hide hc2
  clear hc2 HC1 ho ho1
  have HB := hide (show ∀ (cnt : Nat) (wx : World), cnt ≤ 61 → CurAt wx B cb (N + 3) → But cb w wx → ∃ (i cnt' : Nat) (l : Nat → Ac) (ao : Option Addr) (c : Nat) (N' : Nat), i + cnt' ≤ 61 ∧ N' + 4 * cnt' ≤ N + 300 ∧ (Value.int IntKind.i64 (cnt : Int) = .int .i64 (cnt' : Int)) ∧ (Value.slice none 0 0 = .slice ao i c) ∧ Hid (wx.ownsRow w.heap.size 54 2 (.slice ao i c) i (cellsA l i)) ∧ Hid (∀ j, j < i → ∃ q : Nat, q < p ∧ (l j).proc = (q : Int)) ∧ Hid (CurAt wx B cb N') ∧ But cb w wx from fun cnt wx hc hca hb => ⟨0, cnt, fun _ => ⟨0, 0⟩, none, 0, N + 3, by omega, by omega, rfl, rfl, hide (World.ownsRow_nil _ _ _ _), hide (fun j hj => absurd hj (by omega)), hide hca, hb⟩)
  cases b
  · go_wp2
    go_loopw [5, 6] (fun x y wr => ∃ (i cnt : Nat) (l : Nat → Ac) (ao : Option Addr) (c : Nat) (N' : Nat), i + cnt ≤ 61 ∧ N' + 4 * cnt ≤ N + 300 ∧ y = .int .i64 (cnt : Int) ∧ x = .slice ao i c ∧ Hid (wr.ownsRow w.heap.size 54 2 (.slice ao i c) i (cellsA l i)) ∧ Hid (∀ j, j < i → ∃ q : Nat, q < p ∧ (l j).proc = (q : Int)) ∧ Hid (CurAt wr B cb N') ∧ But cb w wr) (fun _ y _ => (intOf y).toNat)
    case atStart => exact HB.out _ _ (by omega) (HC2.out.more (by omega)) ho2
    case round =>
      rename World => wo
      obtain ⟨i, cnt, l, ao, c, N', hic, hNc, rfl, rfl, HO, HP, HCr, hbt⟩ := hrel
      by_cases hcn : 0 < cnt
      · obtain ⟨cn, rfl⟩ : ∃ cn, cnt = cn + 1 := ⟨cnt - 1, by omega⟩
        have hgt : ((cn + 1 : Nat) : Int) > 0 := by omega
        go_wp2_with fail
        refine (cur_pick B cb N' p _ HCr.out (by omega) (by omega)).mono ?_
        rintro e w3 ⟨⟨x, hx, rfl⟩, hc3, ho3⟩
        have hxp : x < p := by omega
        have hbt3 := hbt.trans ho3
        have hsz3 := hbt3.size
        have hal := (Below.refl w3.heap.size w3).alloc (Nat.le_refl _) (.cells #[.int .i64 (x : Int), .int .i64 (-1)] 54)
        have HA := hide (And.intro (show Blk (w3.alloc (.cells #[.int .i64 (x : Int), .int .i64 (-1)] 54)) w3.heap.size 2 (two (x : Int) (-1)) 54 from Blk.fresh w3 _ 2 _ _ rfl) (And.intro ((ho3.owns HO.out hcl).alloc (.cells #[.int .i64 (x : Int), .int .i64 (-1)] 54)) (And.intro (hc3.below hal) (hbt3.trans (But.of_below hal)))))
        have hab : w3.heap.size ≠ cb := by omega
        have HOB := hide (show ∀ k, (Value.slice ao i c).ownBlock = some k → k ≠ w3.heap.size from fun k hk => by have := ((ho3.owns HO.out hcl).lt k hk).2; omega)
        clear HO HCr hc3 ho3 hbt3 hal hbt hx
        rcases Nat.eq_zero_or_pos i with hi0' | hipos
        · subst hi0'
          go_wp2_with (refine stop_at (some 54) rfl (RA w B cb (N' + 4) w3.heap.size 0 (.slice ao 0 c) l x) ?hR ?_)
          case hR => exact hide ⟨_, HA.out.1, HA.out.2.1, HA.out.2.2.1.more (by omega), HA.out.2.2.2⟩
          clear HA
          rintro wz ⟨fr, hbA, hown, hCz, hBz⟩
          have q0 := hbA.cell (show 0 < 2 by omega)
          have q1 := hbA.cell (show 1 < 2 by omega)
          simp only [show two (x : Int) fr 0 = .int .i64 (x : Int) from rfl, show two (x : Int) fr 1 = .int .i64 fr from rfl] at q0 q1
          have HCz := hide hCz
          have hszz := hBz.size
          clear hCz hbA
          go_wp2_with (at_builtin; refine wpList_append_own _ rfl _ _ 25 rfl w.heap.size 54 i0 _ 2 16 Try.underlying25 hi hz0 hz1 hz2 rfl (by decide) _ 0 _ rfl (hown.alloc _) ⟨wz.heap.size, 0, none⟩ 1 1 [.int .i64 (x : Int), .int .i64 fr] rfl rfl ?c1 ?c2 ?c3 ?c4 ?c5 ?_)
          try (case c1 => exact news2 wz _ _ _)
          case c2 => first | (intro u hu; simp at hu; rcases hu with rfl | rfl <;> rfl) | exact ⟨rfl, rfl⟩
          case c3 => unfold maxLen; omega
          case c4 => omega
          case c5 => first | omega | (simp; omega)
          intro v' w4 hown4 hgrow _
          have hbt4 : But cb w w4 := (hBz.trans (But.of_below ((Below.refl _ _).alloc (Nat.le_refl _) _))).grown hgrow (fun k hk => (hown.lt k hk).1)
          have HC4 := hide ((HCz.out.below ((Below.refl _ _).alloc (Nat.le_refl _) _)).grown (hown.alloc _) hcl hgrow)
          obtain ⟨a4, c4, rfl⟩ := own_form hown4
          have HO4 := hide (show w4.ownsRow w.heap.size 54 2 (.slice a4 (0 + 1) c4) (0 + 1) (cellsA (upd l 0 ⟨(x : Int), fr⟩) (0 + 1)) by rw [cellsA_snoc]; exact hown4)
          have HP4 := hide (show ∀ j, j < 0 + 1 → ∃ q : Nat, q < p ∧ (upd l 0 ⟨(x : Int), fr⟩ j).proc = (q : Int) from fun j hj => by
            by_cases he : j = 0
            · subst he; rw [upd_same]; exact ⟨x, hxp, rfl⟩
            · rw [upd_other _ _ _ _ he]; exact HP.out j (by omega))
          clear hown4 hgrow hown HCz HP
          go_wp2
          exact ⟨⟨0 + 1, cn, _, a4, c4, N' + 4, by omega, by omega, by go_num, rfl, HO4, HP4, HC4, hbt4⟩, by simp [intOf]⟩
        · have hlen : (i : Int) > 0 := by omega
          go_wp2_with fail
          refine (cur_one B cb (N' + 1) 2 _ HA.out.2.2.1 (by omega) (by omega)).mono ?_
          rintro e w5 ⟨⟨b2, rfl⟩, hc5, ho5⟩
          have HA5 := hide (And.intro (ho5.blk HA.out.1 hab) (And.intro (ho5.owns HA.out.2.1 hcl) (And.intro hc5 (HA.out.2.2.2.trans ho5))))
          clear HA hc5 ho5
          cases b2
          · go_wp2_with (refine stop_at (some 54) rfl (RA w B cb (N' + 4) w3.heap.size i (.slice ao i c) l x) ?hR ?_)
            case hR => exact hide ⟨_, HA5.out.1, HA5.out.2.1, HA5.out.2.2.1.more (by omega), HA5.out.2.2.2⟩
            clear HA5
            rintro wz ⟨fr, hbA, hown, hCz, hBz⟩
            have q0 := hbA.cell (show 0 < 2 by omega)
            have q1 := hbA.cell (show 1 < 2 by omega)
            simp only [show two (x : Int) fr 0 = .int .i64 (x : Int) from rfl, show two (x : Int) fr 1 = .int .i64 fr from rfl] at q0 q1
            have HCz := hide hCz
            have hszz := hBz.size
            clear hCz hbA
            go_wp2_with (at_builtin; refine wpList_append_own _ rfl _ _ 25 rfl w.heap.size 54 i0 _ 2 16 Try.underlying25 hi hz0 hz1 hz2 rfl (by decide) _ i _ rfl (hown.alloc _) ⟨wz.heap.size, 0, none⟩ 1 1 [.int .i64 (x : Int), .int .i64 fr] rfl rfl ?c1 ?c2 ?c3 ?c4 ?c5 ?_)
            try (case c1 => exact news2 wz _ _ _)
            case c2 => first | (intro u hu; simp at hu; rcases hu with rfl | rfl <;> rfl) | exact ⟨rfl, rfl⟩
            case c3 => unfold maxLen; omega
            case c4 => omega
            case c5 => first | omega | (simp; omega)
            intro v' w4 hown4 hgrow _
            have hbt4 : But cb w w4 := (hBz.trans (But.of_below ((Below.refl _ _).alloc (Nat.le_refl _) _))).grown hgrow (fun k hk => (hown.lt k hk).1)
            have HC4 := hide ((HCz.out.below ((Below.refl _ _).alloc (Nat.le_refl _) _)).grown (hown.alloc _) hcl hgrow)
            obtain ⟨a4, c4, rfl⟩ := own_form hown4
            have HO4 := hide (show w4.ownsRow w.heap.size 54 2 (.slice a4 (i + 1) c4) (i + 1) (cellsA (upd l i ⟨(x : Int), fr⟩) (i + 1)) by rw [cellsA_snoc]; exact hown4)
            have HP4 := hide (show ∀ j, j < i + 1 → ∃ q : Nat, q < p ∧ (upd l i ⟨(x : Int), fr⟩ j).proc = (q : Int) from fun j hj => by
              by_cases he : j = i
              · subst he; rw [upd_same]; exact ⟨x, hxp, rfl⟩
              · rw [upd_other _ _ _ _ he]; exact HP.out j (by omega))
            clear hown4 hgrow hown HCz HP
            go_wp2
            exact ⟨⟨i + 1, cn, _, a4, c4, N' + 4, by omega, by omega, by go_num, rfl, HO4, HP4, HC4, hbt4⟩, by simp [intOf]⟩
          · go_wp2_with fail
            refine (cur_pick B cb (N' + 2) i _ HA5.out.2.2.1 (by omega) (by omega)).mono ?_
            rintro e w6 ⟨⟨y, hy, rfl⟩, hc6, ho6⟩
            have hyi : y < i := by omega
            have HA6 := hide (And.intro (ho6.blk HA5.out.1 hab) (And.intro (ho6.owns HA5.out.2.1 hcl) (And.intro hc6 (HA5.out.2.2.2.trans ho6))))
            clear HA5 hc6 ho6 hy
            obtain ⟨k, hk, hki⟩ : ∃ k : Nat, (i : Int) - 1 - (y : Int) = (k : Int) ∧ k < i := ⟨i - 1 - y, by omega, by omega⟩
            obtain ⟨q, hqp, hq⟩ := HP.out k hki
            obtain ⟨ax, cx, hax, hac⟩ := own_acts HA6.out.2.1
            obtain ⟨g, go_, hg', hgl, hcell⟩ := hac hipos
            obtain ⟨rfl, rfl⟩ : ao = ax ∧ c = cx := by simpa using hax
            subst hg'
            have z0 := (hcell k hki).1
            rw [hq] at z0
            have a0 := HA6.out.1.cell (show 0 < 2 by omega)
            have a1 := HA6.out.1.cell (show 1 < 2 by omega)
            have f1 := HA6.out.1.thaw 1
            simp only [show two (x : Int) (-1) 0 = .int .i64 (x : Int) from rfl, show two (x : Int) (-1) 1 = .int .i64 (-1) from rfl] at a0 a1
            have hk0 : (0 : Int) ≤ (k : Int) := by omega
            have hk1 : (k : Int) < (i : Int) := by omega
            clear hcell hac hax
            go_wp2
            clear hk
            by_cases hqx : q = x
            · subst q
              have e1 : ((x : Int) != (x : Int)) = false := by simp
              go_region_with (go_at_call 60; refine (cur_one B cb (N' + 3) 30 _ (CurAt.drew HA6.out.2.2.1) (by omega) (by omega)).mono ?_; rintro e w7 ⟨⟨b3, rfl⟩, hc7, ho7⟩)
              all_goals
                have HA7 := hide (And.intro (ho7.of_drew.blk HA6.out.1 hab) (And.intro (ho7.of_drew.owns HA6.out.2.1 hcl) (And.intro hc7 (HA6.out.2.2.2.trans ho7.of_drew))))
                have a7 := HA7.out.1.cell (show 1 < 2 by omega)
                have f7 := HA7.out.1.thaw 1
                clear hc7 ho7 HA6 z0 a0 a1 f1
                cases b3
                · go_wp2_with (refine stop_at (some 54) rfl (RA w B cb (N' + 4) w3.heap.size i (.slice (some ⟨g, go_, none⟩) i c) l x) ?hR ?_)
                  case hR => exact hide ⟨_, HA7.out.1, HA7.out.2.1, HA7.out.2.2.1.more (by omega), HA7.out.2.2.2⟩
                  clear HA7 a7 f7
                  rintro wz ⟨fr, hbA, hown, hCz, hBz⟩
                  have q0 := hbA.cell (show 0 < 2 by omega)
                  have q1 := hbA.cell (show 1 < 2 by omega)
                  simp only [show two (x : Int) fr 0 = .int .i64 (x : Int) from rfl, show two (x : Int) fr 1 = .int .i64 fr from rfl] at q0 q1
                  have HCz := hide hCz
                  have hszz := hBz.size
                  clear hCz hbA
                  go_wp2_with (at_builtin; refine wpList_append_own _ rfl _ _ 25 rfl w.heap.size 54 i0 _ 2 16 Try.underlying25 hi hz0 hz1 hz2 rfl (by decide) _ i _ rfl (hown.alloc _) ⟨wz.heap.size, 0, none⟩ 1 1 [.int .i64 (x : Int), .int .i64 fr] rfl rfl ?c1 ?c2 ?c3 ?c4 ?c5 ?_)
                  try (case c1 => exact news2 wz _ _ _)
                  case c2 => first | (intro u hu; simp at hu; rcases hu with rfl | rfl <;> rfl) | exact ⟨rfl, rfl⟩
                  case c3 => unfold maxLen; omega
                  case c4 => omega
                  case c5 => first | omega | (simp; omega)
                  intro v' w4 hown4 hgrow _
                  have hbt4 : But cb w w4 := (hBz.trans (But.of_below ((Below.refl _ _).alloc (Nat.le_refl _) _))).grown hgrow (fun k hk => (hown.lt k hk).1)
                  have HC4 := hide ((HCz.out.below ((Below.refl _ _).alloc (Nat.le_refl _) _)).grown (hown.alloc _) hcl hgrow)
                  obtain ⟨a4, c4, rfl⟩ := own_form hown4
                  have HO4 := hide (show w4.ownsRow w.heap.size 54 2 (.slice a4 (i + 1) c4) (i + 1) (cellsA (upd l i ⟨(x : Int), fr⟩) (i + 1)) by rw [cellsA_snoc]; exact hown4)
                  have HP4 := hide (show ∀ j, j < i + 1 → ∃ q : Nat, q < p ∧ (upd l i ⟨(x : Int), fr⟩ j).proc = (q : Int) from fun j hj => by
                    by_cases he : j = i
                    · subst he; rw [upd_same]; exact ⟨x, hxp, rfl⟩
                    · rw [upd_other _ _ _ _ he]; exact HP.out j (by omega))
                  clear hown4 hgrow hown HCz HP
                  go_wp2
                  exact ⟨⟨i + 1, cn, _, a4, c4, N' + 4, by omega, by omega, by go_num, rfl, HO4, HP4, HC4, hbt4⟩, by simp [intOf]⟩
                · go_wp2_with (refine stop_at (some 54) rfl (RA w B cb (N' + 4) w3.heap.size i (.slice (some ⟨g, go_, none⟩) i c) l x) ?hR ?_)
                  case hR => exact hide (RA_set HA7.out.1 HA7.out.2.1 HA7.out.2.2.1 HA7.out.2.2.2 hab hsz3 hBc HOB.out (by omega) (k : Int))
                  clear HA7 a7 f7
                  rintro wz ⟨fr, hbA, hown, hCz, hBz⟩
                  have q0 := hbA.cell (show 0 < 2 by omega)
                  have q1 := hbA.cell (show 1 < 2 by omega)
                  simp only [show two (x : Int) fr 0 = .int .i64 (x : Int) from rfl, show two (x : Int) fr 1 = .int .i64 fr from rfl] at q0 q1
                  have HCz := hide hCz
                  have hszz := hBz.size
                  clear hCz hbA
                  go_wp2_with (at_builtin; refine wpList_append_own _ rfl _ _ 25 rfl w.heap.size 54 i0 _ 2 16 Try.underlying25 hi hz0 hz1 hz2 rfl (by decide) _ i _ rfl (hown.alloc _) ⟨wz.heap.size, 0, none⟩ 1 1 [.int .i64 (x : Int), .int .i64 fr] rfl rfl ?c1 ?c2 ?c3 ?c4 ?c5 ?_)
                  try (case c1 => exact news2 wz _ _ _)
                  case c2 => first | (intro u hu; simp at hu; rcases hu with rfl | rfl <;> rfl) | exact ⟨rfl, rfl⟩
                  case c3 => unfold maxLen; omega
                  case c4 => omega
                  case c5 => first | omega | (simp; omega)
                  intro v' w4 hown4 hgrow _
                  have hbt4 : But cb w w4 := (hBz.trans (But.of_below ((Below.refl _ _).alloc (Nat.le_refl _) _))).grown hgrow (fun k hk => (hown.lt k hk).1)
                  have HC4 := hide ((HCz.out.below ((Below.refl _ _).alloc (Nat.le_refl _) _)).grown (hown.alloc _) hcl hgrow)
                  obtain ⟨a4, c4, rfl⟩ := own_form hown4
                  have HO4 := hide (show w4.ownsRow w.heap.size 54 2 (.slice a4 (i + 1) c4) (i + 1) (cellsA (upd l i ⟨(x : Int), fr⟩) (i + 1)) by rw [cellsA_snoc]; exact hown4)
                  have HP4 := hide (show ∀ j, j < i + 1 → ∃ q : Nat, q < p ∧ (upd l i ⟨(x : Int), fr⟩ j).proc = (q : Int) from fun j hj => by
                    by_cases he : j = i
                    · subst he; rw [upd_same]; exact ⟨x, hxp, rfl⟩
                    · rw [upd_other _ _ _ _ he]; exact HP.out j (by omega))
                  clear hown4 hgrow hown HCz HP
                  go_wp2
                  exact ⟨⟨i + 1, cn, _, a4, c4, N' + 4, by omega, by omega, by go_num, rfl, HO4, HP4, HC4, hbt4⟩, by simp [intOf]⟩
            · have e1 : ((q : Int) != (x : Int)) = true := by simp; omega
              go_big_quiet (fail)
              go_wp2_with (refine stop_at (some 54) rfl (RA w B cb (N' + 4) w3.heap.size i (.slice (some ⟨g, go_, none⟩) i c) l x) ?hR ?_)
              case hR =>
                exact hide (RA_set (w6 := w6.drewN nq) HA6.out.1 HA6.out.2.1 (HA6.out.2.2.1.drewN nq) (HA6.out.2.2.2.drewN nq) hab hsz3 hBc HOB.out (by omega) (k : Int))
              clear HA6
              rintro wz ⟨fr, hbA, hown, hCz, hBz⟩
              have q0 := hbA.cell (show 0 < 2 by omega)
              have q1 := hbA.cell (show 1 < 2 by omega)
              simp only [show two (x : Int) fr 0 = .int .i64 (x : Int) from rfl, show two (x : Int) fr 1 = .int .i64 fr from rfl] at q0 q1
              have HCz := hide hCz
              have hszz := hBz.size
              clear hCz hbA z0 a0 a1 f1
              go_wp2_with (at_builtin; refine wpList_append_own _ rfl _ _ 25 rfl w.heap.size 54 i0 _ 2 16 Try.underlying25 hi hz0 hz1 hz2 rfl (by decide) _ i _ rfl (hown.alloc _) ⟨wz.heap.size, 0, none⟩ 1 1 [.int .i64 (x : Int), .int .i64 fr] rfl rfl ?c1 ?c2 ?c3 ?c4 ?c5 ?_)
              try (case c1 => exact news2 wz _ _ _)
              case c2 => first | (intro u hu; simp at hu; rcases hu with rfl | rfl <;> rfl) | exact ⟨rfl, rfl⟩
              case c3 => unfold maxLen; omega
              case c4 => omega
              case c5 => first | omega | (simp; omega)
              intro v' w4 hown4 hgrow _
              have hbt4 : But cb w w4 := (hBz.trans (But.of_below ((Below.refl _ _).alloc (Nat.le_refl _) _))).grown hgrow (fun k hk => (hown.lt k hk).1)
              have HC4 := hide ((HCz.out.below ((Below.refl _ _).alloc (Nat.le_refl _) _)).grown (hown.alloc _) hcl hgrow)
              obtain ⟨a4, c4, rfl⟩ := own_form hown4
              have HO4 := hide (show w4.ownsRow w.heap.size 54 2 (.slice a4 (i + 1) c4) (i + 1) (cellsA (upd l i ⟨(x : Int), fr⟩) (i + 1)) by rw [cellsA_snoc]; exact hown4)
              have HP4 := hide (show ∀ j, j < i + 1 → ∃ q : Nat, q < p ∧ (upd l i ⟨(x : Int), fr⟩ j).proc = (q : Int) from fun j hj => by
                by_cases he : j = i
                · subst he; rw [upd_same]; exact ⟨x, hxp, rfl⟩
                · rw [upd_other _ _ _ _ he]; exact HP.out j (by omega))
              clear hown4 hgrow hown HCz HP
              go_wp2
              exact ⟨⟨i + 1, cn, _, a4, c4, N' + 4, by omega, by omega, by go_num, rfl, HO4, HP4, HC4, hbt4⟩, by simp [intOf]⟩
      · have hcz : cnt = 0 := by omega
        subst hcz
        go_wp2
        go_ret
        exact ⟨⟨_, i, l, rfl, by omega, HO.out, HP.out⟩, HCr.out.more (by omega), hbt⟩
  · go_wp2_with fail
    refine (cur_pick B cb (N + 2) 2 _ HC2.out (by omega) (by omega)).mono ?_
    rintro e w2b ⟨⟨x2, hx2, rfl⟩, hc3', hob⟩
    have ho3' := ho2.trans hob
    have hx2' : x2 ≤ 1 := by omega
    clear hob hx2
    go_wp2
    go_loopw [5, 6] (fun x y wr => ∃ (i cnt : Nat) (l : Nat → Ac) (ao : Option Addr) (c : Nat) (N' : Nat), i + cnt ≤ 61 ∧ N' + 4 * cnt ≤ N + 300 ∧ y = .int .i64 (cnt : Int) ∧ x = .slice ao i c ∧ Hid (wr.ownsRow w.heap.size 54 2 (.slice ao i c) i (cellsA l i)) ∧ Hid (∀ j, j < i → ∃ q : Nat, q < p ∧ (l j).proc = (q : Int)) ∧ Hid (CurAt wr B cb N') ∧ But cb w wr) (fun _ y _ => (intOf y).toNat)
    case atStart =>
      obtain ⟨i', cnt', r⟩ := HB.out (60 + x2) _ (by omega) hc3' ho3'
      exact ⟨i', cnt', by first | exact r | (simpa using r)⟩
    case round =>
      rename World => wo
      obtain ⟨i, cnt, l, ao, c, N', hic, hNc, rfl, rfl, HO, HP, HCr, hbt⟩ := hrel
      by_cases hcn : 0 < cnt
      · obtain ⟨cn, rfl⟩ : ∃ cn, cnt = cn + 1 := ⟨cnt - 1, by omega⟩
        have hgt : ((cn + 1 : Nat) : Int) > 0 := by omega
        go_wp2_with fail
        refine (cur_pick B cb N' p _ HCr.out (by omega) (by omega)).mono ?_
        rintro e w3 ⟨⟨x, hx, rfl⟩, hc3, ho3⟩
        have hxp : x < p := by omega
        have hbt3 := hbt.trans ho3
        have hsz3 := hbt3.size
        have hal := (Below.refl w3.heap.size w3).alloc (Nat.le_refl _) (.cells #[.int .i64 (x : Int), .int .i64 (-1)] 54)
        have HA := hide (And.intro (show Blk (w3.alloc (.cells #[.int .i64 (x : Int), .int .i64 (-1)] 54)) w3.heap.size 2 (two (x : Int) (-1)) 54 from Blk.fresh w3 _ 2 _ _ rfl) (And.intro ((ho3.owns HO.out hcl).alloc (.cells #[.int .i64 (x : Int), .int .i64 (-1)] 54)) (And.intro (hc3.below hal) (hbt3.trans (But.of_below hal)))))
        have hab : w3.heap.size ≠ cb := by omega
        have HOB := hide (show ∀ k, (Value.slice ao i c).ownBlock = some k → k ≠ w3.heap.size from fun k hk => by have := ((ho3.owns HO.out hcl).lt k hk).2; omega)
        clear HO HCr hc3 ho3 hbt3 hal hbt hx
        rcases Nat.eq_zero_or_pos i with hi0' | hipos
        · subst hi0'
          go_wp2_with (refine stop_at (some 54) rfl (RA w B cb (N' + 4) w3.heap.size 0 (.slice ao 0 c) l x) ?hR ?_)
          case hR => exact hide ⟨_, HA.out.1, HA.out.2.1, HA.out.2.2.1.more (by omega), HA.out.2.2.2⟩
          clear HA
          rintro wz ⟨fr, hbA, hown, hCz, hBz⟩
          have q0 := hbA.cell (show 0 < 2 by omega)
          have q1 := hbA.cell (show 1 < 2 by omega)
          simp only [show two (x : Int) fr 0 = .int .i64 (x : Int) from rfl, show two (x : Int) fr 1 = .int .i64 fr from rfl] at q0 q1
          have HCz := hide hCz
          have hszz := hBz.size
          clear hCz hbA
          go_wp2_with (at_builtin; refine wpList_append_own _ rfl _ _ 25 rfl w.heap.size 54 i0 _ 2 16 Try.underlying25 hi hz0 hz1 hz2 rfl (by decide) _ 0 _ rfl (hown.alloc _) ⟨wz.heap.size, 0, none⟩ 1 1 [.int .i64 (x : Int), .int .i64 fr] rfl rfl ?c1 ?c2 ?c3 ?c4 ?c5 ?_)
          try (case c1 => exact news2 wz _ _ _)
          case c2 => first | (intro u hu; simp at hu; rcases hu with rfl | rfl <;> rfl) | exact ⟨rfl, rfl⟩
          case c3 => unfold maxLen; omega
          case c4 => omega
          case c5 => first | omega | (simp; omega)
          intro v' w4 hown4 hgrow _
          have hbt4 : But cb w w4 := (hBz.trans (But.of_below ((Below.refl _ _).alloc (Nat.le_refl _) _))).grown hgrow (fun k hk => (hown.lt k hk).1)
          have HC4 := hide ((HCz.out.below ((Below.refl _ _).alloc (Nat.le_refl _) _)).grown (hown.alloc _) hcl hgrow)
          obtain ⟨a4, c4, rfl⟩ := own_form hown4
          have HO4 := hide (show w4.ownsRow w.heap.size 54 2 (.slice a4 (0 + 1) c4) (0 + 1) (cellsA (upd l 0 ⟨(x : Int), fr⟩) (0 + 1)) by rw [cellsA_snoc]; exact hown4)
          have HP4 := hide (show ∀ j, j < 0 + 1 → ∃ q : Nat, q < p ∧ (upd l 0 ⟨(x : Int), fr⟩ j).proc = (q : Int) from fun j hj => by
            by_cases he : j = 0
            · subst he; rw [upd_same]; exact ⟨x, hxp, rfl⟩
            · rw [upd_other _ _ _ _ he]; exact HP.out j (by omega))
          clear hown4 hgrow hown HCz HP
          go_wp2
          exact ⟨⟨0 + 1, cn, _, a4, c4, N' + 4, by omega, by omega, by go_num, rfl, HO4, HP4, HC4, hbt4⟩, by simp [intOf]⟩
        · have hlen : (i : Int) > 0 := by omega
          go_wp2_with fail
          refine (cur_one B cb (N' + 1) 2 _ HA.out.2.2.1 (by omega) (by omega)).mono ?_
          rintro e w5 ⟨⟨b2, rfl⟩, hc5, ho5⟩
          have HA5 := hide (And.intro (ho5.blk HA.out.1 hab) (And.intro (ho5.owns HA.out.2.1 hcl) (And.intro hc5 (HA.out.2.2.2.trans ho5))))
          clear HA hc5 ho5
          cases b2
          · go_wp2_with (refine stop_at (some 54) rfl (RA w B cb (N' + 4) w3.heap.size i (.slice ao i c) l x) ?hR ?_)
            case hR => exact hide ⟨_, HA5.out.1, HA5.out.2.1, HA5.out.2.2.1.more (by omega), HA5.out.2.2.2⟩
            clear HA5
            rintro wz ⟨fr, hbA, hown, hCz, hBz⟩
            have q0 := hbA.cell (show 0 < 2 by omega)
            have q1 := hbA.cell (show 1 < 2 by omega)
            simp only [show two (x : Int) fr 0 = .int .i64 (x : Int) from rfl, show two (x : Int) fr 1 = .int .i64 fr from rfl] at q0 q1
            have HCz := hide hCz
            have hszz := hBz.size
            clear hCz hbA
            go_wp2_with (at_builtin; refine wpList_append_own _ rfl _ _ 25 rfl w.heap.size 54 i0 _ 2 16 Try.underlying25 hi hz0 hz1 hz2 rfl (by decide) _ i _ rfl (hown.alloc _) ⟨wz.heap.size, 0, none⟩ 1 1 [.int .i64 (x : Int), .int .i64 fr] rfl rfl ?c1 ?c2 ?c3 ?c4 ?c5 ?_)
            try (case c1 => exact news2 wz _ _ _)
            case c2 => first | (intro u hu; simp at hu; rcases hu with rfl | rfl <;> rfl) | exact ⟨rfl, rfl⟩
            case c3 => unfold maxLen; omega
            case c4 => omega
            case c5 => first | omega | (simp; omega)
            intro v' w4 hown4 hgrow _
            have hbt4 : But cb w w4 := (hBz.trans (But.of_below ((Below.refl _ _).alloc (Nat.le_refl _) _))).grown hgrow (fun k hk => (hown.lt k hk).1)
            have HC4 := hide ((HCz.out.below ((Below.refl _ _).alloc (Nat.le_refl _) _)).grown (hown.alloc _) hcl hgrow)
            obtain ⟨a4, c4, rfl⟩ := own_form hown4
            have HO4 := hide (show w4.ownsRow w.heap.size 54 2 (.slice a4 (i + 1) c4) (i + 1) (cellsA (upd l i ⟨(x : Int), fr⟩) (i + 1)) by rw [cellsA_snoc]; exact hown4)
            have HP4 := hide (show ∀ j, j < i + 1 → ∃ q : Nat, q < p ∧ (upd l i ⟨(x : Int), fr⟩ j).proc = (q : Int) from fun j hj => by
              by_cases he : j = i
              · subst he; rw [upd_same]; exact ⟨x, hxp, rfl⟩
              · rw [upd_other _ _ _ _ he]; exact HP.out j (by omega))
            clear hown4 hgrow hown HCz HP
            go_wp2
            exact ⟨⟨i + 1, cn, _, a4, c4, N' + 4, by omega, by omega, by go_num, rfl, HO4, HP4, HC4, hbt4⟩, by simp [intOf]⟩
          · go_wp2_with fail
            refine (cur_pick B cb (N' + 2) i _ HA5.out.2.2.1 (by omega) (by omega)).mono ?_
            rintro e w6 ⟨⟨y, hy, rfl⟩, hc6, ho6⟩
            have hyi : y < i := by omega
            have HA6 := hide (And.intro (ho6.blk HA5.out.1 hab) (And.intro (ho6.owns HA5.out.2.1 hcl) (And.intro hc6 (HA5.out.2.2.2.trans ho6))))
            clear HA5 hc6 ho6 hy
            obtain ⟨k, hk, hki⟩ : ∃ k : Nat, (i : Int) - 1 - (y : Int) = (k : Int) ∧ k < i := ⟨i - 1 - y, by omega, by omega⟩
            obtain ⟨q, hqp, hq⟩ := HP.out k hki
            obtain ⟨ax, cx, hax, hac⟩ := own_acts HA6.out.2.1
            obtain ⟨g, go_, hg', hgl, hcell⟩ := hac hipos
            obtain ⟨rfl, rfl⟩ : ao = ax ∧ c = cx := by simpa using hax
            subst hg'
            have z0 := (hcell k hki).1
            rw [hq] at z0
            have a0 := HA6.out.1.cell (show 0 < 2 by omega)
            have a1 := HA6.out.1.cell (show 1 < 2 by omega)
            have f1 := HA6.out.1.thaw 1
            simp only [show two (x : Int) (-1) 0 = .int .i64 (x : Int) from rfl, show two (x : Int) (-1) 1 = .int .i64 (-1) from rfl] at a0 a1
            have hk0 : (0 : Int) ≤ (k : Int) := by omega
            have hk1 : (k : Int) < (i : Int) := by omega
            clear hcell hac hax
            go_wp2
            clear hk
            by_cases hqx : q = x
            · subst q
              have e1 : ((x : Int) != (x : Int)) = false := by simp
              go_region_with (go_at_call 60; refine (cur_one B cb (N' + 3) 30 _ (CurAt.drew HA6.out.2.2.1) (by omega) (by omega)).mono ?_; rintro e w7 ⟨⟨b3, rfl⟩, hc7, ho7⟩)
              all_goals
                have HA7 := hide (And.intro (ho7.of_drew.blk HA6.out.1 hab) (And.intro (ho7.of_drew.owns HA6.out.2.1 hcl) (And.intro hc7 (HA6.out.2.2.2.trans ho7.of_drew))))
                have a7 := HA7.out.1.cell (show 1 < 2 by omega)
                have f7 := HA7.out.1.thaw 1
                clear hc7 ho7 HA6 z0 a0 a1 f1
                cases b3
                · go_wp2_with (refine stop_at (some 54) rfl (RA w B cb (N' + 4) w3.heap.size i (.slice (some ⟨g, go_, none⟩) i c) l x) ?hR ?_)
                  case hR => exact hide ⟨_, HA7.out.1, HA7.out.2.1, HA7.out.2.2.1.more (by omega), HA7.out.2.2.2⟩
                  clear HA7 a7 f7
                  rintro wz ⟨fr, hbA, hown, hCz, hBz⟩
                  have q0 := hbA.cell (show 0 < 2 by omega)
                  have q1 := hbA.cell (show 1 < 2 by omega)
                  simp only [show two (x : Int) fr 0 = .int .i64 (x : Int) from rfl, show two (x : Int) fr 1 = .int .i64 fr from rfl] at q0 q1
                  have HCz := hide hCz
                  have hszz := hBz.size
                  clear hCz hbA
                  go_wp2_with (at_builtin; refine wpList_append_own _ rfl _ _ 25 rfl w.heap.size 54 i0 _ 2 16 Try.underlying25 hi hz0 hz1 hz2 rfl (by decide) _ i _ rfl (hown.alloc _) ⟨wz.heap.size, 0, none⟩ 1 1 [.int .i64 (x : Int), .int .i64 fr] rfl rfl ?c1 ?c2 ?c3 ?c4 ?c5 ?_)
                  try (case c1 => exact news2 wz _ _ _)
                  case c2 => first | (intro u hu; simp at hu; rcases hu with rfl | rfl <;> rfl) | exact ⟨rfl, rfl⟩
                  case c3 => unfold maxLen; omega
                  case c4 => omega
                  case c5 => first | omega | (simp; omega)
                  intro v' w4 hown4 hgrow _
                  have hbt4 : But cb w w4 := (hBz.trans (But.of_below ((Below.refl _ _).alloc (Nat.le_refl _) _))).grown hgrow (fun k hk => (hown.lt k hk).1)
                  have HC4 := hide ((HCz.out.below ((Below.refl _ _).alloc (Nat.le_refl _) _)).grown (hown.alloc _) hcl hgrow)
                  obtain ⟨a4, c4, rfl⟩ := own_form hown4
                  have HO4 := hide (show w4.ownsRow w.heap.size 54 2 (.slice a4 (i + 1) c4) (i + 1) (cellsA (upd l i ⟨(x : Int), fr⟩) (i + 1)) by rw [cellsA_snoc]; exact hown4)
                  have HP4 := hide (show ∀ j, j < i + 1 → ∃ q : Nat, q < p ∧ (upd l i ⟨(x : Int), fr⟩ j).proc = (q : Int) from fun j hj => by
                    by_cases he : j = i
                    · subst he; rw [upd_same]; exact ⟨x, hxp, rfl⟩
                    · rw [upd_other _ _ _ _ he]; exact HP.out j (by omega))
                  clear hown4 hgrow hown HCz HP
                  go_wp2
                  exact ⟨⟨i + 1, cn, _, a4, c4, N' + 4, by omega, by omega, by go_num, rfl, HO4, HP4, HC4, hbt4⟩, by simp [intOf]⟩
                · go_wp2_with (refine stop_at (some 54) rfl (RA w B cb (N' + 4) w3.heap.size i (.slice (some ⟨g, go_, none⟩) i c) l x) ?hR ?_)
                  case hR => exact hide (RA_set HA7.out.1 HA7.out.2.1 HA7.out.2.2.1 HA7.out.2.2.2 hab hsz3 hBc HOB.out (by omega) (k : Int))
                  clear HA7 a7 f7
                  rintro wz ⟨fr, hbA, hown, hCz, hBz⟩
                  have q0 := hbA.cell (show 0 < 2 by omega)
                  have q1 := hbA.cell (show 1 < 2 by omega)
                  simp only [show two (x : Int) fr 0 = .int .i64 (x : Int) from rfl, show two (x : Int) fr 1 = .int .i64 fr from rfl] at q0 q1
                  have HCz := hide hCz
                  have hszz := hBz.size
                  clear hCz hbA
                  go_wp2_with (at_builtin; refine wpList_append_own _ rfl _ _ 25 rfl w.heap.size 54 i0 _ 2 16 Try.underlying25 hi hz0 hz1 hz2 rfl (by decide) _ i _ rfl (hown.alloc _) ⟨wz.heap.size, 0, none⟩ 1 1 [.int .i64 (x : Int), .int .i64 fr] rfl rfl ?c1 ?c2 ?c3 ?c4 ?c5 ?_)
                  try (case c1 => exact news2 wz _ _ _)
                  case c2 => first | (intro u hu; simp at hu; rcases hu with rfl | rfl <;> rfl) | exact ⟨rfl, rfl⟩
                  case c3 => unfold maxLen; omega
                  case c4 => omega
                  case c5 => first | omega | (simp; omega)
                  intro v' w4 hown4 hgrow _
                  have hbt4 : But cb w w4 := (hBz.trans (But.of_below ((Below.refl _ _).alloc (Nat.le_refl _) _))).grown hgrow (fun k hk => (hown.lt k hk).1)
                  have HC4 := hide ((HCz.out.below ((Below.refl _ _).alloc (Nat.le_refl _) _)).grown (hown.alloc _) hcl hgrow)
                  obtain ⟨a4, c4, rfl⟩ := own_form hown4
                  have HO4 := hide (show w4.ownsRow w.heap.size 54 2 (.slice a4 (i + 1) c4) (i + 1) (cellsA (upd l i ⟨(x : Int), fr⟩) (i + 1)) by rw [cellsA_snoc]; exact hown4)
                  have HP4 := hide (show ∀ j, j < i + 1 → ∃ q : Nat, q < p ∧ (upd l i ⟨(x : Int), fr⟩ j).proc = (q : Int) from fun j hj => by
                    by_cases he : j = i
                    · subst he; rw [upd_same]; exact ⟨x, hxp, rfl⟩
                    · rw [upd_other _ _ _ _ he]; exact HP.out j (by omega))
                  clear hown4 hgrow hown HCz HP
                  go_wp2
                  exact ⟨⟨i + 1, cn, _, a4, c4, N' + 4, by omega, by omega, by go_num, rfl, HO4, HP4, HC4, hbt4⟩, by simp [intOf]⟩
            · have e1 : ((q : Int) != (x : Int)) = true := by simp; omega
              go_big_quiet (fail)
              go_wp2_with (refine stop_at (some 54) rfl (RA w B cb (N' + 4) w3.heap.size i (.slice (some ⟨g, go_, none⟩) i c) l x) ?hR ?_)
              case hR =>
                exact hide (RA_set (w6 := w6.drewN nq) HA6.out.1 HA6.out.2.1 (HA6.out.2.2.1.drewN nq) (HA6.out.2.2.2.drewN nq) hab hsz3 hBc HOB.out (by omega) (k : Int))
              clear HA6
              rintro wz ⟨fr, hbA, hown, hCz, hBz⟩
              have q0 := hbA.cell (show 0 < 2 by omega)
              have q1 := hbA.cell (show 1 < 2 by omega)
              simp only [show two (x : Int) fr 0 = .int .i64 (x : Int) from rfl, show two (x : Int) fr 1 = .int .i64 fr from rfl] at q0 q1
              have HCz := hide hCz
              have hszz := hBz.size
              clear hCz hbA z0 a0 a1 f1
              go_wp2_with (at_builtin; refine wpList_append_own _ rfl _ _ 25 rfl w.heap.size 54 i0 _ 2 16 Try.underlying25 hi hz0 hz1 hz2 rfl (by decide) _ i _ rfl (hown.alloc _) ⟨wz.heap.size, 0, none⟩ 1 1 [.int .i64 (x : Int), .int .i64 fr] rfl rfl ?c1 ?c2 ?c3 ?c4 ?c5 ?_)
              try (case c1 => exact news2 wz _ _ _)
              case c2 => first | (intro u hu; simp at hu; rcases hu with rfl | rfl <;> rfl) | exact ⟨rfl, rfl⟩
              case c3 => unfold maxLen; omega
              case c4 => omega
              case c5 => first | omega | (simp; omega)
              intro v' w4 hown4 hgrow _
              have hbt4 : But cb w w4 := (hBz.trans (But.of_below ((Below.refl _ _).alloc (Nat.le_refl _) _))).grown hgrow (fun k hk => (hown.lt k hk).1)
              have HC4 := hide ((HCz.out.below ((Below.refl _ _).alloc (Nat.le_refl _) _)).grown (hown.alloc _) hcl hgrow)
              obtain ⟨a4, c4, rfl⟩ := own_form hown4
              have HO4 := hide (show w4.ownsRow w.heap.size 54 2 (.slice a4 (i + 1) c4) (i + 1) (cellsA (upd l i ⟨(x : Int), fr⟩) (i + 1)) by rw [cellsA_snoc]; exact hown4)
              have HP4 := hide (show ∀ j, j < i + 1 → ∃ q : Nat, q < p ∧ (upd l i ⟨(x : Int), fr⟩ j).proc = (q : Int) from fun j hj => by
                by_cases he : j = i
                · subst he; rw [upd_same]; exact ⟨x, hxp, rfl⟩
                · rw [upd_other _ _ _ _ he]; exact HP.out j (by omega))
              clear hown4 hgrow hown HCz HP
              go_wp2
              exact ⟨⟨i + 1, cn, _, a4, c4, N' + 4, by omega, by omega, by go_num, rfl, HO4, HP4, HC4, hbt4⟩, by simp [intOf]⟩
      · have hcz : cnt = 0 := by omega
        subst hcz
        go_wp2
        go_ret
        exact ⟨⟨_, i, l, rfl, by omega, HO.out, HP.out⟩, HCr.out.more (by omega), hbt⟩
end Go.Proofs.Ytlbcmlleoncddaa

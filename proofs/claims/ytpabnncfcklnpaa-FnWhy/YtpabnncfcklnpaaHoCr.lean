/-
  The specification's reader of choices: a list of rules.
-/
import Derived.Test.YtpabnncfcklnpaaHoCs
namespace Go.Proofs.Ytpabnncfcklnpaa
open Go.RowKit M
namespace M
theorem news2 (w : World) (c0 c1 : Value) (t : TypeId) : ∀ (j : Nat) u, [c0, c1][j]? = some u → (w.alloc (.cells #[c0, c1] t)).cell? ((⟨w.heap.size, 0, none⟩ : Addr).add j) = some u := by
  intro j u hj
  match j, hj with
  | 0, hj => simp at hj; subst hj; simp [Addr.add]
  | 1, hj => simp at hj; subst hj; simp [Addr.add]
/-- A rule as it is laid: its head, the slice of its body, the body. -/
structure Rw where
  hd : Int
  bd : Value
  xs : List Nat
def cellsR : List Rw → List Value
  | [] => []
  | r :: R => .int .i64 r.hd :: r.bd :: cellsR R
theorem cellsR_snoc (R : List Rw) (r : Rw) : cellsR (R ++ [r]) = cellsR R ++ [.int .i64 r.hd, r.bd] := by
  induction R with
  | nil => rfl
  | cons a R ih => simp [cellsR, ih]
theorem cellsR_len (R : List Rw) : (cellsR R).length = R.length * 2 := by
  induction R with
  | nil => rfl
  | cons a R ih => simp [cellsR, ih]; omega
theorem cellsR_at : ∀ (R : List Rw) (i : Nat) (r : Rw), R[i]? = some r → (cellsR R)[i * 2]? = some (.int .i64 r.hd) ∧ (cellsR R)[i * 2 + 1]? = some r.bd
  | [], i, r, h => by simp at h
  | a :: R, 0, r, h => by simp at h; subst h; exact ⟨rfl, rfl⟩
  | a :: R, i + 1, r, h => by
    have := cellsR_at R i r (by simpa using h)
    rw [show (i + 1) * 2 = i * 2 + 1 + 1 by omega]
    exact this
/-- The bodies lie in memory of their own. -/
def Bods (w : World) (B : Nat) (R : List Rw) : Prop := ∀ r ∈ R, r.xs.length ≤ 4 ∧ w.ownsRow B 3 1 r.bd r.xs.length (r.xs.map nv)
theorem Bods.but {cb : Nat} {w w' : World} {B : Nat} {R : List Rw} (h : Bods w B R) (hb : But cb w w') (hlt : cb < B) : Bods w' B R := fun r hr => ⟨(h r hr).1, hb.owns (h r hr).2 hlt⟩
theorem Bods.below {w w' : World} {B : Nat} {R : List Rw} (h : Bods w B R) (hb : Below w.heap.size w w') : Bods w' B R := fun r hr => ⟨(h r hr).1, owns_below (h r hr).2 hb⟩
theorem Bods.mono {w : World} {B B' : Nat} {R : List Rw} (h : Bods w B R) (hb : B' ≤ B) : Bods w B' R := fun r hr => ⟨(h r hr).1, owns_mono (h r hr).2 hb⟩
theorem Bods.grown {w w' : World} {B B' n : Nat} {v : Value} {xs : List Value} {R : List Rw} (h : Bods w B R) (hown : w.ownsRow B' 48 2 v n xs) (hg : w.grownBy w' v.ownBlock) : Bods w' B R :=
  fun r hr => ⟨(h r hr).1, owns_other (h r hr).2 hg (owns_apart (h r hr).2 hown (by decide))⟩
theorem Bods.snoc {w : World} {B : Nat} {R : List Rw} {r : Rw} (h : Bods w B R) (h1 : r.xs.length ≤ 4) (h2 : w.ownsRow B 3 1 r.bd r.xs.length (r.xs.map nv)) : Bods w B (R ++ [r]) := fun a ha => by
  rcases List.mem_append.1 ha with h' | h'
  · exact h a h'
  · simp at h'; subst h'; exact ⟨h1, h2⟩
end M
set_option maxHeartbeats 8000000 in
theorem cur_rules (B cb N : Nat) (w : World) (h : CurAt w B cb N) (hN : N ≤ 700000) :
    Calls Try.prog 65 #[.pointer (some ⟨cb, 0, none⟩)] w fun e w' => (∃ r, e = .returned r ∧ ∃ R : List Rw, R.length ≤ 61 ∧ w'.ownsRow w.heap.size 48 2 r R.length (cellsR R) ∧ Bods w' w.heap.size R) ∧ CurAt w' B cb (N + 900) ∧ But cb w w' := by
  obtain ⟨i0, hi, hz0, hz1, hz2⟩ := info_parts info_task
  have hcl := h.lt
  have HC := hide h
  clear h
  go_enter Try.func65, Try.ntmps65
  go_wp2_with fail
  refine (cur_pick B cb N 14 _ HC.out (by omega) (by omega)).mono ?_
  rintro e w1 ⟨⟨x, hx, rfl⟩, hc1, ho1⟩
  have hx13 : x ≤ 13 := by omega
  have HC1 := hide hc1
  clear hc1 HC hx
  go_wp2_with fail
  refine (cur_one B cb (N + 1) 20 _ HC1.out (by omega) (by omega)).mono ?_
  rintro e w2 ⟨⟨b, rfl⟩, hc2, ho⟩
  have HB2 := hide (ho1.trans ho)
  have HC2 := hide hc2
  clear hc2 HC1 ho ho1
  cases b
  · go_wp2
    go_loopw [3, 4] (fun p q wr => ∃ (R : List Rw) (n : Nat) (ao : Option Addr) (c cnt : Nat), Hid (n = R.length) ∧ n + cnt ≤ 61 ∧ p = .slice ao n c ∧ q = .int .i64 (cnt : Int) ∧ Hid (wr.ownsRow w.heap.size 48 2 (.slice ao n c) n (cellsR R)) ∧ Hid (Bods wr w.heap.size R) ∧ Hid (CurAt wr B cb (N + 800 - 12 * cnt)) ∧ Hid (But cb w wr)) (fun _ q _ => (intOf q).toNat)
    case atStart => exact ⟨[], 0, none, 0, x, hide rfl, by omega, rfl, by first | rfl | go_num, hide (World.ownsRow_nil _ _ _ _), hide (fun r hr => absurd hr (by simp)), hide (HC2.out.more (by omega)), HB2⟩
    case round =>
      rename World => wr
      obtain ⟨R, n, ao, c, cnt, hn, hnc, rfl, rfl, HO, HD, HCr, HBr⟩ := hrel
      by_cases hcn : 0 < cnt
      · obtain ⟨cn, rfl⟩ : ∃ cn, cnt = cn + 1 := ⟨cnt - 1, by omega⟩
        have hgt : ((cn + 1 : Nat) : Int) > 0 := by omega
        go_wp2_with fail
        refine (cur_pick B cb _ 14 _ HCr.out (by omega) (by omega)).mono ?_
        rintro e w3 ⟨⟨y, hy, rfl⟩, hc3, ho3⟩
        have HO3 := hide (ho3.owns HO.out hcl)
        have HD3 := hide (HD.out.but ho3 hcl)
        have HB3' := hide (HBr.out.trans ho3)
        have HC3' := hide hc3
        clear HO HD HBr HCr hc3 ho3 hy
        go_wp2_with fail
        refine (cur_set B cb _ 3 _ HC3'.out (by omega) (by omega)).mono ?_
        rintro e w4 ⟨⟨u, rfl, xs, hxl, hbody⟩, hc4, ho4⟩
        have hsz3 := HB3'.out.size
        have hown := ho4.owns HO3.out hcl
        have HD4 := hide (HD3.out.but ho4 hcl)
        have HB4 := hide (HB3'.out.trans ho4)
        have HC4 := hide hc4
        have HY4 := hide (owns_mono hbody hsz3)
        obtain ⟨ay, cy, rfl⟩ := own_form hbody
        have hsz4 := HB4.out.size
        clear HO3 HD3 HB3' HC3' hc4 ho4 hbody
        go_wp2_with (at_builtin; refine wpList_append_own _ rfl _ _ 25 rfl w.heap.size 48 i0 _ 2 32 Try.underlying25 hi hz0 hz1 hz2 rfl (by decide) _ n _ rfl (hown.alloc _) ⟨w4.heap.size, 0, none⟩ 1 1 [.int .i64 (y : Int), .slice ay xs.length cy] rfl rfl ?c1 ?c2 ?c3 ?c4 ?c5 ?_)
        try (case c1 => exact news2 w4 _ _ _)
        case c2 => first | (intro u hu; simp at hu; rcases hu with rfl | rfl <;> rfl) | exact ⟨rfl, rfl⟩
        case c3 => unfold maxLen; omega
        case c4 => omega
        case c5 => first | omega | (simp; omega)
        intro v' w5 hown5 hgrow _
        have hbt5 : But cb w w5 := (HB4.out.trans (But.of_below ((Below.refl _ _).alloc (Nat.le_refl _) _))).grown hgrow (fun k hk => (hown.lt k hk).1)
        have HC5 := hide (((HC4.out.below ((Below.refl _ _).alloc (Nat.le_refl _) _)).grown (hown.alloc _) hcl hgrow).more (show _ ≤ N + 800 - 12 * cn by omega))
        have HD5 := hide ((((HD4.out.snoc (r := ⟨(y : Int), .slice ay xs.length cy, xs⟩) hxl HY4.out).below ((Below.refl _ _).alloc (Nat.le_refl _) _))).grown (hown.alloc _) hgrow)
        obtain ⟨a5, c5, rfl⟩ := own_form hown5
        have HO5 := hide (show w5.ownsRow w.heap.size 48 2 (.slice a5 (n + 1) c5) (n + 1) (cellsR (R ++ [⟨(y : Int), .slice ay xs.length cy, xs⟩])) by rw [cellsR_snoc]; exact hown5)
        have HB5 := hide hbt5
        clear hown5 hgrow hown HD4 HC4 HB4 HY4 hbt5
        go_wp2
        exact ⟨⟨R ++ [⟨(y : Int), .slice ay xs.length cy, xs⟩], n + 1, a5, c5, cn, hide (by simp [hn.out]), by omega, rfl, by go_num, HO5, HD5, HC5, HB5⟩, by simp [intOf]⟩
      · obtain rfl : cnt = 0 := by omega
        rcases Nat.eq_zero_or_pos n with hn0 | hnp
        · subst hn0
          go_wp2
          go_ret
          exact ⟨⟨_, rfl, R, by rw [← hn.out]; omega, by rw [← hn.out]; exact HO.out, HD.out⟩, HCr.out.more (by omega), HBr.out⟩
        · have hlen : (n : Int) > 0 := by omega
          go_wp2_with fail
          refine (cur_one B cb _ 40 _ HCr.out (by omega) (by omega)).mono ?_
          rintro e w3 ⟨⟨b3, rfl⟩, hc3, ho3⟩
          have HO3 := hide (ho3.owns HO.out hcl)
          have HD3 := hide (HD.out.but ho3 hcl)
          have HB3' := hide (HBr.out.trans ho3)
          have HC3' := hide hc3
          clear HO HD HBr HCr hc3 ho3
          cases b3
          · go_wp2
            go_ret
            exact ⟨⟨_, rfl, R, by rw [← hn.out]; omega, by rw [← hn.out]; exact HO3.out, HD3.out⟩, HC3'.out.more (by omega), HB3'.out⟩
          · obtain ⟨r0, R', hR⟩ : ∃ r0 R', R = r0 :: R' := by
              cases R with
              | nil => exact absurd hn.out (by simp; omega)
              | cons a R => exact ⟨a, R, rfl⟩
            subst hR
            have hsz3 := HB3'.out.size
            have hal := (Below.refl w3.heap.size w3).alloc (Nat.le_refl _) (.cells #[.int .i64 (-1), .int .i64 39, .int .i64 40] 3)
            have HA4 := hide (show Blk (w3.alloc (.cells #[.int .i64 (-1), .int .i64 39, .int .i64 40] 3)) w3.heap.size 3 (iv fun i => if i = 0 then -1 else if i = 1 then 39 else 40) 3 from Blk.fresh w3 _ 3 _ _ rfl)
            have HO4 := hide (owns_below HO3.out hal)
            have HD4 := hide (HD3.out.below hal)
            have HB4 := hide (HB3'.out.trans (But.of_below hal))
            have HC4 := hide (HC3'.out.below hal)
            clear HO3 HD3 HB3' HC3' hal
            go_wp2_with fail
            refine (cur_among B cb _ w3.heap.size _ _ HC4.out (by omega) HA4.out (by omega)).mono ?_
            rintro e w5 ⟨⟨z, hz, rfl⟩, hc5, ho5⟩
            have hown := ho5.owns HO4.out hcl
            have HD5 := hide (HD4.out.but ho5 hcl)
            have HB5 := hide (HB4.out.trans ho5)
            have HC5 := hide hc5
            clear HO4 HD4 HB4 HC4 HA4 hc5 ho5
            generalize (if z = 0 then (-1 : Int) else if z = 1 then 39 else 40) = zz
            obtain ⟨g, cap, hgc⟩ : ∃ g cap, (Value.slice ao n c) = .slice (some ⟨g, 0, none⟩) n cap := by
              rcases hown.2 with ⟨_, h0⟩ | ⟨g, cap, cur, hv, _⟩
              · omega
              · exact ⟨g, cap, hv⟩
            obtain ⟨rfl, rfl⟩ : ao = some ⟨g, 0, none⟩ ∧ c = cap := by simpa using hgc
            have t0 := hown.frozenAt 0
            have k0 := hown.cellAt 0 (by omega)
            have k1 := hown.cellAt 1 (by omega)
            simp only [cellsR, List.getElem?_cons_zero, List.getElem?_cons_succ] at k0 k1
            have hst := hown.stored 0 (.int .i64 zz)
            have HE := hide (show (w5.setCell ⟨g, 0, none⟩ (.int .i64 zz)).ownsRow w.heap.size 48 2 (.slice (some ⟨g, 0, none⟩) n c) n (cellsR (⟨zz, r0.bd, r0.xs⟩ :: R')) ∧ Bods (w5.setCell ⟨g, 0, none⟩ (.int .i64 zz)) w.heap.size (⟨zz, r0.bd, r0.xs⟩ :: R') ∧ CurAt (w5.setCell ⟨g, 0, none⟩ (.int .i64 zz)) B cb (N + 900) ∧ But cb w (w5.setCell ⟨g, 0, none⟩ (.int .i64 zz)) from by
              refine ⟨hst.1, fun r hr => ?_, (HC5.out.grown hown hcl hst.2).more (by omega), HB5.out.grown hst.2 (fun k hk => (hown.lt k hk).1)⟩
              have hd := HD5.out.grown hown hst.2
              rcases List.mem_cons.1 hr with rfl | hr
              · exact hd r0 (List.mem_cons_self ..)
              · exact hd r (List.mem_cons_of_mem _ hr))
            clear hst hown HD5 HB5 HC5 hgc
            go_wp2
            go_ret
            exact ⟨⟨_, rfl, ⟨zz, r0.bd, r0.xs⟩ :: R', by have := hn.out; simp at this ⊢; omega, by have := hn.out; simp at this ⊢; rw [← this]; exact HE.out.1, HE.out.2.1⟩, HE.out.2.2.1, HE.out.2.2.2⟩
  · go_wp2_with fail
    refine (cur_pick B cb (N + 2) 2 _ HC2.out (by omega) (by omega)).mono ?_
    rintro e w2b ⟨⟨x2, hx2, rfl⟩, hc3', hob⟩
    have HB3 := hide (HB2.out.trans hob)
    have HC3 := hide hc3'
    have hx2' : x2 ≤ 1 := by omega
    clear hob hx2 hc3' HB2 HC2
    go_wp2
    go_loopw [3, 4] (fun p q wr => ∃ (R : List Rw) (n : Nat) (ao : Option Addr) (c cnt : Nat), Hid (n = R.length) ∧ n + cnt ≤ 61 ∧ p = .slice ao n c ∧ q = .int .i64 (cnt : Int) ∧ Hid (wr.ownsRow w.heap.size 48 2 (.slice ao n c) n (cellsR R)) ∧ Hid (Bods wr w.heap.size R) ∧ Hid (CurAt wr B cb (N + 800 - 12 * cnt)) ∧ Hid (But cb w wr)) (fun _ q _ => (intOf q).toNat)
    case atStart => exact ⟨[], 0, none, 0, 60 + x2, hide rfl, by omega, rfl, by first | rfl | go_num, hide (World.ownsRow_nil _ _ _ _), hide (fun r hr => absurd hr (by simp)), hide (HC3.out.more (by omega)), HB3⟩
    case round =>
      rename World => wr
      obtain ⟨R, n, ao, c, cnt, hn, hnc, rfl, rfl, HO, HD, HCr, HBr⟩ := hrel
      by_cases hcn : 0 < cnt
      · obtain ⟨cn, rfl⟩ : ∃ cn, cnt = cn + 1 := ⟨cnt - 1, by omega⟩
        have hgt : ((cn + 1 : Nat) : Int) > 0 := by omega
        go_wp2_with fail
        refine (cur_pick B cb _ 14 _ HCr.out (by omega) (by omega)).mono ?_
        rintro e w3 ⟨⟨y, hy, rfl⟩, hc3, ho3⟩
        have HO3 := hide (ho3.owns HO.out hcl)
        have HD3 := hide (HD.out.but ho3 hcl)
        have HB3' := hide (HBr.out.trans ho3)
        have HC3' := hide hc3
        clear HO HD HBr HCr hc3 ho3 hy
        go_wp2_with fail
        refine (cur_set B cb _ 3 _ HC3'.out (by omega) (by omega)).mono ?_
        rintro e w4 ⟨⟨u, rfl, xs, hxl, hbody⟩, hc4, ho4⟩
        have hsz3 := HB3'.out.size
        have hown := ho4.owns HO3.out hcl
        have HD4 := hide (HD3.out.but ho4 hcl)
        have HB4 := hide (HB3'.out.trans ho4)
        have HC4 := hide hc4
        have HY4 := hide (owns_mono hbody hsz3)
        obtain ⟨ay, cy, rfl⟩ := own_form hbody
        have hsz4 := HB4.out.size
        clear HO3 HD3 HB3' HC3' hc4 ho4 hbody
        go_wp2_with (at_builtin; refine wpList_append_own _ rfl _ _ 25 rfl w.heap.size 48 i0 _ 2 32 Try.underlying25 hi hz0 hz1 hz2 rfl (by decide) _ n _ rfl (hown.alloc _) ⟨w4.heap.size, 0, none⟩ 1 1 [.int .i64 (y : Int), .slice ay xs.length cy] rfl rfl ?c1 ?c2 ?c3 ?c4 ?c5 ?_)
        try (case c1 => exact news2 w4 _ _ _)
        case c2 => first | (intro u hu; simp at hu; rcases hu with rfl | rfl <;> rfl) | exact ⟨rfl, rfl⟩
        case c3 => unfold maxLen; omega
        case c4 => omega
        case c5 => first | omega | (simp; omega)
        intro v' w5 hown5 hgrow _
        have hbt5 : But cb w w5 := (HB4.out.trans (But.of_below ((Below.refl _ _).alloc (Nat.le_refl _) _))).grown hgrow (fun k hk => (hown.lt k hk).1)
        have HC5 := hide (((HC4.out.below ((Below.refl _ _).alloc (Nat.le_refl _) _)).grown (hown.alloc _) hcl hgrow).more (show _ ≤ N + 800 - 12 * cn by omega))
        have HD5 := hide ((((HD4.out.snoc (r := ⟨(y : Int), .slice ay xs.length cy, xs⟩) hxl HY4.out).below ((Below.refl _ _).alloc (Nat.le_refl _) _))).grown (hown.alloc _) hgrow)
        obtain ⟨a5, c5, rfl⟩ := own_form hown5
        have HO5 := hide (show w5.ownsRow w.heap.size 48 2 (.slice a5 (n + 1) c5) (n + 1) (cellsR (R ++ [⟨(y : Int), .slice ay xs.length cy, xs⟩])) by rw [cellsR_snoc]; exact hown5)
        have HB5 := hide hbt5
        clear hown5 hgrow hown HD4 HC4 HB4 HY4 hbt5
        go_wp2
        exact ⟨⟨R ++ [⟨(y : Int), .slice ay xs.length cy, xs⟩], n + 1, a5, c5, cn, hide (by simp [hn.out]), by omega, rfl, by go_num, HO5, HD5, HC5, HB5⟩, by simp [intOf]⟩
      · obtain rfl : cnt = 0 := by omega
        rcases Nat.eq_zero_or_pos n with hn0 | hnp
        · subst hn0
          go_wp2
          go_ret
          exact ⟨⟨_, rfl, R, by rw [← hn.out]; omega, by rw [← hn.out]; exact HO.out, HD.out⟩, HCr.out.more (by omega), HBr.out⟩
        · have hlen : (n : Int) > 0 := by omega
          go_wp2_with fail
          refine (cur_one B cb _ 40 _ HCr.out (by omega) (by omega)).mono ?_
          rintro e w3 ⟨⟨b3, rfl⟩, hc3, ho3⟩
          have HO3 := hide (ho3.owns HO.out hcl)
          have HD3 := hide (HD.out.but ho3 hcl)
          have HB3' := hide (HBr.out.trans ho3)
          have HC3' := hide hc3
          clear HO HD HBr HCr hc3 ho3
          cases b3
          · go_wp2
            go_ret
            exact ⟨⟨_, rfl, R, by rw [← hn.out]; omega, by rw [← hn.out]; exact HO3.out, HD3.out⟩, HC3'.out.more (by omega), HB3'.out⟩
          · obtain ⟨r0, R', hR⟩ : ∃ r0 R', R = r0 :: R' := by
              cases R with
              | nil => exact absurd hn.out (by simp; omega)
              | cons a R => exact ⟨a, R, rfl⟩
            subst hR
            have hsz3 := HB3'.out.size
            have hal := (Below.refl w3.heap.size w3).alloc (Nat.le_refl _) (.cells #[.int .i64 (-1), .int .i64 39, .int .i64 40] 3)
            have HA4 := hide (show Blk (w3.alloc (.cells #[.int .i64 (-1), .int .i64 39, .int .i64 40] 3)) w3.heap.size 3 (iv fun i => if i = 0 then -1 else if i = 1 then 39 else 40) 3 from Blk.fresh w3 _ 3 _ _ rfl)
            have HO4 := hide (owns_below HO3.out hal)
            have HD4 := hide (HD3.out.below hal)
            have HB4 := hide (HB3'.out.trans (But.of_below hal))
            have HC4 := hide (HC3'.out.below hal)
            clear HO3 HD3 HB3' HC3' hal
            go_wp2_with fail
            refine (cur_among B cb _ w3.heap.size _ _ HC4.out (by omega) HA4.out (by omega)).mono ?_
            rintro e w5 ⟨⟨z, hz, rfl⟩, hc5, ho5⟩
            have hown := ho5.owns HO4.out hcl
            have HD5 := hide (HD4.out.but ho5 hcl)
            have HB5 := hide (HB4.out.trans ho5)
            have HC5 := hide hc5
            clear HO4 HD4 HB4 HC4 HA4 hc5 ho5
            generalize (if z = 0 then (-1 : Int) else if z = 1 then 39 else 40) = zz
            obtain ⟨g, cap, hgc⟩ : ∃ g cap, (Value.slice ao n c) = .slice (some ⟨g, 0, none⟩) n cap := by
              rcases hown.2 with ⟨_, h0⟩ | ⟨g, cap, cur, hv, _⟩
              · omega
              · exact ⟨g, cap, hv⟩
            obtain ⟨rfl, rfl⟩ : ao = some ⟨g, 0, none⟩ ∧ c = cap := by simpa using hgc
            have t0 := hown.frozenAt 0
            have k0 := hown.cellAt 0 (by omega)
            have k1 := hown.cellAt 1 (by omega)
            simp only [cellsR, List.getElem?_cons_zero, List.getElem?_cons_succ] at k0 k1
            have hst := hown.stored 0 (.int .i64 zz)
            have HE := hide (show (w5.setCell ⟨g, 0, none⟩ (.int .i64 zz)).ownsRow w.heap.size 48 2 (.slice (some ⟨g, 0, none⟩) n c) n (cellsR (⟨zz, r0.bd, r0.xs⟩ :: R')) ∧ Bods (w5.setCell ⟨g, 0, none⟩ (.int .i64 zz)) w.heap.size (⟨zz, r0.bd, r0.xs⟩ :: R') ∧ CurAt (w5.setCell ⟨g, 0, none⟩ (.int .i64 zz)) B cb (N + 900) ∧ But cb w (w5.setCell ⟨g, 0, none⟩ (.int .i64 zz)) from by
              refine ⟨hst.1, fun r hr => ?_, (HC5.out.grown hown hcl hst.2).more (by omega), HB5.out.grown hst.2 (fun k hk => (hown.lt k hk).1)⟩
              have hd := HD5.out.grown hown hst.2
              rcases List.mem_cons.1 hr with rfl | hr
              · exact hd r0 (List.mem_cons_self ..)
              · exact hd r (List.mem_cons_of_mem _ hr))
            clear hst hown HD5 HB5 HC5 hgc
            go_wp2
            go_ret
            exact ⟨⟨_, rfl, ⟨zz, r0.bd, r0.xs⟩ :: R', by have := hn.out; simp at this ⊢; omega, by have := hn.out; simp at this ⊢; rw [← this]; exact HE.out.1, HE.out.2.1⟩, HE.out.2.2.1, HE.out.2.2.2⟩
end Go.Proofs.Ytpabnncfcklnpaa

/-
  DropTimer: the specification's text.
-/
import Derived.Test.YtcodllammndciaaWhDI
namespace Go.Proofs.Ytcodllammndciaa
open Go.RowKit M
open Clk (upd upd_same upd_other)
open Go.Sort (grow)
namespace M
/-- A row in a fresh block takes the place of row k. -/
theorem ow_new {w w' : World} {B gH cap : Nat} {rs : Nat → Rw} {X : Nat → Value} (h : OW 24 w B (.slice (some ⟨gH, 0, none⟩) 24 cap) rs X) {k : Nat} (hk : k < 24) (hb : Below w.heap.size w w') {v : Value} {r : Rw} (ho : w'.ownsRow B 40 2 v r.n (tv r.n r.f)) (hat : ∀ q, v.ownBlock = some q → w.heap.size ≤ q) :
    OW 24 (w'.setCell ⟨gH, k, none⟩ v) B (.slice (some ⟨gH, 0, none⟩) 24 cap) (upd rs k r) (upd X k v) := by
  have hh := owns_below h.hd hb
  obtain ⟨hc, H, hb1, hH⟩ := own_blk1 hh
  refine ⟨by rw [← hdr_set]; exact own_set_in hh k v, fun i hi => ?_, fun i i' hi hi' hii q hq => ?_⟩
  · by_cases e : i = k
    · subst e; rw [upd_same, upd_same]; exact owns_set ho hb1 (by decide) _ _
    · rw [upd_other _ _ _ _ e, upd_other _ _ _ _ e]
      exact owns_set (owns_below (h.row i hi) hb) hb1 (by decide) _ _
  · by_cases e : i = k
    · subst e
      rw [upd_same] at hq
      rw [upd_other _ _ _ _ (fun e => hii e.symm)]
      intro h2
      have := ((h.row i' hi').lt q h2).2
      have := hat q hq
      omega
    · rw [upd_other _ _ _ _ e] at hq
      by_cases e' : i' = k
      · subst e'
        rw [upd_same]
        intro h2
        have := ((h.row i hi).lt q hq).2
        have := hat q h2
        omega
      · rw [upd_other _ _ _ _ e']; exact h.apart i i' hi hi' hii q hq
theorem idsTo_mem {rs : Nat → Rw} {z : Int} {i p : Nat} (hp : p < (rs i).n) (he : (rs i).f (p * 2 + 1) = z) : ∀ m, i < m → z ∈ idsTo rs m
  | 0, h => by omega
  | m + 1, h => by
    simp only [idsTo, List.mem_append]
    by_cases e : i = m
    · subst e
      right
      unfold idsR
      exact List.mem_map.2 ⟨p, List.mem_range.2 hp, he⟩
    · left
      exact idsTo_mem hp he m (by omega)
theorem wheel_once {now : Int} {rs : Nat → Rw} {id : Int} (hG : GoodW now 24 rs) {i i' p p' : Nat} (hi : i < 24) (hi' : i' < 24) (hp : p < (rs i).n) (hp' : p' < (rs i').n) (he : (rs i).f (p * 2 + 1) = id) (he' : (rs i').f (p' * 2 + 1) = id) : i = i' := by
  have key : ∀ {i i' p p' : Nat}, i < i' → i' < 24 → p < (rs i).n → p' < (rs i').n → (rs i).f (p * 2 + 1) = id → (rs i').f (p' * 2 + 1) = id → False := fun {i i' p p'} h1 h2 h3 h4 h5 h6 => by
    refine (hG.2.2.1 i' h2 p' h4).2.2 ?_
    unfold ids
    rw [List.mem_append]
    left
    exact idsTo_mem h3 (h5.trans h6.symm) i' h1
  rcases Nat.lt_trichotomy i i' with h | h | h
  · exact (key h hi' hp hp' he he').elim
  · exact h
  · exact (key h hi hp' hp he' he).elim
theorem drop_upd {now : Int} {rs : Nat → Rw} {id : Int} (hG : GoodW now 24 rs) {i p : Nat} (hi : i < 24) (hp : p < (rs i).n) (he : (rs i).f (p * 2 + 1) = id) : ∀ j, j < 24 → upd rs i ⟨(rs i).n - 1, dl (rs i).f p⟩ j = dropR rs id j := fun j hj => by
  unfold dropR
  by_cases e : j = i
  · subst e; rw [upd_same, dropRow_at hp he (row_once hG hi)]
  · rw [upd_other _ _ _ _ e, dropRow_no (fun q hq h => e (wheel_once hG hj hi hq hp h he))]
theorem OW.ext {m : Nat} {w : World} {B : Nat} {v : Value} {rs rs' : Nat → Rw} {X : Nat → Value} (h : OW m w B v rs X) (he : ∀ i, i < m → rs i = rs' i) : OW m w B v rs' X :=
  ⟨h.hd, fun i hi => by rw [← he i hi]; exact h.row i hi, h.apart⟩
theorem wrap_few {x : Int} (h0 : 0 ≤ x) (h1 : x ≤ 1000) : IntKind.i64.wrap x = x := by
  have h2 : x % 18446744073709551616 = x := by omega
  have e1 : (2 : Int) ^ IntKind.i64.bits = 18446744073709551616 := by rfl
  have e2 : (2 : Int) ^ (IntKind.i64.bits - 1) = 9223372036854775808 := by rfl
  simp only [IntKind.wrap, e1, e2, h2]
  rw [if_neg]
  intro h
  simp at h
  omega
theorem own_le {w : World} {B e s n c : Nat} {a : Option Addr} {xs : List Value} (h : w.ownsRow B e s (.slice a n c) n xs) : n ≤ c := by
  rcases h.2 with ⟨e1, h0⟩ | ⟨g, cp, cur, e1, _, _, h1, _⟩
  · omega
  · simp only [Value.slice.injEq] at e1; omega
/-- The timers behind place k. -/
def tb (f : Nat → Int) (k m : Nat) : List Value := (List.range (m * 2)).map (fun q => .int .i64 (f ((k + 1) * 2 + q)))
theorem tb_len (f : Nat → Int) (k m : Nat) : (tb f k m).length = m * 2 := by simp [tb]
theorem tb_one {f : Nat → Int} {k m : Nat} : ∀ u ∈ tb f k m, u.oneCell' = true := by
  intro u hu
  unfold tb at hu
  obtain ⟨q, _, rfl⟩ := List.mem_map.1 hu
  rfl
theorem tv_dl (f : Nat → Int) (k m : Nat) : tv k f ++ tb f k m = tv (k + m) (dl f k) := by
  apply List.ext_getElem?
  intro q
  by_cases h1 : q < k * 2
  · rw [List.getElem?_append_left (by rw [tv_len]; exact h1), tv_get h1, tv_get (by omega)]
    unfold dl; rw [if_pos h1]
  · rw [List.getElem?_append_right (by rw [tv_len]; omega), tv_len]
    by_cases h2 : q < (k + m) * 2
    · rw [tv_get h2]
      unfold tb
      rw [List.getElem?_map, List.getElem?_range (by omega)]
      unfold dl; rw [if_neg h1]
      simp only [Option.map_some]
      rw [show (k + 1) * 2 + (q - k * 2) = q + 2 by omega]
    · rw [List.getElem?_eq_none (by rw [tb_len]; omega), List.getElem?_eq_none (by rw [tv_len]; omega)]
theorem news_tv {w W : World} {b n c : Nat} {f : Nat → Int} (h : OwnT w b n c f) (hb : Below w.heap.size w W) {j : Nat} (hj : j ≤ n) : ∀ q u, (tv j f)[q]? = some u → W.cell? ((⟨b, 0, none⟩ : Addr).add q) = some u := by
  intro q u hq
  have hql : q < j * 2 := by have := (List.getElem?_eq_some_iff.1 hq).1; rwa [tv_len] at this
  rw [tv_get hql] at hq
  cases hq
  rw [show (⟨b, 0, none⟩ : Addr).add q = ⟨b, q, none⟩ by unfold Addr.add; split <;> simp_all]
  exact (hb.cell (p := ⟨b, q, none⟩) h.lt).trans (h.cell (by omega))
theorem news_tb {w W : World} {b n c : Nat} {f : Nat → Int} (h : OwnT w b n c f) (hb : Below w.heap.size w W) {j m : Nat} (hj : j + 1 + m ≤ n) : ∀ q u, (tb f j m)[q]? = some u → W.cell? ((⟨b, (j + 1) * 2, none⟩ : Addr).add q) = some u := by
  intro q u hq
  have hql : q < m * 2 := by have := (List.getElem?_eq_some_iff.1 hq).1; rwa [tb_len] at this
  unfold tb at hq
  rw [List.getElem?_map, List.getElem?_range hql] at hq
  cases hq
  rw [show (⟨b, (j + 1) * 2, none⟩ : Addr).add q = ⟨b, (j + 1) * 2 + q, none⟩ by unfold Addr.add; split <;> simp_all]
  exact (hb.cell (p := ⟨b, (j + 1) * 2 + q, none⟩) h.lt).trans (h.cell (by omega))
end M
set_option maxRecDepth 20000 in
set_option maxHeartbeats 8000000 in
theorem spec_drop (now : Int) (v : Value) (k : Nat) (rs : Nat → Rw) (id : Int) (w : World) (hv : RowsOf w v k rs) (hs : Small k rs) :
    Calls Try.prog 23 #[.agg #[.int .i64 now, v], .int .i64 id] w fun e w' => ((DropOk now k rs id ∧ ∃ u, e = .returned (.tuple #[.agg #[.int .i64 now, u], .bool true]) ∧ RowsK w.heap.size w' u 24 (dropR rs id)) ∨ (¬ DropOk now k rs id ∧ e = .returned (.tuple #[.agg #[.int .i64 0, .slice none 0 0], .bool false]))) ∧ Below w.heap.size w w' := by
  obtain ⟨i0, hi, hz0, hz1, hz2⟩ := info_parts info_timer
  have HV := hide hv
  have HS := hide hs
  obtain ⟨a, cap, rfl⟩ := hv.form
  clear hv hs
  obtain ⟨bg, hbg⟩ : ∃ b, decide (GoodW now k rs) = b := ⟨_, rfl⟩
  have HBg := hide hbg
  have hX0 : By w ((w.alloc (.cells #[.int .i64 now, .slice a k cap] 24)).alloc (.cells #[.int .i64 0, .slice none 0 0] 24)) now (.slice a k cap) := by
    have h2 := Blk.fresh (w.alloc (.cells #[.int .i64 now, .slice a k cap] 24)) #[.int .i64 0, .slice none 0 0] 2 (p2 (.int .i64 0) (.slice none 0 0)) 24 rfl
    rw [World.size_alloc] at h2
    exact ⟨(Blk.fresh w #[.int .i64 now, .slice a k cap] 2 (p2 (.int .i64 now) (.slice a k cap)) 24 rfl).alloc _, h2, ((Below.refl w.heap.size w).alloc (Nat.le_refl _) _).alloc (by simp) _, by simp⟩
  go_enter Try.func23, Try.ntmps23
  go_wp2_with fail
  refine (spec_good now _ k rs bg _ (HV.out.below hX0.2.2.1) HS.out HBg.out).mono ?_
  rintro e w1 ⟨rfl, hb⟩
  have hX1 := hX0.down hb hX0.2.2.2
  clear hb hX0
  cases bg with
  | false =>
    obtain ⟨y0, y1, y2, y3⟩ := hX1.2.1.pair
    have hbf := (hX1.2.2.1.setCell (p := ⟨w.heap.size + 1, 0, none⟩) (show w.heap.size ≤ w.heap.size + 1 by omega) (.int .i64 0)).setCell (p := ⟨w.heap.size + 1, 1, none⟩) (show w.heap.size ≤ w.heap.size + 1 by omega) (.slice none 0 0)
    have HNo := hide (show ¬ DropOk now k rs id from fun h => of_decide_eq_false hbg h.1)
    clear HV HS HBg hX1 hbg
    go_wp2
    exact bodyPost_ret (v := .tuple #[.agg #[.int .i64 0, .slice none 0 0], .bool false]) (by simp [results, Try.results23, go_sem, y0, y1]) rfl ⟨.inr ⟨HNo.out, rfl⟩, hbf⟩
  | true =>
    have hG := of_decide_eq_true hbg
    obtain rfl : k = 24 := hG.2.1
    have HG := hide hG
    clear hbg HBg hG
    have HSh := hide HS.out.short
    obtain ⟨x0, x1, x2, x3⟩ := hX1.1.pair
    go_wp2_with fail
    refine (l5_own now _ rs _ (HV.out.below hX1.2.2.1) HSh.out).mono ?_
    rintro e w5 ⟨⟨u, X, rfl, hO5⟩, hb⟩
    have hX5 := hX1.down hb hX1.2.2.2
    have hs4 := hX1.2.2.2
    have hs45 := hb.size
    obtain ⟨gH, cH, rfl⟩ := ow_form hO5
    clear hb hX1 x0 x1 x2 x3
    obtain ⟨x0, x1, x2, x3⟩ := hX5.1.pair
    obtain ⟨w6, hw6⟩ : ∃ w6, (w5.setCell ⟨w.heap.size, 0, none⟩ (.int .i64 now)).setCell ⟨w.heap.size, 1, none⟩ (.slice (some ⟨gH, 0, none⟩) 24 cH) = w6 := ⟨_, rfl⟩
    have HX6 := hide (show By w w6 now (.slice (some ⟨gH, 0, none⟩) 24 cH) from by
      subst hw6
      refine ⟨((hX5.1.set 0 _).set 1 _).ext (fun q hq => ?_), (hX5.2.1.set_other (by omega) _ _).set_other (by omega) _ _, (hX5.2.2.1.setCell (Nat.le_refl _) _).setCell (Nat.le_refl _) _, by rw [World.size_setCell, World.size_setCell]; exact hX5.2.2.2⟩
      match q, hq with
      | 0, _ => rfl
      | 1, _ => rfl)
    have HO6 := hide (show OW 24 w6 w1.heap.size (.slice (some ⟨gH, 0, none⟩) 24 cH) rs X from by
      subst hw6
      have k1 : ∀ {e s n : Nat} {v : Value} {xs : List Value}, 24 ≠ e → w5.ownsRow w1.heap.size e s v n xs → ((w5.setCell ⟨w.heap.size, 0, none⟩ (.int .i64 now)).setCell ⟨w.heap.size, 1, none⟩ (.slice (some ⟨gH, 0, none⟩) 24 cH)).ownsRow w1.heap.size e s v n xs := fun hne h => owns_set (owns_set h hX5.1 hne _ _) (hX5.1.set 0 _) hne _ _
      exact ⟨k1 (by decide) hO5.hd, fun j hj => k1 (by decide) (hO5.row j hj), hO5.apart⟩)
    have hB6 : w1.heap.size ≤ w6.heap.size := by rw [← hw6, World.size_setCell, World.size_setCell]; exact hs45
    have Hw6 := hide hw6
    have z1 := HX6.out.1.pair.2.1
    rw [← hw6] at z1
    clear hX5 hO5 hw6
    go_wp2_with fail
    rw [Hw6.out]
    clear x0 x1 x2 x3 z1 Hw6
    go_loopw [19] (fun y wr => ∃ i : Nat, i ≤ 24 ∧ y = .int .i64 (i : Int) ∧ Hid (∀ i', i' < i → ∀ p, p < (rs i').n → (rs i').f (p * 2 + 1) ≠ id) ∧ Hid (Below w6.heap.size w6 wr)) (fun y _ => 24 - (intOf y).toNat)
    case atStart => exact ⟨0, by omega, rfl, hide (fun i' h => by omega), hide (Below.refl _ _)⟩
    case round =>
      rename World => wo
      obtain ⟨i, hi24, rfl, HN, HB⟩ := hrel
      have HOo := hide (HO6.out.down HB.out)
      have HXo := hide (HX6.out.down HB.out HX6.out.2.2.2)
      by_cases hlt : i < 24
      · obtain ⟨ar, cr, hxk⟩ := own_form (HOo.out.row i hlt)
        have c0 := (ow_cell HOo.out hlt).1
        rw [hxk] at c0
        have HXk := hide hxk
        have hi0 : (0 : Int) ≤ (i : Int) := by omega
        have hi1 : (i : Int) < 24 := by omega
        obtain ⟨n, hn⟩ : ∃ n, (rs i).n = n := ⟨_, rfl⟩
        have hn60 : n ≤ 60 := by rw [← hn]; exact row_le HG.out hlt
        rw [hn] at c0
        have HNn := hide hn
        clear hxk hn
        go_wp2_with fail
        go_loopw [26] (fun y wr => ∃ j : Nat, j ≤ n ∧ y = .int .i64 (j : Int) ∧ Hid (∀ p, p < j → (rs i).f (p * 2 + 1) ≠ id) ∧ Hid (Below w6.heap.size w6 wr)) (fun y _ => n - (intOf y).toNat)
        case atStart => exact ⟨0, by omega, rfl, hide (fun p h => by omega), HB⟩
        case round =>
          rename World => wq
          clear HOo HXo c0
          obtain ⟨j, hjn, rfl, HP, HBq⟩ := hrel
          by_cases hjl : j < n
          · have HOq := hide (HO6.out.down HBq.out)
            obtain ⟨aq, cq, hxq, hnq, hV⟩ := own_V (HOq.out.row i hlt)
            rw [HXk.out] at hxq
            cases hxq
            obtain ⟨b, rfl, hBb, hOT⟩ := hV (by rw [HNn.out]; omega)
            rw [HNn.out] at hOT hnq
            have c1 := hOT.cell (show j * 2 < n * 2 by omega)
            have c2 := hOT.cell (show j * 2 + 1 < n * 2 by omega)
            have hbl := hOT.lt
            have hj0 : (0 : Int) ≤ (j : Int) := by omega
            have hj1 : (j : Int) < (n : Int) := by omega
            have hdn := (Below.refl wq.heap.size wq).alloc (Nat.le_refl _) (.cells #[.int .i64 ((rs i).f (j * 2)), .int .i64 ((rs i).f (j * 2 + 1))] 40)
            have HB9 := hide (HBq.out.trans (hdn.mono HBq.out.size))
            by_cases he : (rs i).f (j * 2 + 1) = id
            · have hd : ((rs i).f (j * 2 + 1) == id) = true := by simp [he]
              have HE := hide he
              have HO9 := hide (HOq.out.down hdn)
              have HX9 := hide (HX6.out.down HB9.out HX6.out.2.2.2)
              have HT9 := hide (show OwnT (wq.alloc (.cells #[.int .i64 ((rs i).f (j * 2)), .int .i64 ((rs i).f (j * 2 + 1))] 40)) b n cr (rs i).f from by
                obtain ⟨z1, k', z2, z3⟩ := hOT
                exact ⟨z1, k', z2.down hdn, z3⟩)
              clear he hV HN HP hOT HOq hdn
              go_upto_region 11 with fail
              generalize wq.alloc _ = w9 at *
              clear c1 c2 hbl
              obtain ⟨m, rfl⟩ : ∃ m, n = j + 1 + m := ⟨n - (j + 1), by omega⟩
              have HYes := hide (show DropOk now 24 rs id from ⟨HG.out, idsTo_mem (by rw [HNn.out]; exact hjl) HE.out 24 hlt⟩)
              have HZ := hide (show ∀ W, Below w9.heap.size w9 W → W.cell? ⟨w.heap.size, 1, none⟩ = some (.slice (some ⟨gH, 0, none⟩) 24 cH) ∧ W.cell? ⟨gH, i, none⟩ = some (.slice (some ⟨b, 0, none⟩) (j + 1 + m) cr) ∧ W.frozen? ⟨gH, i, none⟩ = false from fun W hW => by
                have h1 := ow_cell (HO9.out.down hW) hlt
                rw [HXk.out, HNn.out] at h1
                exact ⟨(HX9.out.down hW HX9.out.2.2.2).1.pair.2.1, h1.1, h1.2⟩)
              have HN1 := hide (fun (W : World) (hW : Below w9.heap.size w9 W) => news_tv HT9.out hW (j := j) (by omega))
              have HN2 := hide (fun (W : World) (hW : Below w9.heap.size w9 W) => news_tb HT9.out hW (j := j) (m := m) (by omega))
              have HFin := hide (show ∀ (W8 : World) (v8 : Value), Below w9.heap.size w9 W8 → W8.ownsRow w9.heap.size 40 2 v8 (j + m) (tv j (rs i).f ++ tb (rs i).f j m) → OW 24 (W8.setCell ⟨gH, i, none⟩ v8) w1.heap.size (.slice (some ⟨gH, 0, none⟩) 24 cH) (dropR rs id) (upd X i v8) ∧ By w (W8.setCell ⟨gH, i, none⟩ v8) now (.slice (some ⟨gH, 0, none⟩) 24 cH) from fun W8 v8 hW ho => by
                rw [tv_dl] at ho
                have hnn : j + m = (rs i).n - 1 := by rw [HNn.out]; omega
                rw [hnn] at ho
                have hs9 : w1.heap.size ≤ w9.heap.size := Nat.le_trans hB6 HB9.out.size
                refine ⟨(ow_new HO9.out hlt hW (v := v8) (r := ⟨(rs i).n - 1, dl (rs i).f j⟩) (owns_mono ho hs9) (fun q hq => (ho.lt q hq).1)).ext (drop_upd HG.out hlt (by rw [HNn.out]; exact hjl) HE.out), (HX9.out.down hW HX9.out.2.2.2).set ?_ _ _⟩
                have := (HO9.out.hd.lt gH rfl).1
                omega)
              have hbd := (Below.refl w9.heap.size w9).drew
              have hbE := ((Below.refl w9.heap.size w9).alloc (Nat.le_refl _) (.cells #[] 40)).drew
              have HbE := hide hbE
              have HoE := hide (owns_same (own_empty w9 40 2) (wx := (w9.alloc (.cells #[] 40)).drew) rfl)
              obtain ⟨e0, e1, e2⟩ := HZ.out _ ((Below.refl w9.heap.size w9).alloc (Nat.le_refl _) (.cells #[] 40))
              have hjc : j ≤ cr := by omega
              obtain ⟨J, hJ⟩ : ∃ J, j + 1 = J := ⟨_, rfl⟩
              have hw : IntKind.i64.wrap ((j : Int) + 1) = (J : Int) := by
                exact (wrap_few (x := (j : Int) + 1) (by omega) (by omega)).trans (by omega)
              have hJ0 : (0 : Int) ≤ (J : Int) := by omega
              have hJ1 : (J : Int) ≤ (j : Int) + 1 + (m : Int) := by omega
              have hJm : j + 1 + m - J = m := by omega
              have HJ := hide hJ
              rw [hJ] at HN2
              clear hJ
              obtain ⟨p0, p1, p2⟩ := HZ.out _ hbd
              obtain ⟨q0, q1, q2⟩ := HZ.out _ hbE
              clear HNn HXk HO9 HX9 HT9 HB9 HE hd hbd hbE HB HBq
              rcases Nat.eq_zero_or_pos j with hjz | hjp
              · subst hjz
                obtain rfl : J = 1 := HJ.out.symm
                have hw1 : IntKind.i64.wrap 1 = 1 := wrap_few (by decide) (by decide)
                have hl1 : (1 : Int) ≤ 1 + (m : Int) := by omega
                have hsb : 1 + m - 1 = m := by omega
                clear hw hJ0 hJ1 hJm
                rcases Nat.eq_zero_or_pos m with hmz | hmp
                · subst hmz
                  have hcz : cr = 1 ∨ ¬ cr = 1 := by omega
                  rcases hcz with hcz | hcz
                  · subst hcz
                    go_region
                    all_goals
                        obtain ⟨hR8', hX8'⟩ := HFin.out (w9.alloc (.cells #[] 40)) (.slice (some ⟨w9.heap.size, 0, none⟩) 0 0) ((Below.refl w9.heap.size w9).alloc (Nat.le_refl _) (.cells #[] 40)) (by simpa [tv, tb] using own_empty w9 40 2); have hX8 := hX8'.drew; have hR8 := hR8'.same (wx := ((w9.alloc (.cells #[] 40)).setCell ⟨gH, i, none⟩ (.slice (some ⟨w9.heap.size, 0, none⟩) 0 0)).drew) rfl; clear hR8' hX8'
                        obtain ⟨W8, hW8⟩ : ∃ W8, ((w9.alloc (.cells #[] 40)).setCell ⟨gH, i, none⟩ (.slice (some ⟨w9.heap.size, 0, none⟩) 0 0)).drew = W8 := ⟨_, rfl⟩
                        rw [hW8] at hX8 hR8 ⊢
                        clear hW8
                        have HR8 := hide hR8
                        clear hR8 p0 p1 p2 q0 q1 q2 e0 e1 e2 HN1 HN2 HZ HFin HbE HoE
                        obtain ⟨x0, x1, -, -⟩ := hX8.1.pair
                        obtain ⟨y0, y1, y2, y3⟩ := hX8.2.1.pair
                        have hbf := (hX8.2.2.1.setCell (p := ⟨w.heap.size + 1, 0, none⟩) (show w.heap.size ≤ w.heap.size + 1 by omega) (.int .i64 now)).setCell (p := ⟨w.heap.size + 1, 1, none⟩) (show w.heap.size ≤ w.heap.size + 1 by omega) (.slice (some ⟨gH, 0, none⟩) 24 cH)
                        have HRf := hide (((HR8.out.kept hX8.2.1 0 (.int .i64 now)).kept (hX8.2.1.set 0 _) 1 (.slice (some ⟨gH, 0, none⟩) 24 cH)).k (L := w.heap.size) (by omega))
                        clear HR8 hX8
                        go_wp2
                        exact bodyPost_ret (v := .tuple #[.agg #[.int .i64 now, .slice (some ⟨gH, 0, none⟩) 24 cH], .bool true]) (by simp [results, Try.results23, go_sem, y0, y1]) rfl ⟨.inl ⟨HYes.out, _, rfl, HRf.out⟩, hbf⟩
                  · go_region
                    all_goals
                        obtain ⟨hR8', hX8'⟩ := HFin.out (w9.alloc (.cells #[] 40)) (.slice (some ⟨w9.heap.size, 0, none⟩) 0 0) ((Below.refl w9.heap.size w9).alloc (Nat.le_refl _) (.cells #[] 40)) (by simpa [tv, tb] using own_empty w9 40 2); have hX8 := hX8'.drew; have hR8 := hR8'.same (wx := ((w9.alloc (.cells #[] 40)).setCell ⟨gH, i, none⟩ (.slice (some ⟨w9.heap.size, 0, none⟩) 0 0)).drew) rfl; clear hR8' hX8'
                        obtain ⟨W8, hW8⟩ : ∃ W8, ((w9.alloc (.cells #[] 40)).setCell ⟨gH, i, none⟩ (.slice (some ⟨w9.heap.size, 0, none⟩) 0 0)).drew = W8 := ⟨_, rfl⟩
                        rw [hW8] at hX8 hR8 ⊢
                        clear hW8
                        have HR8 := hide hR8
                        clear hR8 p0 p1 p2 q0 q1 q2 e0 e1 e2 HN1 HN2 HZ HFin HbE HoE
                        obtain ⟨x0, x1, -, -⟩ := hX8.1.pair
                        obtain ⟨y0, y1, y2, y3⟩ := hX8.2.1.pair
                        have hbf := (hX8.2.2.1.setCell (p := ⟨w.heap.size + 1, 0, none⟩) (show w.heap.size ≤ w.heap.size + 1 by omega) (.int .i64 now)).setCell (p := ⟨w.heap.size + 1, 1, none⟩) (show w.heap.size ≤ w.heap.size + 1 by omega) (.slice (some ⟨gH, 0, none⟩) 24 cH)
                        have HRf := hide (((HR8.out.kept hX8.2.1 0 (.int .i64 now)).kept (hX8.2.1.set 0 _) 1 (.slice (some ⟨gH, 0, none⟩) 24 cH)).k (L := w.heap.size) (by omega))
                        clear HR8 hX8
                        go_wp2
                        exact bodyPost_ret (v := .tuple #[.agg #[.int .i64 now, .slice (some ⟨gH, 0, none⟩) 24 cH], .bool true]) (by simp [results, Try.results23, go_sem, y0, y1]) rfl ⟨.inl ⟨HYes.out, _, rfl, HRf.out⟩, hbf⟩
                · have hcne : ¬ cr = 1 := by omega
                  go_region_law (refine step_append_lies _ rfl (.tmp 42) (.tmp 46) 52 rfl w9.heap.size 40 i0 _ 2 16 Try.underlying52 hi hz0 hz1 hz2 rfl (by decide) (.slice (some ⟨w9.heap.size, 0, none⟩) 0 0) 0 [] (by simp [Act.eval]) HoE.out ⟨b, 2, none⟩ m (cr - 1) (tb (rs i).f 0 m) (by simp [Act.eval]) (tb_len _ _ _) (HN2.out _ HbE.out) tb_one hmp (by unfold maxLen; omega) (by omega) (by simp) _ rfl ?_; intro g8 cap8 w8 hown8 hgrow8 hat8 hlt8; have hb8 : Below w9.heap.size w9 w8 := HbE.out.grown hgrow8 (by simp) (fun q hq => (HoE.out.lt q hq).1); obtain ⟨t0, t1, t2⟩ := HZ.out _ hb8)
                  all_goals
                      obtain ⟨hR8, hX8⟩ := HFin.out w8 _ hb8 (by simpa [tv] using hown8)
                      have HR8 := hide hR8
                      clear hR8 p0 p1 p2 q0 q1 q2 e0 e1 e2 HN1 HN2 HZ HFin HbE HoE
                      obtain ⟨x0, x1, -, -⟩ := hX8.1.pair
                      obtain ⟨y0, y1, y2, y3⟩ := hX8.2.1.pair
                      have hbf := (hX8.2.2.1.setCell (p := ⟨w.heap.size + 1, 0, none⟩) (show w.heap.size ≤ w.heap.size + 1 by omega) (.int .i64 now)).setCell (p := ⟨w.heap.size + 1, 1, none⟩) (show w.heap.size ≤ w.heap.size + 1 by omega) (.slice (some ⟨gH, 0, none⟩) 24 cH)
                      have HRf := hide (((HR8.out.kept hX8.2.1 0 (.int .i64 now)).kept (hX8.2.1.set 0 _) 1 (.slice (some ⟨gH, 0, none⟩) 24 cH)).k (L := w.heap.size) (by omega))
                      clear HR8 hX8
                      go_wp2
                      exact bodyPost_ret (v := .tuple #[.agg #[.int .i64 now, .slice (some ⟨gH, 0, none⟩) 24 cH], .bool true]) (by simp [results, Try.results23, go_sem, y0, y1]) rfl ⟨.inl ⟨HYes.out, _, rfl, HRf.out⟩, hbf⟩
              · rcases Nat.eq_zero_or_pos m with hmz | hmp
                · subst hmz
                  have hJ2 : (J : Int) ≤ (j : Int) + 1 := by have := HJ.out; omega
                  have hJ3 : j + 1 - J = 0 := by have := HJ.out; omega
                  clear hJ1 hJm
                  have hcz : cr = J ∨ ¬ cr = J := by omega
                  rcases hcz with hcz | hcz
                  · subst hcz
                    go_region_law (refine step_append_lies _ rfl (.tmp 38) (.tmp 41) 52 rfl w9.heap.size 40 i0 _ 2 16 Try.underlying52 hi hz0 hz1 hz2 rfl (by decide) (.slice (some ⟨w9.heap.size, 0, none⟩) 0 0) 0 [] (by simp [Act.eval]) HoE.out ⟨b, 0, none⟩ j cr (tv j (rs i).f) (by simp [Act.eval]) (tv_len _ _) (HN1.out _ HbE.out) tv_one hjp (by unfold maxLen; omega) (by omega) (by simp) _ rfl ?_; intro g7 cap7 w7 hown7 hgrow7 hat hlt7; have hb7 : Below w9.heap.size w9 w7 := HbE.out.grown hgrow7 (by simp) (fun q hq => (HoE.out.lt q hq).1); obtain ⟨z0, z1, z2⟩ := HZ.out _ hb7; have HO7 := hide (show w7.ownsRow w9.heap.size 40 2 (.slice (some ⟨g7, 0, none⟩) j cap7) j (tv j (rs i).f) from by simpa using hown7); have hcap7 : j ≤ cap7 := own_le HO7.out; clear hown7)
                    all_goals
                        obtain ⟨hR8, hX8⟩ := HFin.out w7 _ hb7 (by simpa [tb] using HO7.out)
                        have HR8 := hide hR8
                        clear hR8 p0 p1 p2 q0 q1 q2 e0 e1 e2 HN1 HN2 HZ HFin HbE HoE
                        obtain ⟨x0, x1, -, -⟩ := hX8.1.pair
                        obtain ⟨y0, y1, y2, y3⟩ := hX8.2.1.pair
                        have hbf := (hX8.2.2.1.setCell (p := ⟨w.heap.size + 1, 0, none⟩) (show w.heap.size ≤ w.heap.size + 1 by omega) (.int .i64 now)).setCell (p := ⟨w.heap.size + 1, 1, none⟩) (show w.heap.size ≤ w.heap.size + 1 by omega) (.slice (some ⟨gH, 0, none⟩) 24 cH)
                        have HRf := hide (((HR8.out.kept hX8.2.1 0 (.int .i64 now)).kept (hX8.2.1.set 0 _) 1 (.slice (some ⟨gH, 0, none⟩) 24 cH)).k (L := w.heap.size) (by omega))
                        clear HR8 hX8
                        go_wp2
                        exact bodyPost_ret (v := .tuple #[.agg #[.int .i64 now, .slice (some ⟨gH, 0, none⟩) 24 cH], .bool true]) (by simp [results, Try.results23, go_sem, y0, y1]) rfl ⟨.inl ⟨HYes.out, _, rfl, HRf.out⟩, hbf⟩
                  · go_region_law (refine step_append_lies _ rfl (.tmp 38) (.tmp 41) 52 rfl w9.heap.size 40 i0 _ 2 16 Try.underlying52 hi hz0 hz1 hz2 rfl (by decide) (.slice (some ⟨w9.heap.size, 0, none⟩) 0 0) 0 [] (by simp [Act.eval]) HoE.out ⟨b, 0, none⟩ j cr (tv j (rs i).f) (by simp [Act.eval]) (tv_len _ _) (HN1.out _ HbE.out) tv_one hjp (by unfold maxLen; omega) (by omega) (by simp) _ rfl ?_; intro g7 cap7 w7 hown7 hgrow7 hat hlt7; have hb7 : Below w9.heap.size w9 w7 := HbE.out.grown hgrow7 (by simp) (fun q hq => (HoE.out.lt q hq).1); obtain ⟨z0, z1, z2⟩ := HZ.out _ hb7; have HO7 := hide (show w7.ownsRow w9.heap.size 40 2 (.slice (some ⟨g7, 0, none⟩) j cap7) j (tv j (rs i).f) from by simpa using hown7); have hcap7 : j ≤ cap7 := own_le HO7.out; clear hown7)
                    all_goals
                        obtain ⟨hR8, hX8⟩ := HFin.out w7 _ hb7 (by simpa [tb] using HO7.out)
                        have HR8 := hide hR8
                        clear hR8 p0 p1 p2 q0 q1 q2 e0 e1 e2 HN1 HN2 HZ HFin HbE HoE
                        obtain ⟨x0, x1, -, -⟩ := hX8.1.pair
                        obtain ⟨y0, y1, y2, y3⟩ := hX8.2.1.pair
                        have hbf := (hX8.2.2.1.setCell (p := ⟨w.heap.size + 1, 0, none⟩) (show w.heap.size ≤ w.heap.size + 1 by omega) (.int .i64 now)).setCell (p := ⟨w.heap.size + 1, 1, none⟩) (show w.heap.size ≤ w.heap.size + 1 by omega) (.slice (some ⟨gH, 0, none⟩) 24 cH)
                        have HRf := hide (((HR8.out.kept hX8.2.1 0 (.int .i64 now)).kept (hX8.2.1.set 0 _) 1 (.slice (some ⟨gH, 0, none⟩) 24 cH)).k (L := w.heap.size) (by omega))
                        clear HR8 hX8
                        go_wp2
                        exact bodyPost_ret (v := .tuple #[.agg #[.int .i64 now, .slice (some ⟨gH, 0, none⟩) 24 cH], .bool true]) (by simp [results, Try.results23, go_sem, y0, y1]) rfl ⟨.inl ⟨HYes.out, _, rfl, HRf.out⟩, hbf⟩
                · have hcne : ¬ cr = J := by have := HJ.out; omega
                  go_region_law (first
                    | (refine step_append_lies _ rfl (.tmp 38) (.tmp 41) 52 rfl w9.heap.size 40 i0 _ 2 16 Try.underlying52 hi hz0 hz1 hz2 rfl (by decide) (.slice (some ⟨w9.heap.size, 0, none⟩) 0 0) 0 [] (by simp [Act.eval]) HoE.out ⟨b, 0, none⟩ j cr (tv j (rs i).f) (by simp [Act.eval]) (tv_len _ _) (HN1.out _ HbE.out) tv_one hjp (by unfold maxLen; omega) (by omega) (by simp) _ rfl ?_; intro g7 cap7 w7 hown7 hgrow7 hat hlt7; have hb7 : Below w9.heap.size w9 w7 := HbE.out.grown hgrow7 (by simp) (fun q hq => (HoE.out.lt q hq).1); obtain ⟨z0, z1, z2⟩ := HZ.out _ hb7; have HO7 := hide (show w7.ownsRow w9.heap.size 40 2 (.slice (some ⟨g7, 0, none⟩) j cap7) j (tv j (rs i).f) from by simpa using hown7); have hcap7 : j ≤ cap7 := own_le HO7.out; clear hown7)
                    | (refine step_append_lies _ rfl (.tmp 42) (.tmp 46) 52 rfl w9.heap.size 40 i0 _ 2 16 Try.underlying52 hi hz0 hz1 hz2 rfl (by decide) (.slice (some ⟨g7, 0, none⟩) j cap7) j (tv j (rs i).f) (by simp [Act.eval]) HO7.out ⟨b, J * 2, none⟩ m (cr - J) (tb (rs i).f j m) (by simp [Act.eval]) (tb_len _ _ _) (HN2.out _ hb7) tb_one hmp (by unfold maxLen; omega) (by omega) hb7.size _ rfl ?_; intro g8 cap8 w8 hown8 hgrow8 hat8 hlt8; have hb8 : Below w9.heap.size w9 w8 := hb7.grown hgrow8 hb7.size (fun q hq => (HO7.out.lt q hq).1); obtain ⟨t0, t1, t2⟩ := HZ.out _ hb8))
                  all_goals
                    obtain ⟨hR8, hX8⟩ := HFin.out w8 _ hb8 hown8
                    have HR8 := hide hR8
                    clear hR8 hown8 hgrow8 hgrow7 hb8 hb7 z0 z1 z2 t0 t1 t2 p0 p1 p2 q0 q1 q2 e0 e1 e2 HN1 HN2 HZ HFin HbE HoE HO7
                    obtain ⟨x0, x1, -, -⟩ := hX8.1.pair
                    obtain ⟨y0, y1, y2, y3⟩ := hX8.2.1.pair
                    have hbf := (hX8.2.2.1.setCell (p := ⟨w.heap.size + 1, 0, none⟩) (show w.heap.size ≤ w.heap.size + 1 by omega) (.int .i64 now)).setCell (p := ⟨w.heap.size + 1, 1, none⟩) (show w.heap.size ≤ w.heap.size + 1 by omega) (.slice (some ⟨gH, 0, none⟩) 24 cH)
                    have HRf := hide (((HR8.out.kept hX8.2.1 0 (.int .i64 now)).kept (hX8.2.1.set 0 _) 1 (.slice (some ⟨gH, 0, none⟩) 24 cH)).k (L := w.heap.size) (by omega))
                    clear HR8 hX8
                    go_wp2
                    exact bodyPost_ret (v := .tuple #[.agg #[.int .i64 now, .slice (some ⟨gH, 0, none⟩) 24 cH], .bool true]) (by simp [results, Try.results23, go_sem, y0, y1]) rfl ⟨.inl ⟨HYes.out, _, rfl, HRf.out⟩, hbf⟩
            · have hd : ((rs i).f (j * 2 + 1) == id) = false := by simp [he]
              have HP2 := hide (show ∀ p, p < j + 1 → (rs i).f (p * 2 + 1) ≠ id from fun p hp => by
                rcases (show p < j ∨ p = j by omega) with h | h
                · exact HP.out p h
                · subst h; exact he)
              clear he hV HN HP hOT HOq hdn
              go_wp2
              exact ⟨⟨j + 1, by omega, by go_num, HP2, HB9⟩, by simp [intOf]; omega⟩
          · obtain rfl : j = n := by omega
            have HN2 := hide (show ∀ i', i' < i + 1 → ∀ p, p < (rs i').n → (rs i').f (p * 2 + 1) ≠ id from fun i' h p hp => by
              rcases (show i' < i ∨ i' = i by omega) with h1 | h1
              · exact HN.out i' h1 p hp
              · subst h1; exact HP.out p (by rw [← HNn.out]; exact hp))
            clear HN HP
            go_wp2
            exact ⟨⟨i + 1, by omega, by go_num, HN2, HBq⟩, by simp [intOf]; omega⟩
      · obtain rfl : i = 24 := by omega
        have HNo := hide (show ¬ DropOk now 24 rs id from fun h => by
          obtain ⟨i', h1, p, h2, h3⟩ := (mem_idsTo 24).1 h.2
          exact HN.out i' h1 p h2 h3)
        obtain ⟨y0, y1, y2, y3⟩ := HXo.out.2.1.pair
        have hbf := (HXo.out.2.2.1.setCell (p := ⟨w.heap.size + 1, 0, none⟩) (show w.heap.size ≤ w.heap.size + 1 by omega) (.int .i64 0)).setCell (p := ⟨w.heap.size + 1, 1, none⟩) (show w.heap.size ≤ w.heap.size + 1 by omega) (.slice none 0 0)
        clear HXo HOo HB HN HV HS
        go_wp2
        exact bodyPost_ret (v := .tuple #[.agg #[.int .i64 0, .slice none 0 0], .bool false]) (by simp [results, Try.results23, go_sem, y0, y1]) rfl ⟨.inr ⟨HNo.out, rfl⟩, hbf⟩
end Go.Proofs.Ytcodllammndciaa

/-
  The specification's copies of a wheel (l5Own), and how many timers it has (l5Many).
-/
import Derived.Test.YtcodllammndciaaWhY
import Derived.Test.YtcodllammndciaaWhGS
namespace Go.Proofs.Ytcodllammndciaa
open Go.RowKit M
open Clk (upd upd_same upd_other)
open Go.Sort (grow)
namespace M
/-- Rows in memory of the call's own, headers too, each whole and apart; the first m of them. -/
structure OW (m : Nat) (w : World) (B : Nat) (v : Value) (rs : Nat → Rw) (X : Nat → Value) : Prop where
  hd : w.ownsRow B 52 1 v m (hdr X m)
  row : ∀ i, i < m → w.ownsRow B 40 2 (X i) (rs i).n (tv (rs i).n (rs i).f)
  apart : ∀ i j, i < m → j < m → i ≠ j → ∀ q, (X i).ownBlock = some q → (X j).ownBlock ≠ some q
theorem OW.down {m : Nat} {w w' : World} {B : Nat} {v : Value} {rs : Nat → Rw} {X : Nat → Value} (h : OW m w B v rs X) (hb : Below w.heap.size w w') : OW m w' B v rs X :=
  ⟨owns_below h.hd hb, fun i hi => owns_below (h.row i hi) hb, h.apart⟩
theorem OW.same {m : Nat} {w wx : World} {B : Nat} {v : Value} {rs : Nat → Rw} {X : Nat → Value} (h : OW m w B v rs X) (hh : wx.heap = w.heap) : OW m wx B v rs X :=
  ⟨owns_same h.hd hh, fun i hi => owns_same (h.row i hi) hh, h.apart⟩
theorem OW.rows {m : Nat} {w : World} {B : Nat} {v : Value} {rs : Nat → Rw} {X : Nat → Value} (h : OW m w B v rs X) : RowsOf w v m rs := by
  obtain ⟨a, cap, hv, hr⟩ := own_cells h.hd (by simp [hdr])
  refine ⟨a, cap, hv, fun hm => ?_⟩
  obtain ⟨g, ha, _, hlt, hc⟩ := hr hm
  refine ⟨g, 0, ha, hlt, fun i hi => ⟨X i, ?_, ?_⟩⟩
  · rw [Nat.zero_add]; exact hc i _ (by unfold hdr; rw [List.getElem?_map, List.getElem?_range hi]; rfl)
  · obtain ⟨a', c', hx, _, hV⟩ := own_V (h.row i hi)
    rw [hx]
    refine ⟨a', c', rfl, fun hn => ?_⟩
    obtain ⟨b, e1, e2, e3⟩ := hV hn
    exact ⟨b, 0, e1, e3.lt, fun q hq => by rw [Nat.zero_add]; exact e3.cell hq⟩
theorem hdr_succ (X : Nat → Value) (n : Nat) : hdr X (n + 1) = hdr X n ++ [X n] := by unfold hdr; rw [List.range_succ]; simp
theorem hdr_congr {X X' : Nat → Value} {n : Nat} (h : ∀ i, i < n → X i = X' i) : hdr X n = hdr X' n := by
  unfold hdr; exact List.map_congr_left fun i hi => h i (List.mem_range.1 hi)
theorem news1v (w : World) (c : Value) (t : TypeId) : ∀ (j : Nat) u, [c][j]? = some u → (w.alloc (.cells #[c] t)).cell? ((⟨w.heap.size, 0, none⟩ : Addr).add j) = some u := news1 w c t
end M
set_option maxHeartbeats 1000000 in
theorem l5_many (now : Int) (v : Value) (rs : Nat → Rw) (w : World) (hv : RowsOf w v 24 rs) (ht : tot rs 24 ≤ 60) :
    Calls Try.prog 52 #[.agg #[.int .i64 now, v]] w fun e w' => e = .returned (.int .i64 (tot rs 24 : Nat)) ∧ Below w.heap.size w w' := by
  obtain ⟨a, cap, rfl, hr⟩ := hv
  have HR := hide hr
  have HT := hide (show ∀ i, i ≤ 24 → tot rs i ≤ 60 from fun i hi => Nat.le_trans (tot_mono rs 24 hi) ht)
  have hbA := (Below.refl w.heap.size w).alloc (Nat.le_refl _) (.cells #[.int .i64 now, .slice a 24 cap] 24)
  clear hr
  go_enter Try.func52, Try.ntmps52
  go_wp2_with fail
  generalize w.alloc _ = W at *
  go_loopw [3, 9] (fun x y wr => ∃ (i m : Nat), i ≤ 24 ∧ y = .int .i64 (i : Int) ∧ x = .int .i64 (m : Int) ∧ m ≤ 60 ∧ Hid (m = tot rs i) ∧ wr = W) (fun _ y _ => 24 - (intOf y).toNat)
  case atStart => exact ⟨0, 0, by omega, rfl, rfl, by omega, hide rfl, rfl⟩
  case round =>
    obtain ⟨i, m, hi24, rfl, rfl, hm, HM, rfl⟩ := hrel
    by_cases hlt : i < 24
    · obtain ⟨b, off, rfl, hb, hrow⟩ := HR.out (by omega)
      obtain ⟨y, q1, q2⟩ := hrow i hlt
      obtain ⟨a1, c1, rfl⟩ := q2.form
      have c0 := (hbA.cell (p := ⟨b, off + i, none⟩) hb).trans q1
      have HM2 := hide (show m + (rs i).n = tot rs (i + 1) by rw [HM.out]; rfl)
      have hm2 : m + (rs i).n ≤ 60 := by rw [HM2.out]; exact HT.out (i + 1) hlt
      have hi0 : (0 : Int) ≤ (i : Int) := by omega
      have hi1 : (i : Int) < 24 := by omega
      clear hrow q2 HM q1
      generalize (rs i).n = ni at *
      go_wp2
      exact ⟨⟨i + 1, m + ni, by omega, by go_num, by go_num, hm2, HM2, trivial⟩, by simp [intOf]; omega⟩
    · obtain rfl : i = 24 := by omega
      have HN := hide (show (m : Int) = ((tot rs 24 : Nat) : Int) by rw [HM.out])
      clear HM
      go_wp2
      go_ret
      exact ⟨by rw [HN.out]; rfl, hbA⟩
set_option maxRecDepth 20000 in
set_option maxHeartbeats 8000000 in
theorem l5_own (now : Int) (v : Value) (rs : Nat → Rw) (w : World) (hv : RowsOf w v 24 rs) (hs : Short 24 rs) :
    Calls Try.prog 54 #[.agg #[.int .i64 now, v]] w fun e w' => (∃ u X, e = .returned (.agg #[.int .i64 now, u]) ∧ OW 24 w' w.heap.size u rs X) ∧ Below w.heap.size w w' := by
  obtain ⟨i0, hi, hz0, hz1, hz2⟩ := info_parts info_timer
  obtain ⟨j0, hj, yz0, yz1, yz2⟩ := info_parts info_timers
  obtain ⟨a, cap, rfl, hr⟩ := hv
  have HR := hide hr
  have HS := hide hs.2
  have hb0 := ((Below.refl w.heap.size w).alloc (Nat.le_refl _) (.cells #[.int .i64 now, .slice a 24 cap] 24)).alloc (by simp) (.cells #[.int .i64 0, .slice none 0 0] 24)
  have hW0 := (Blk.fresh w #[.int .i64 now, .slice a 24 cap] 2 (p2 (.int .i64 now) (.slice a 24 cap)) 24 rfl).alloc (.cells #[.int .i64 0, .slice none 0 0] 24)
  have hR0 := Blk.fresh (w.alloc (.cells #[.int .i64 now, .slice a 24 cap] 24)) #[.int .i64 0, .slice none 0 0] 2 (p2 (.int .i64 0) (.slice none 0 0)) 24 rfl
  rw [World.size_alloc] at hR0
  have HI0 := hide (show Blk _ w.heap.size 2 (p2 (.int .i64 now) (.slice a 24 cap)) 24 ∧ Blk _ (w.heap.size + 1) 2 (p2 (.int .i64 0) (.slice none 0 0)) 24 ∧ Below w.heap.size w _ from ⟨hW0, hR0, hb0⟩)
  clear hr hs hb0 hW0 hR0
  go_enter Try.func54, Try.ntmps54
  go_wp2_with fail
  go_loopw [3, 9] (fun x y wr => ∃ (i : Nat) (X : Nat → Value), i ≤ 24 ∧ y = .int .i64 (i : Int) ∧ Hid (OW i wr w.heap.size x rs X ∧ Blk wr w.heap.size 2 (p2 (.int .i64 now) (.slice a 24 cap)) 24 ∧ Blk wr (w.heap.size + 1) 2 (p2 (.int .i64 0) (.slice none 0 0)) 24 ∧ Below w.heap.size w wr)) (fun _ y _ => 24 - (intOf y).toNat)
  case atStart => exact ⟨0, fun _ => undef, by omega, rfl, hide ⟨⟨World.ownsRow_nil _ _ _ _, fun i h => by omega, fun i j h => by omega⟩, HI0.out⟩⟩
  case round =>
    rename World => wo
    obtain ⟨i, X, hi24, rfl, HI⟩ := hrel
    obtain ⟨ax, cx, rfl⟩ := own_form HI.out.1.hd
    by_cases hlt : i < 24
    · obtain ⟨b, off, rfl, hb, hrow⟩ := HR.out (by omega)
      obtain ⟨y, q1, q2⟩ := hrow i hlt
      obtain ⟨hO, hWb, hRb, hbo⟩ := HI.out
      have c0 := (hbo.cell (p := ⟨b, off + i, none⟩) hb).trans q1
      obtain ⟨a1, c1, rfl, hr1⟩ := q2.below hbo
      have hi0 : (0 : Int) ≤ (i : Int) := by omega
      have hi1 : (i : Int) < 24 := by omega
      have hni := HS.out i hlt
      have hdn := (Below.refl wo.heap.size wo).alloc (Nat.le_refl _) (.cells #[] 40)
      have hOe := own_empty wo 40 2
      have hso := hbo.size
      have HFin := hide (show ∀ (w3 : World) (a3 : Option Addr) (c3 : Nat), w3.ownsRow wo.heap.size 40 2 (.slice a3 (rs i).n c3) (rs i).n (tv (rs i).n (rs i).f) → Below wo.heap.size wo w3 → ∀ (v7 : Value) (w7 : World), w7.ownsRow w.heap.size 52 1 v7 (i + 1) (hdr X i ++ [.slice a3 (rs i).n c3]) → (w3.alloc (.cells #[.slice a3 (rs i).n c3] 52)).grownBy w7 (Value.slice ax i cx).ownBlock →
          OW (i + 1) w7 w.heap.size v7 rs (upd X i (.slice a3 (rs i).n c3)) ∧ Blk w7 w.heap.size 2 (p2 (.int .i64 now) (.slice (some ⟨b, off, none⟩) 24 cap)) 24 ∧ Blk w7 (w.heap.size + 1) 2 (p2 (.int .i64 0) (.slice none 0 0)) 24 ∧ Below w.heap.size w w7 from fun w3 a3 c3 h3 hb3 v7 w7 h7 hg7 => by
        have hdn3 := (Below.refl w3.heap.size w3).alloc (Nat.le_refl _) (.cells #[.slice a3 (rs i).n c3] 52)
        have hb4 := hb3.trans (hdn3.mono hb3.size)
        have hO4 := hO.down hb4
        have h34 := owns_below h3 hdn3
        have hW4 := (hWb.down hb4).grown hO4.hd (by decide) hg7
        have hR4 := (hRb.down hb4).grown hO4.hd (by decide) hg7
        refine ⟨⟨?_, fun j hj => ?_, fun j j' hj hj' hjj q hq => ?_⟩, hW4, hR4, (hbo.trans (hb4.mono hso)).grown hg7 (Nat.le_trans hso hb4.size) (fun q hq => (hO4.hd.lt q hq).1)⟩
        · rw [hdr_succ, upd_same, hdr_congr (X' := X) (fun j hj => upd_other _ _ _ _ (by omega))]; exact h7
        · by_cases e : j = i
          · subst e; rw [upd_same]; exact owns_mono (owns_other h34 hg7 (owns_apart h34 hO4.hd (by decide))) hso
          · rw [upd_other _ _ _ _ e]; exact owns_other (hO4.row j (by omega)) hg7 (owns_apart (hO4.row j (by omega)) hO4.hd (by decide))
        · by_cases e : j = i
          · subst e
            rw [upd_same] at hq
            rw [upd_other _ _ _ _ (fun e => hjj e.symm)]
            intro h5
            have h6 := (h3.lt q hq).1
            have h7 := ((hO.row j' (by omega)).lt q h5).2
            omega
          · rw [upd_other _ _ _ _ e] at hq
            by_cases e' : j' = i
            · subst e'
              rw [upd_same]
              intro h5
              have h6 := (h3.lt q h5).1
              have h7 := ((hO.row j (by omega)).lt q hq).2
              omega
            · rw [upd_other _ _ _ _ e']; exact hO.apart j j' (by omega) (by omega) hjj q hq)
      have HOd := hide hO
      cases a1 with
      | none =>
        have hn0 : (rs i).n = 0 := by
          rcases Nat.eq_zero_or_pos (rs i).n with h | h
          · exact h
          · obtain ⟨b', off', h2, _⟩ := hr1 h; cases h2
        rw [hn0] at c0
        have hrE := owns_below (HOd.out.down hdn).hd ((Below.refl (wo.alloc (.cells #[] 40)).heap.size (wo.alloc (.cells #[] 40))).alloc (Nat.le_refl _) (.cells #[.slice (some ⟨wo.heap.size, 0, none⟩) 0 0] 52))
        have HF2 := hide (HFin.out (wo.alloc (.cells #[] 40)) (some ⟨wo.heap.size, 0, none⟩) 0 (by rw [hn0]; exact hOe) hdn)
        rw [hn0] at HF2
        clear hr1 q1 q2 hrow HI hO hn0 HFin
        go_wp2_with (at_builtin; refine wpList_append_own _ rfl _ _ 22 rfl w.heap.size 52 j0 _ 1 24 Try.underlying22 hj yz0 yz1 yz2 rfl (by decide) _ i _ rfl hrE ⟨wo.heap.size + 1, 0, none⟩ 1 1 [.slice (some ⟨wo.heap.size, 0, none⟩) 0 0] rfl rfl (by have := news1 (wo.alloc (.cells #[] 40)) (.slice (some ⟨wo.heap.size, 0, none⟩) 0 0) 52; rw [World.size_alloc] at this; exact this) (by intro u hu; simp at hu; subst hu; rfl) (by unfold maxLen; omega) (by omega) (by simp; omega) ?_)
        intro v7 w7 hown7 hgrow7 _
        have HE := hide (HF2.out v7 w7 hown7 hgrow7)
        obtain ⟨a7, c7, rfl⟩ := own_form hown7
        clear HF2 hgrow7 hown7 hrE HOd hdn hOe
        go_wp2
        exact ⟨⟨i + 1, _, by omega, by go_num, HE⟩, by simp [intOf]; omega⟩
      | some ad =>
        have hnews : ∀ j u, (tv (rs i).n (rs i).f)[j]? = some u → (wo.alloc (.cells #[] 40)).cell? (ad.add j) = some u := by
          intro j u hj
          have hjn : j < (rs i).n * 2 := by have := (List.getElem?_eq_some_iff.1 hj).1; rwa [tv_len] at this
          rw [tv_get hjn] at hj
          cases hj
          obtain ⟨b', off', h1, h2, h3⟩ := hr1 (by omega)
          cases h1
          rw [show (⟨b', off', none⟩ : Addr).add j = ⟨b', off' + j, none⟩ by unfold Addr.add; split <;> simp_all]
          exact (hdn.cell (p := ⟨b', off' + j, none⟩) h2).trans (h3 j hjn)
        have HNw := hide hnews
        have HTl := hide (tv_len (rs i).n (rs i).f)
        clear hr1 q1 q2 hrow HI hO hnews
        go_wp2_with (at_builtin; refine wpList_append_own _ rfl _ _ 52 rfl wo.heap.size 40 i0 _ 2 16 Try.underlying52 hi hz0 hz1 hz2 rfl (by decide) _ 0 _ rfl hOe ad (rs i).n c1 (tv (rs i).n (rs i).f) rfl HTl.out HNw.out tv_one (by unfold maxLen; omega) (by omega) (by simp) ?_)
        intro v3 w3 hown3 hgrow3 _
        have hb3 : Below wo.heap.size wo w3 := hdn.grown hgrow3 (by simp) (fun q hq => (hOe.lt q hq).1)
        obtain ⟨a3, c3, rfl⟩ := own_form hown3
        have HO3 := hide hown3
        have hs3 := hb3.size
        have hrE := owns_below (HOd.out.down hb3).hd ((Below.refl w3.heap.size w3).alloc (Nat.le_refl _) (.cells #[.slice a3 (rs i).n c3] 52))
        clear hgrow3 hown3 HNw hdn
        go_wp2_with (at_builtin; refine wpList_append_own _ rfl _ _ 22 rfl w.heap.size 52 j0 _ 1 24 Try.underlying22 hj yz0 yz1 yz2 rfl (by decide) _ i _ rfl hrE ⟨w3.heap.size, 0, none⟩ 1 1 [.slice a3 (rs i).n c3] rfl rfl (news1 w3 _ _) (by intro u hu; simp at hu; subst hu; rfl) (by unfold maxLen; omega) (by omega) (by simp; omega) ?_)
        intro v7 w7 hown7 hgrow7 _
        have HE := hide (HFin.out w3 a3 c3 HO3.out hb3 v7 w7 hown7 hgrow7)
        obtain ⟨a7, c7, rfl⟩ := own_form hown7
        clear HFin hgrow7 hown7 hrE HOd hOe
        go_wp2
        exact ⟨⟨i + 1, _, by omega, by go_num, HE⟩, by simp [intOf]; omega⟩
    · obtain rfl : i = 24 := by omega
      obtain ⟨hO, hWb, hRb, hbo⟩ := HI.out
      obtain ⟨x0, x1, x2, x3⟩ := hWb.pair
      have hW2 := hWb.set 1 (.slice ax 24 cx)
      have hR2 := hRb.set_other (show w.heap.size + 1 ≠ w.heap.size by omega) 1 (.slice ax 24 cx)
      have z0 : (wo.setCell ⟨w.heap.size, 1, none⟩ (.slice ax 24 cx)).cell? ⟨w.heap.size, 0, none⟩ = some (.int .i64 now) := hW2.cell (show 0 < 2 by omega)
      have z1 : (wo.setCell ⟨w.heap.size, 1, none⟩ (.slice ax 24 cx)).cell? ⟨w.heap.size, 1, none⟩ = some (.slice ax 24 cx) := hW2.cell (show 1 < 2 by omega)
      obtain ⟨y0, y1, y2, y3⟩ := hR2.pair
      have hb2 := ((hbo.setCell (p := ⟨w.heap.size, 1, none⟩) (Nat.le_refl _) (.slice ax 24 cx)).setCell (p := ⟨w.heap.size + 1, 0, none⟩) (by simp) (.int .i64 now)).setCell (p := ⟨w.heap.size + 1, 1, none⟩) (by simp) (.slice ax 24 cx)
      have HF := hide (show OW 24 (((wo.setCell ⟨w.heap.size, 1, none⟩ (.slice ax 24 cx)).setCell ⟨w.heap.size + 1, 0, none⟩ (.int .i64 now)).setCell ⟨w.heap.size + 1, 1, none⟩ (.slice ax 24 cx)) w.heap.size (.slice ax 24 cx) rs X from by
        have k1 : ∀ {e s n : Nat} {v : Value} {xs : List Value}, 24 ≠ e → wo.ownsRow w.heap.size e s v n xs → (((wo.setCell ⟨w.heap.size, 1, none⟩ (.slice ax 24 cx)).setCell ⟨w.heap.size + 1, 0, none⟩ (.int .i64 now)).setCell ⟨w.heap.size + 1, 1, none⟩ (.slice ax 24 cx)).ownsRow w.heap.size e s v n xs := fun hne h => owns_set (owns_set (owns_set h hWb hne _ _) hR2 hne _ _) (hR2.set 0 _) hne _ _
        exact ⟨k1 (by decide) hO.hd, fun j hj => k1 (by decide) (hO.row j hj), hO.apart⟩)
      clear HI HI0 hO hWb hRb hW2 hR2
      go_wp2
      exact bodyPost_ret (v := .agg #[.int .i64 now, .slice ax 24 cx]) (by simp [results, Try.results54, go_sem, y0, y1]) rfl ⟨⟨_, _, rfl, HF.out⟩, hb2⟩
end Go.Proofs.Ytcodllammndciaa

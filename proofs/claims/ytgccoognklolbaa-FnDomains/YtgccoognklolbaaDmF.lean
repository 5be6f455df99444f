/-
  The specification's FailOver.
-/
import Derived.Test.YtgccoognklolbaaDmU
namespace Go.Proofs.Ytgccoognklolbaa
open Go.RowKit M
open Go.Sort (grow)
set_option maxRecDepth 20000 in
set_option maxHeartbeats 4000000 in
theorem spec_fail (b off cap : Nat) (l : Dms) (x : ByteArray) (r : Int) (w : World) (hv : DomsOf w (.slice (some ⟨b, off, none⟩) l.length cap) l) (hn : l.length ≤ 1048576) (hl : LenD l) :
    Calls Try.prog 24 #[.slice (some ⟨b, off, none⟩) l.length cap, .string x, .int .i64 r] w fun e w' => (∃ u, e = .returned (.tuple #[u, .bool (fob l x r)]) ∧ OwnD w' w.heap.size u (foa l x r)) ∧ Below w.heap.size w w' := by
  have HV := hide hv
  have HL := hide hl
  clear hv hl
  by_cases hg : GoodDm l
  case neg =>
    have HG := hide (gdB_no hg)
    have hb : fob l x r = false := by unfold fob dvb; rw [HG.out]; rfl
    rw [hb, foa_no hb]
    clear hg hb
    go_enter Try.func24, Try.ntmps24
    go_wp2_with fail
    refine (spec_gdoms _ l _ HV.out hn HL.out).mono ?_
    rintro e w1 ⟨rfl, hb1⟩
    rw [HG.out]
    have HB := hide hb1
    clear hb1
    go_wp2
    go_ret2
    exact ⟨⟨_, rfl, OwnD.nil _ _⟩, HB.out⟩
  have HG := hide (gdB_yes hg)
  have HGD := hide hg
  have hl12 := hg.1
  have HYES := hide (show ∀ (k : Nat) (y : Dm), l[k]? = some y → y.nm = x → nxb y.ver r = true → fob l x r = true ∧ foa l x r = l.set k ⟨y.nm, nx y.ver r, y.nt⟩ from fun k y hy hyx hnx => by
    subst hyx
    obtain ⟨h1, h2, h3⟩ := dvv_found hg hy
    have h4 : fob l y.nm r = true := by unfold fob; rw [h1, h2, hnx]; rfl
    exact ⟨h4, by rw [foa_yes h4, h2, h3]⟩)
  have HNX := hide (show ∀ (k : Nat) (y : Dm), l[k]? = some y → y.nm = x → nxb y.ver r = false → fob l x r = false ∧ foa l x r = [] from fun k y hy hyx hnx => by
    subst hyx
    obtain ⟨h1, h2, h3⟩ := dvv_found hg hy
    have h4 : fob l y.nm r = false := by unfold fob; rw [h1, h2, hnx]; rfl
    exact ⟨h4, foa_no h4⟩)
  have HNO := hide (show (∀ d ∈ l, d.nm ≠ x) → fob l x r = false ∧ foa l x r = [] from fun h => by
    have h4 : fob l x r = false := by unfold fob; rw [dvb_none h]; rfl
    exact ⟨h4, foa_no h4⟩)
  generalize fob l x r = fb at *
  generalize foa l x r = fa at *
  clear hg
  go_enter Try.func24, Try.ntmps24
  go_wp2_with fail
  refine (spec_gdoms _ l _ HV.out hn HL.out).mono ?_
  rintro e w1 ⟨rfl, hb1⟩
  rw [HG.out]
  have hb2 := hb1.alloc hb1.size (.cells #[] 58)
  have hown := (OwnD.lit0 w1).mono hb1.size
  have hsrc := HV.out.below hb2
  have HB2 := hide hb2
  clear hb1 HG HL
  go_wp2_with (at_builtin; refine wpList_appD _ rfl _ _ rfl w.heap.size [] l _ rfl hown b off cap rfl hsrc (by simp; omega) hb2.size ?_)
  intro a4 n4 c4 w4 hO4 hgr _
  have hb4 : Below w.heap.size w w4 := grown_low hb2 hgr hb2.size (fun j hj => (hown.lt hj).1)
  have HO4 := hide (show OwnD w4 w.heap.size (.slice a4 n4 c4) l from hO4)
  clear hO4 hgr hown hsrc hb2 HB2 HV
  have hn4 : n4 ≤ 1048576 := by rw [HO4.out.len]; exact hn
  go_wp2
  go_loopw [21] (fun i wr => ∃ k : Nat, k ≤ l.length ∧ i = .int .i64 k ∧ Hid (OwnD wr w.heap.size (.slice a4 n4 c4) l ∧ ∀ q d, q < k → l[q]? = some d → d.nm ≠ x) ∧ Below w.heap.size w wr) (fun i _ => l.length - (intOf i).toNat)
  case atStart => exact ⟨0, Nat.zero_le _, rfl, hide ⟨HO4.out, fun q d hq => by omega⟩, hb4⟩
  case round =>
    obtain ⟨k, hk, rfl, HU, hbw⟩ := hrel
    have HN := hide HU.out.1.len
    clear hb4
    by_cases hlt : k < l.length
    · obtain ⟨y, hy⟩ : ∃ y, l[k]? = some y := ⟨l[k], List.getElem?_eq_getElem hlt⟩
      rcases HU.out.1.split with ⟨_, h0⟩ | ⟨g, cap', hv, hBg, hgl, -, -⟩
      · rw [h0] at hlt; simp at hlt
      · simp only [Value.slice.injEq] at hv
        obtain ⟨rfl, -, -⟩ := hv
        obtain ⟨e0, e1, e2⟩ := HU.out.1.d3 hy
        have hi0 : (0 : Int) ≤ (k : Int) := by omega
        have hi1 : (k : Int) < (n4 : Int) := by have := HN.out; omega
        have hi2 : k < n4 := by have := HN.out; omega
        have hd1 := (Below.refl wr.heap.size wr).alloc (Nat.le_refl _) (.cells #[.string y.nm, .int .i64 y.ver, .string y.nt] 58)
        have hbw1 := hbw.trans (hd1.mono hbw.size)
        have ho1 := HU.out.1.down hd1
        have HO1 := hide ho1
        have HY := hide hy
        clear hd1 hy HO4
        by_cases hyx : y.nm = x
        · have hd : (y.nm.toList == x.toList) = true := by rw [eqS]; exact decide_eq_true hyx
          have HYX := hide hyx
          clear hyx ho1
          cases hnx : nxb y.ver r
          · have hxa := nxa_no hnx
            have HF := hide (HNX.out k y HY.out HYX.out hnx)
            clear HNX HYES HNO HU HO1
            go_wp2_with (go_at_call 15; refine (spec_next _ _ _).mono ?_; rintro e w' ⟨rfl, rfl⟩; rw [hnx, hxa])
            go_ret2
            exact ⟨⟨.slice none 0 0, by rw [HF.out.1]; rfl, by rw [HF.out.2]; exact OwnD.nil _ _⟩, hbw1⟩
          · have hxa := nxa_yes hnx
            have HF := hide (HYES.out k y HY.out HYX.out hnx)
            generalize nx y.ver r = z at *
            obtain ⟨W1, hW1⟩ : ∃ W1, wr.alloc (.cells #[.string y.nm, .int .i64 y.ver, .string y.nt] 58) = W1 := ⟨_, rfl⟩
            obtain ⟨s0, s1, s2⟩ := HO1.out.d3 HY.out
            have f1 := HO1.out.thaw (k * 3 + 1)
            have hst := HU.out.1.setVer HY.out z
            have hbs := hbw.setCell (p := ⟨g, k * 3 + 1, none⟩) hBg (.int .i64 z)
            have HZ := hide (show OwnD ((wr.setCell ⟨g, k * 3 + 1, none⟩ (.int .i64 z)).alloc (.cells #[.string y.nm, .int .i64 y.ver, .string y.nt] 58)) w.heap.size (.slice (some ⟨g, 0, none⟩) n4 c4) fa ∧ Below w.heap.size w ((wr.setCell ⟨g, k * 3 + 1, none⟩ (.int .i64 z)).alloc (.cells #[.string y.nm, .int .i64 y.ver, .string y.nt] 58)) from
              ⟨by rw [HF.out.2]; exact hst.alloc _, hbs.alloc hbs.size _⟩)
            clear hst hbs
            clear HNX HYES HNO HU HO1 hW1
            go_wp2_with (go_at_call 15; refine (spec_next _ _ _).mono ?_; rintro e w' ⟨rfl, rfl⟩; rw [hnx, hxa])
            go_ret2
            exact ⟨⟨_, by rw [HF.out.1]; rfl, HZ.out.1⟩, HZ.out.2⟩
        · have hd : (y.nm.toList == x.toList) = false := by rw [eqS]; exact decide_eq_false hyx
          have HU2 := hide (show OwnD _ w.heap.size (.slice (some ⟨g, 0, none⟩) n4 c4) l ∧ ∀ q d, q < k + 1 → l[q]? = some d → d.nm ≠ x from ⟨ho1, fun q d hq hd => by
            by_cases e : q = k
            · subst e
              rw [HY.out] at hd
              simp only [Option.some.injEq] at hd
              subst hd; exact hyx
            · exact HU.out.2 q d (by omega) hd⟩)
          clear hyx HU ho1 HO1 HNX HYES HNO
          go_wp2
          go_roundw
          case rel => exact ⟨k + 1, by omega, by go_num, HU2, hbw1⟩
          case measure => simp [intOf]; omega
    · have HF := hide (HNO.out (fun d hd => by
        obtain ⟨i, hi⟩ := List.mem_iff_getElem?.1 hd
        have := ltD hi
        exact HU.out.2 i d (by omega) hi))
      have hi1 : ¬ (k : Int) < (n4 : Int) := by have := HN.out; omega
      clear HNX HYES HNO HU HO4
      go_wp2
      go_ret2
      exact ⟨⟨.slice none 0 0, by rw [HF.out.1]; rfl, by rw [HF.out.2]; exact OwnD.nil _ _⟩, hbw⟩
end Go.Proofs.Ytgccoognklolbaa

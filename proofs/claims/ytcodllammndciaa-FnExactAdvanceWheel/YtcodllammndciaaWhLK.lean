/-
  Marks on wheels that keep rows of numbers; a list of numbers among a law's answers.
-/
import Derived.Test.YtcodllammndciaaWhLD
import Derived.Test.YtcodllammndciaaWhTI
namespace Go.Proofs.Ytcodllammndciaa
open Go.RowKit M
open Clk (upd upd_same upd_other)
open Go.Sort (grow)
namespace M
/-- Blocks of numbers stay. -/
def KpB (w w' : World) : Prop := ∀ b n f, Blk w b n f 3 → Blk w' b n f 3
def RngI (lo hi : Nat) (w w' : World) : Prop := Rng lo hi w w' ∧ KpB w w'
theorem RngI.refl (lo hi : Nat) (w : World) : RngI lo hi w w := ⟨Rng.refl _ _ _, fun _ _ _ h => h⟩
theorem RngI.trans {lo hi : Nat} {a b c : World} (h : RngI lo hi a b) (h2 : RngI lo hi b c) : RngI lo hi a c := ⟨h.1.trans h2.1, fun _ _ _ hb => h2.2 _ _ _ (h.2 _ _ _ hb)⟩
theorem rngI_of {lo hi g n c : Nat} {w w' : World} {f : Nat → Int} (h : Rng lo hi w w') (ho : Only g w w') (hT : OwnT w g n c f) : RngI lo hi w w' := ⟨h, fun b m h' hb => by
  obtain ⟨_, hh, hk, _⟩ := hT
  exact ho.blk hb (hb.apart hk (by decide))⟩
theorem OwnB.kpb {w w' : World} {b n cap : Nat} {f : Nat → Int} (h : OwnB w b n cap f) (hk : KpB w w') : OwnB w' b n cap f := by
  obtain ⟨hc, k, hb, he⟩ := h
  exact ⟨hc, k, hk _ _ _ hb, he⟩
theorem AnsC.kpb {w w' : World} {B n : Nat} {r : Value} {f : Nat → Int} (h : AnsC w B r n f) (hk : KpB w w') : AnsC w' B r n f := by
  rcases h with h | ⟨b, cap, hr, hB, hb⟩
  · exact .inl h
  · exact .inr ⟨b, cap, hr, hB, hb.kpb hk⟩
theorem pvi_iv (L : List Int) : pvi L = (List.range L.length).map (iv fun q => L.getD q 0) := by
  unfold pvi
  apply List.ext_getElem
  · simp
  · intro i h1 h2
    simp at h1
    simp [iv, h1]
theorem own_list_ansC {w : World} {B : Nat} {v : Value} {L : List Int} (h : w.ownsRow B 3 1 v L.length (pvi L)) : AnsC w B v L.length (fun q => L.getD q 0) := own_ansC (by rw [← pvi_iv]; exact h)
/-- Marks on a list of numbers keep wheels. -/
theorem AnsX.onlyI {w w' : World} {B hi k b : Nat} {v : Value} {rs : Nat → Rw} (h : AnsX w B hi v k rs) (ho : Only b w w') {n : Nat} {f : Nat → Value} (hb : Blk w b n f 3) : AnsX w' B hi v k rs := by
  rcases h with h | ⟨g, cap, cap', β, X, hv, h, h2⟩
  · exact .inl h
  · refine .inr ⟨g, cap, cap', β, X, hv, ⟨h.ge, h.le, ho.blk h.blk (h.blk.apart hb (by decide)), fun i hi => ?_, h.apart⟩, h2⟩
    obtain ⟨a, c, e1, e2⟩ := h.row i hi
    refine ⟨a, c, e1, fun hn => ?_⟩
    obtain ⟨z1, z2, hc, k', hk, he⟩ := e2 hn
    exact ⟨z1, z2, hc, k', ho.blk hk (hk.apart hb (by decide)), he⟩
end M
set_option maxHeartbeats 2000000 in
theorem mark_rowsA2 (B hi g cap cap' k k0 : Nat) (rs : Nat → Rw) (β : Nat → Nat) (X : Nat → Value) (w : World) (h : AW 52 w B g cap k rs β X) (hhi : ∀ i, i < k → 0 < (rs i).n → β i < hi) (hs : Small k rs) (hk0 : k0 ≤ 100000000) :
    Calls Try.prog 40 #[.slice (some ⟨g, 0, none⟩) k cap', .int .i64 (k0 : Nat)] w fun e w' => e = .returned (.int .i64 ((k0 + tot rs k * 2 : Nat) : Int)) ∧ AW 52 w' B g cap k (mkR k0 rs) β X ∧ RngI B hi w w' := by
  have HM := hide h
  have HS := hide hs
  have HH := hide hhi
  have hk : k ≤ 1048576 := hs.short.1
  clear h hs hhi
  go_enter Try.func40, Try.ntmps40
  go_wp2
  go_loopw [1, 5] (fun x i wr => ∃ (j m : Nat), j ≤ k ∧ i = .int .i64 j ∧ x = .int .i64 (m : Int) ∧ Hid (m = k0 + tot rs j * 2) ∧ m ≤ 200000000 ∧ Hid (AW 52 wr B g cap k (mkTo k0 rs j) β X ∧ RngI B hi w wr)) (fun _ i _ => k - (intOf i).toNat)
  case atStart => exact ⟨0, k0, Nat.zero_le _, rfl, rfl, hide (by simp [tot]), by omega, hide ⟨HM.out.ext2 (fun i hi => by unfold mkTo; rw [if_neg (by omega)]; exact ⟨rfl, fun _ _ => rfl⟩), RngI.refl _ _ _⟩⟩
  case round =>
    obtain ⟨j, m, hj, rfl, rfl, HT, hm, HA⟩ := hrel
    by_cases hlt : j < k
    · obtain ⟨a, c, hx, hr⟩ := HA.out.1.row j hlt
      rw [mkTo_n] at hx hr
      have c0 := HA.out.1.blk.cell (show j < cap by have := HA.out.1.le; omega)
      rw [hx] at c0
      have hS := HS.out.short.2 j hlt
      have HT2 := hide (show m + (rs j).n * 2 = k0 + tot rs (j + 1) * 2 by rw [HT.out]; simp only [tot]; omega)
      have hm2 : m + (rs j).n * 2 ≤ 200000000 := by
        have h1 := HT2.out
        have h2 := tot_mono rs (i := j + 1) k hlt
        have h3 := HS.out
        unfold Small at h3
        omega
      by_cases hn : 0 < (rs j).n
      · obtain ⟨ha, hB, hO⟩ := hr hn
        subst ha
        have HO := hide hO
        have HX := hide hx
        clear hr hO hx
        go_wp2_with fail
        refine (mark_timers (β j) (rs j).n c m _ _ HO.out hS (by omega)).mono ?_
        rintro e w2 ⟨rfl, hO2, ho⟩
        have hA2 := HA.out.1.turned (by decide) hlt (by rw [mkTo_n]; exact hn) (by rw [mkTo_n]; exact HX.out) ho (by rw [mkTo_n]; exact hO2)
        rw [mkTo_n, show mkT m = mkT (k0 + tot rs j * 2) by rw [HT.out], mkTo_succ] at hA2
        have HA2 := hide (show _ ∧ RngI B hi w w2 from ⟨hA2, HA.out.2.trans (rngI_of (ho.rng hB (HH.out j hlt hn)) ho HO.out)⟩)
        clear hO2 ho hA2 HO HX HA HT c0
        go_wp2
        exact ⟨⟨j + 1, m + (rs j).n * 2, by omega, by go_num, rfl, HT2, hm2, HA2⟩, by simp [intOf]; omega⟩
      · have hn0 : (rs j).n = 0 := by omega
        rw [hn0] at c0
        have HA2 := hide (show AW 52 wr B g cap k (mkTo k0 rs (j + 1)) β X ∧ RngI B hi w wr from ⟨HA.out.1.ext2 (fun i hi => by
          rw [mkTo_n, mkTo_n]
          refine ⟨rfl, fun q hq => ?_⟩
          unfold mkTo
          by_cases e : i < j
          · rw [if_pos e, if_pos (by omega)]
          · rw [if_neg e]
            by_cases e2 : i = j
            · subst e2; omega
            · rw [if_neg (by omega)]), HA.out.2⟩)
        have HT3 := hide (show m = k0 + tot rs (j + 1) * 2 by have := HT2.out; omega)
        clear hr hx HA HT HT2 hn0 hn hS hm2
        go_wp2_with fail
        refine (mark_none _ _ _ _).mono ?_
        rintro e w2 ⟨rfl, rfl⟩
        go_wp2
        exact ⟨⟨j + 1, m, by omega, by go_num, rfl, HT3, hm, HA2⟩, by simp [intOf]; omega⟩
    · obtain rfl : j = k := by omega
      have HB := hide (show AW 52 wr B g cap j (mkR k0 rs) β X ∧ RngI B hi w wr from ⟨HA.out.1.ext2 (fun i hi => by unfold mkTo; rw [if_pos hi]; exact ⟨rfl, fun _ _ => rfl⟩), HA.out.2⟩)
      have HTT := hide (show (m : Int) = ((k0 + tot rs j * 2 : Nat) : Int) by rw [HT.out])
      clear HM HS HA HT HH
      go_wp2
      go_ret
      exact ⟨by rw [HTT.out]; rfl, HB.out⟩
theorem mark_rows2 (B hi k k0 : Nat) (v : Value) (rs : Nat → Rw) (w : World) (h : AnsX w B hi v k rs) (hs : Small k rs) (hk0 : k0 ≤ 100000000) :
    Calls Try.prog 40 #[v, .int .i64 (k0 : Nat)] w fun e w' => e = .returned (.int .i64 ((k0 + tot rs k * 2 : Nat) : Int)) ∧ AnsX w' B hi v k (mkR k0 rs) ∧ RngI B hi w w' := by
  rcases h with ⟨rfl, rfl⟩ | ⟨g, cap, cap', β, X, rfl, h, hhi⟩
  · refine (mark_rows0 _ w).mono ?_
    rintro e w' ⟨rfl, rfl⟩
    exact ⟨by simp [tot], .inl ⟨rfl, rfl⟩, RngI.refl _ _ _⟩
  · refine (mark_rowsA2 B hi g cap cap' k k0 rs β X w h hhi hs hk0).mono ?_
    rintro e w' ⟨rfl, h1, h2⟩
    exact ⟨rfl, .inr ⟨g, cap, cap', β, X, rfl, h1, hhi⟩, h2⟩
set_option maxHeartbeats 1000000 in
theorem mark_wheel2 (x : Int) (B hi k k0 : Nat) (v : Value) (rs : Nat → Rw) (w : World) (h : AnsX w B hi v k rs) (hs : Small k rs) (hk0 : k0 ≤ 100000000) :
    Calls Try.prog 14 #[.agg #[.int .i64 x, v], .int .i64 (k0 : Nat)] w fun e w' => e = .returned (.int .i64 ((k0 + tot rs k * 2 : Nat) : Int)) ∧ AnsX w' B hi v k (mkR k0 rs) ∧ Kept B hi w w' ∧ KpB w w' := by
  have hbA := (Below.refl w.heap.size w).alloc (Nat.le_refl _) (.cells #[.int .i64 x, v] 24)
  have HV := hide (h.down hbA)
  have HS := hide hs
  obtain ⟨a, cap, rfl⟩ := h.rows.form
  clear h hs
  go_enter Try.func14, Try.ntmps14
  go_wp2_with fail
  refine (mark_rows2 B hi k k0 _ rs _ HV.out HS.out hk0).mono ?_
  rintro e w1 ⟨rfl, h1, h2⟩
  have hbw := (Below.kept hbA B hi).rng h2.1
  have HKB := hide (show KpB w w1 from fun b n f hb => h2.2 b n f (hb.down hbA))
  have H1 := hide h1
  clear HV HS h1 h2 hbA
  obtain ⟨m, hm⟩ : ∃ m, k0 + tot rs k * 2 = m := ⟨_, rfl⟩
  have HM := hide hm
  rw [hm]
  clear hm
  go_wp2
  go_ret
  exact ⟨by rw [HM.out]; rfl, H1.out, hbw, HKB.out⟩
/-- The list is marked: a wheel beside it, and all below, stay. -/
theorem mark_ansK (B n k0 : Nat) (r : Value) (f : Nat → Int) (w : World) (h : AnsC w B r n f) (hn : n ≤ 1048576) (hk0 : k0 ≤ 1000000000) :
    Calls Try.prog 28 #[r, .int .i64 (k0 : Nat)] w fun e w' => e = .returned (.int .i64 ((k0 + n : Nat) : Int)) ∧ AnsC w' B r n (mk1 k0) ∧ Below B w w' ∧ w'.heap.size = w.heap.size ∧ (∀ {Bg hg k : Nat} {v : Value} {rs : Nat → Rw}, AnsX w Bg hg v k rs → AnsX w' Bg hg v k rs) ∧ (∀ {g m : Nat} {h' : Nat → Value}, Blk w g m h' 24 → Blk w' g m h' 24) := by
  rcases h with ⟨rfl, rfl⟩ | ⟨b, cap, rfl, hB, hc, k, hb, hk⟩
  · refine (mark_nil (k0 : Nat) w).mono ?_
    rintro e w' ⟨rfl, rfl⟩
    exact ⟨rfl, .inl ⟨rfl, rfl⟩, Below.refl _ _, rfl, fun h => h, fun h => h⟩
  · refine (mark_own b n cap cap k0 k w hb (fun i hi => ⟨_, hk i hi⟩) hc hn hk0).mono ?_
    rintro e w' ⟨rfl, hk', ho⟩
    exact ⟨rfl, .inr ⟨b, cap, rfl, hB, hc, _, hk', fun i hi => by unfold mkd mk1; rw [if_pos hi]⟩, ho.below hB, ho.size, fun h => h.onlyI ho hb, fun h => ho.blk h (h.apart hb (by decide))⟩
end Go.Proofs.Ytcodllammndciaa

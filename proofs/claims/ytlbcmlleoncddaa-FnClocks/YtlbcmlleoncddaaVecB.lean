/-
  Both texts of VectorsOf, at every number of processes and every list of acts.
-/
import Derived.Test.YtlbcmlleoncddaaAV
import Derived.Test.YtlbcmlleoncddaaAhead
import Derived.Test.YtlbcmlleoncddaaLam
namespace Go.Proofs.Ytlbcmlleoncddaa
open Go.RowKit M
open Clk (upd upd_same upd_other)
namespace M
/-- A slice of m slices of k numbers that is read. -/
def IntssOf (w : World) (v : Value) (m k : Nat) (f : Nat → Nat → Int) : Prop :=
  ∃ a cap, v = .slice a m cap ∧ (0 < m → ∃ b off, a = some ⟨b, off, none⟩ ∧ b < w.heap.size ∧ ∀ i, i < m → ∃ r, w.cell? ⟨b, off + i, none⟩ = some r ∧ IntsOf w r k (f i))
theorem IntssOf.below {w w' : World} {v : Value} {m k : Nat} {f : Nat → Nat → Int} (h : IntssOf w v m k f) (hb : Below w.heap.size w w') : IntssOf w' v m k f := by
  obtain ⟨a, cap, hv, hr⟩ := h
  refine ⟨a, cap, hv, fun hn => ?_⟩
  obtain ⟨b, off, ha, hlt, hrow⟩ := hr hn
  refine ⟨b, off, ha, Nat.lt_of_lt_of_le hlt hb.size, fun i hi => ?_⟩
  obtain ⟨r, hc, hI⟩ := hrow i hi
  exact ⟨r, (hb.cell (p := ⟨b, off + i, none⟩) hlt).trans hc, hI.below hb⟩
theorem IntssOf.form {w : World} {v : Value} {m k : Nat} {f : Nat → Nat → Int} (h : IntssOf w v m k f) : ∃ a cap, v = .slice a m cap := by
  obtain ⟨a, cap, hv, _⟩ := h; exact ⟨a, cap, hv⟩
theorem IntssOf.none (w : World) (k : Nat) (f : Nat → Nat → Int) : IntssOf w (.slice none 0 0) 0 k f := ⟨_, _, rfl, fun h => absurd h (Nat.lt_irrefl _)⟩
/-- A slice of slices of numbers, all in memory of its own, at block B or behind it, no two rows in one block. -/
def AnsV (w : World) (B : Nat) (r : Value) (m k : Nat) (f : Nat → Nat → Int) : Prop :=
  (r = .slice none 0 0 ∧ m = 0) ∨ ∃ (b cap : Nat) (gs : Nat → Nat), r = .slice (some ⟨b, 0, none⟩) m cap ∧ B ≤ b ∧ Blk w b m (sl gs k) 29 ∧ (∀ i, i < m → B ≤ gs i ∧ Blk w (gs i) k (iv (f i)) 3) ∧ ∀ i j, i < m → j < m → i ≠ j → gs i ≠ gs j
theorem AnsV.reads {w : World} {B m k : Nat} {r : Value} {f : Nat → Nat → Int} (h : AnsV w B r m k f) : IntssOf w r m k f := by
  rcases h with ⟨rfl, rfl⟩ | ⟨b, cap, gs, rfl, _, hb, hg, _⟩
  · exact IntssOf.none w k f
  · exact ⟨_, _, rfl, fun _ => ⟨b, 0, rfl, hb.lt, fun i hi => ⟨_, by rw [Nat.zero_add]; exact hb.cell hi, (hg i hi).2.ints⟩⟩⟩
theorem AnsV.form {w : World} {B m k : Nat} {r : Value} {f : Nat → Nat → Int} (h : AnsV w B r m k f) : ∃ a cap, r = .slice a m cap := h.reads.form
theorem AnsV.below {w w' : World} {B m k : Nat} {r : Value} {f : Nat → Nat → Int} (h : AnsV w B r m k f) (hb : Below w.heap.size w w') : AnsV w' B r m k f := by
  rcases h with h | ⟨b, cap, gs, hr, hB, hk, hg, hd⟩
  · exact .inl h
  · exact .inr ⟨b, cap, gs, hr, hB, hk.down hb, fun i hi => ⟨(hg i hi).1, (hg i hi).2.down hb⟩, hd⟩
theorem AnsV.only {w w' : World} {B m k g : Nat} {r : Value} {f : Nat → Nat → Int} (h : AnsV w B r m k f) (ho : Only g w w') (hlt : g < B) : AnsV w' B r m k f := by
  rcases h with h | ⟨b, cap, gs, hr, hB, hk, hg, hd⟩
  · exact .inl h
  · exact .inr ⟨b, cap, gs, hr, hB, ho.blk hk (by omega), fun i hi => ⟨(hg i hi).1, ho.blk (hg i hi).2 (by have := (hg i hi).1; omega)⟩, hd⟩
def Kf (l : Nat → Ac) (i k : Nat) : Nat → Int := fun q => ((Clk.cnt (P l) (F l) i k q : Nat) : Int)
theorem Kf_zero (l : Nat → Ac) (i : Nat) : Kf l i 0 = fun _ => 0 := by funext q; unfold Kf; rw [Clk.cnt_zero]; rfl
theorem Kf_all (l : Nat → Ac) (i : Nat) : Kf l i (i + 1) = Vf l i := by funext q; unfold Kf Vf; rw [Clk.cnt_all _ _ (F_lt l)]
theorem Kf_yes (l : Nat → Ac) (i k : Nat) (hk : k ≤ i) (h : k = i ∨ Ab l i k = true) : upd (Kf l i k) (P l k) (Kf l i k (P l k) + 1) = Kf l i (k + 1) := by
  have h' : k = i ∨ Clk.A (P l) (F l) i k := h.imp id (fun h => by unfold Ab at h; exact of_decide_eq_true h)
  funext q; unfold Kf upd
  by_cases hq : q = P l k
  · subst hq; rw [if_pos rfl, Clk.cnt_yes _ _ (F_lt l) i k hk h']; rfl
  · rw [if_neg hq, Clk.cnt_other _ _ i k q hq]
theorem Kf_no (l : Nat → Ac) (i k : Nat) (hk : k ≤ i) (h : ¬ (k = i ∨ Ab l i k = true)) : Kf l i (k + 1) = Kf l i k := by
  have h' : ¬ (k = i ∨ Clk.A (P l) (F l) i k) := fun x => h (x.imp id (fun x => by unfold Ab; exact decide_eq_true x))
  funext q; unfold Kf
  by_cases hq : q = P l k
  · subst hq; rw [Clk.cnt_no _ _ (F_lt l) i k hk h']
  · rw [Clk.cnt_other _ _ i k q hq]
theorem Kf_le (l : Nat → Ac) (i k q : Nat) : 0 ≤ Kf l i k q ∧ Kf l i k q ≤ k := by
  have h1 := Clk.C_le (P l) k q
  unfold Kf Clk.cnt; omega
end M
theorem info_ints : (Try.prog.info? 29).map (fun i => (i.zero, i.size, i.bytes)) = some (some (.slice none 0 0), 1, 24) := by kernel_rfl
theorem make_intss (n : Nat) (h : n ≤ 1048576) (w : World) : (Instr.makeSlice 35 (.int .i64 (n : Int)) (.int .i64 (n : Int))).run Try.prog w = .ok (.slice (some ⟨w.heap.size, 0, none⟩) n n) (w.alloc (.cells (M.cf n (fun _ => .slice none 0 0)) 29)) := by
  obtain ⟨i, hi, hz0, hz1, hz2⟩ := info_parts info_ints
  have hr := run_make (P := Try.prog) w 35 29 i _ Try.underlying35 hi hz0 .i64 .i64 (n : Int) (n : Int) (by omega) (Int.le_refl _) (by rw [hz2]; omega) (by omega)
  rw [hr, hz1]
  simp only [Int.toNat_natCast, Nat.mul_one]
  rw [← show madeCells #[(.slice none 0 0 : Value)] n = M.cf n (fun _ => .slice none 0 0) from M.cf_made _ n]
  rfl
set_option maxHeartbeats 2000000 in
theorem spec_vecs_no (p : Int) (v : Value) (n : Nat) (l : Nat → Ac) (w : World) (hv : ActsOf w v n l) (hm : n ≤ 1048576) (hg : ¬ GoodL p n l) (h1 : -9223372036854775808 ≤ p) (h2 : p ≤ 9223372036854775807) :
    Calls Try.prog 24 #[.int .i64 p, v] w fun e w' => e = .returned (.tuple #[.slice none 0 0, .bool false]) ∧ Below w.heap.size w w' := by
  have HV := hide hv
  have HG := hide hg
  obtain ⟨a, cap, rfl⟩ := hv.form
  clear hv hg
  go_enter Try.func24, Try.ntmps24
  go_wp2_with fail
  refine (spec_good_no p _ n l _ HV.out hm HG.out h1 h2).mono ?_
  rintro e w1 ⟨rfl, hb1⟩
  go_wp2
  go_ret2
  exact ⟨rfl, hb1⟩
set_option maxHeartbeats 2000000 in
theorem impl_vecs_no (p : Int) (v : Value) (n : Nat) (l : Nat → Ac) (w : World) (hv : ActsOf w v n l) (hm : n ≤ 1048576) (hg : ¬ GoodL p n l) :
    Calls Try.prog 25 #[.int .i64 p, v] w fun e w' => e = .returned (.tuple #[.slice none 0 0, .bool false]) ∧ Below w.heap.size w w' := by
  have HV := hide hv
  have HG := hide hg
  obtain ⟨a, cap, rfl⟩ := hv.form
  clear hv hg
  go_enter Try.func25, Try.ntmps25
  go_wp2_with fail
  refine (impl_good_no p _ n l _ HV.out hm HG.out).mono ?_
  rintro e w1 ⟨rfl, hb1⟩
  go_wp2
  go_ret2
  exact ⟨rfl, hb1⟩
set_option maxHeartbeats 4000000 in
theorem impl_vecs (k : Nat) (v : Value) (n : Nat) (l : Nat → Ac) (w : World) (hv : ActsOf w v n l) (hg : GoodL (k : Int) n l) :
    Calls Try.prog 25 #[.int .i64 (k : Int), v] w fun e w' => (∃ r, e = .returned (.tuple #[r, .bool true]) ∧ AnsV w' w.heap.size r n k (Vf l)) ∧ Below w.heap.size w w' := by
  have HV := hide hv
  have hn : n ≤ 60 := hg.2.1
  have hk6 : k ≤ 6 := by have := hg.1.2; omega
  have HG := hide hg
  obtain ⟨a, cap, rfl⟩ := hv.form
  have hmk := make_intss n (by omega)
  clear hv hg
  go_enter Try.func25, Try.ntmps25
  go_wp2_with fail
  refine (impl_good_yes _ _ n l _ HV.out HG.out).mono ?_
  rintro e w1 ⟨rfl, hb1⟩
  have hs1 := hb1.size
  have HE := hide (show ∀ w4, w1.alloc (.cells (cf n fun _ => .slice none 0 0) 29) = w4 → Blk w4 w1.heap.size n (fun _ => .slice none 0 0) 29 ∧ Below w1.heap.size w1 w4 ∧ w1.heap.size < w4.heap.size from by
    rintro w4 rfl
    exact ⟨Blk.new w1 n _ _, (Below.refl _ _).alloc (Nat.le_refl _) _, by simp⟩)
  go_wp2_with fail
  generalize hW : w1.alloc _ = w4
  obtain ⟨hbe, hb4, hs4⟩ := HE.out w4 hW
  have hbw4 := hb1.trans (hb4.mono hs1)
  clear hW HE
  refine (act_vectors _ _ n l _ (HV.out.below hbw4) HG.out).mono ?_
  rintro e w5 ⟨⟨rfl, hV⟩, hb5⟩
  have hb15 := hb4.trans (hb5.mono hb4.size)
  have HE5 := hide (hbe.down hb5)
  have HV5 := hide hV
  have hs5 := hb5.size
  clear hb5 hbe hV HV hb4 hbw4
  go_wp2
  go_loopw [19] (fun y wr => ∃ (i : Nat) (gs : Nat → Nat), i ≤ n ∧ y = .int .i64 i ∧ Hid (Blk wr w1.heap.size n (fun j => if j < i then sl gs k j else .slice none 0 0) 29) ∧ Hid (Blk wr w4.heap.size (n * 6) (vv (Vf l)) 72) ∧ Hid ((∀ j, j < i → w5.heap.size ≤ gs j ∧ gs j < wr.heap.size ∧ Blk wr (gs j) k (iv (Vf l j)) 3) ∧ ∀ j j', j < i → j' < i → j ≠ j' → gs j ≠ gs j') ∧ w5.heap.size ≤ wr.heap.size ∧ Below w1.heap.size w1 wr) (fun y _ => n - (intOf y).toNat)
  case atStart => exact ⟨0, fun _ => 0, Nat.zero_le _, rfl, HE5, HV5, hide ⟨fun j hj => absurd hj (by omega), fun j _ hj => absurd hj (by omega)⟩, Nat.le_refl _, hb15⟩
  case round =>
    rename World => wo
    obtain ⟨i, gs, hin, rfl, HO, HVo, HGS, hs5o, hbw⟩ := hrel
    by_cases hlt : i < n
    · obtain ⟨⟨s0, s1, s2, s3, s4, s5⟩, -⟩ := HVo.out.row6 (k := i) (by omega)
      have hlO := HO.out.lt
      have hlV := HVo.out.lt
      go_wp2_with fail
      generalize hW : wo.alloc _ = w6
      have hb6 : Below wo.heap.size wo w6 := by rw [← hW]; exact (Below.refl _ _).alloc (Nat.le_refl _) _
      have hs6 : wo.heap.size < w6.heap.size := by rw [← hW]; simp
      clear hW s0 s1 s2 s3 s4 s5
      refine (list_vec (Vf l i) k _ hk6).mono ?_
      rintro e w7 ⟨⟨rfl, hB7⟩, hb7⟩
      have hb67 := hb6.trans (hb7.mono hb6.size)
      have hs7 := hB7.lt
      have hO7 := HO.out.down hb67
      have d3 := hO7.cell hlt
      have d4 := hO7.thaw i
      have hbw7 := hbw.trans (hb67.mono hbw.size)
      have HO2 := hide (show Blk (w7.setCell ⟨w1.heap.size, i, none⟩ (.slice (some ⟨w6.heap.size + 1, 0, none⟩) k k)) w1.heap.size n (fun j => if j < i + 1 then sl (upd gs i (w6.heap.size + 1)) k j else .slice none 0 0) 29 from (hO7.set i _).ext fun j hj => by
        unfold upd sl
        by_cases he : j = i
        · subst he; simp
        · simp only [if_neg he]
          by_cases h2 : j < i
          · rw [if_pos h2, if_pos (by omega)]
          · rw [if_neg h2, if_neg (by omega)])
      have HV2 := hide ((HVo.out.down hb67).set_other (g' := w1.heap.size) (by omega) i (.slice (some ⟨w6.heap.size + 1, 0, none⟩) k k))
      have HG2 := hide (show (∀ j, j < i + 1 → w5.heap.size ≤ upd gs i (w6.heap.size + 1) j ∧ upd gs i (w6.heap.size + 1) j < (w7.setCell ⟨w1.heap.size, i, none⟩ (.slice (some ⟨w6.heap.size + 1, 0, none⟩) k k)).heap.size ∧ Blk (w7.setCell ⟨w1.heap.size, i, none⟩ (.slice (some ⟨w6.heap.size + 1, 0, none⟩) k k)) (upd gs i (w6.heap.size + 1) j) k (iv (Vf l j)) 3) ∧ ∀ j j', j < i + 1 → j' < i + 1 → j ≠ j' → upd gs i (w6.heap.size + 1) j ≠ upd gs i (w6.heap.size + 1) j' from by
        obtain ⟨g1, g2⟩ := HGS.out
        have hs07 := hb67.size
        refine ⟨fun j hj => ?_, fun j j' hj hj' hne => ?_⟩
        · rw [World.size_setCell]
          by_cases he : j = i
          · subst he; rw [upd_same]
            exact ⟨by omega, by omega, hB7.set_other (by omega) _ _⟩
          · rw [upd_other _ _ _ _ he]
            obtain ⟨x1, x2, x3⟩ := g1 j (by omega)
            exact ⟨x1, by omega, (x3.down hb67).set_other (by omega) _ _⟩
        · by_cases he : j = i
          · subst he
            rw [upd_same, upd_other _ _ _ _ (Ne.symm hne)]
            have := (g1 j' (by omega)).2.1
            omega
          · by_cases he' : j' = i
            · subst he'
              rw [upd_same, upd_other _ _ _ _ he]
              have := (g1 j (by omega)).2.1
              omega
            · rw [upd_other _ _ _ _ he, upd_other _ _ _ _ he']
              exact g2 j j' (by omega) (by omega) hne)
      have hbw8 := hbw7.setCell (p := ⟨w1.heap.size, i, none⟩) (Nat.le_refl _) (.slice (some ⟨w6.heap.size + 1, 0, none⟩) k k)
      have hs58 : w5.heap.size ≤ (w7.setCell ⟨w1.heap.size, i, none⟩ (.slice (some ⟨w6.heap.size + 1, 0, none⟩) k k)).heap.size := by rw [World.size_setCell]; have := hb67.size; omega
      clear hO7 HO HVo HGS hB7 hb7
      go_wp2
      exact ⟨⟨i + 1, _, by omega, by go_num, HO2, HV2, HG2, hs58, hbw8⟩, by simp [intOf]; omega⟩
    · obtain rfl : i = n := by omega
      have hbf := hb1.trans (hbw.mono hs1)
      have HA := hide (show AnsV wo w.heap.size (.slice (some ⟨w1.heap.size, 0, none⟩) i i) i k (Vf l) from .inr ⟨_, _, gs, rfl, hs1, HO.out.ext (fun j hj => by rw [if_pos hj]), fun j hj => ⟨by have := (HGS.out.1 j hj).1; omega, (HGS.out.1 j hj).2.2⟩, HGS.out.2⟩)
      clear HO HVo HGS
      go_wp2
      go_ret2
      exact ⟨⟨_, rfl, HA.out⟩, hbf⟩
end Go.Proofs.Ytlbcmlleoncddaa

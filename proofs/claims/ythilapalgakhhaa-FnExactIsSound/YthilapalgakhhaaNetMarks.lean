/-
  The program's MarksFrom.
-/
import Derived.Test.YthilapalgakhhaaNetMet
import Derived.Test.YthilapalgakhhaaNetOrder2
import Derived.Test.YthilapalgakhhaaNetFromS
namespace Go.Proofs.Ythilapalgakhhaa
open Go.RowKit M
open Clk (upd upd_same upd_other)
namespace M
def rowsV (gs : Nat → Nat) (n : Nat) : Nat → Value := fun i => .slice (some ⟨gs i, 0, none⟩) n n
/-- A slice of slices of numbers, all in memory of its own, at block B or behind it, no two rows in one block. -/
def AnsV (w : World) (B : Nat) (r : Value) (m k : Nat) (f : Nat → Nat → Int) : Prop :=
  (r = .slice none 0 0 ∧ m = 0) ∨ ∃ (b cap : Nat) (gs : Nat → Nat), r = .slice (some ⟨b, 0, none⟩) m cap ∧ B ≤ b ∧ Blk w b m (rowsV gs k) 33 ∧ (∀ i, i < m → B ≤ gs i ∧ Blk w (gs i) k (iv (f i)) 3) ∧ ∀ i j, i < m → j < m → i ≠ j → gs i ≠ gs j
theorem AnsV.reads {w : World} {B m k : Nat} {r : Value} {f : Nat → Nat → Int} (h : AnsV w B r m k f) : IntssOf w r m k f := by
  rcases h with ⟨rfl, rfl⟩ | ⟨b, cap, gs, rfl, _, hb, hg, _⟩
  · exact ⟨_, _, rfl, fun h => absurd h (Nat.lt_irrefl _)⟩
  · exact ⟨_, _, rfl, fun _ => ⟨b, 0, rfl, hb.lt, fun i hi => ⟨_, by rw [Nat.zero_add]; exact hb.cell hi, (hg i hi).2.ints⟩⟩⟩
theorem AnsV.form {w : World} {B m k : Nat} {r : Value} {f : Nat → Nat → Int} (h : AnsV w B r m k f) : ∃ a cap, r = .slice a m cap := h.reads.form
theorem AnsV.below {w w' : World} {B m k : Nat} {r : Value} {f : Nat → Nat → Int} (h : AnsV w B r m k f) (hb : Below w.heap.size w w') : AnsV w' B r m k f := by
  rcases h with h | ⟨b, cap, gs, hr, hB, hk, hg, hd⟩
  · exact .inl h
  · exact .inr ⟨b, cap, gs, hr, hB, hk.down hb, fun i hi => ⟨(hg i hi).1, (hg i hi).2.down hb⟩, hd⟩
theorem AnsV.only {w w' : World} {B m k g : Nat} {r : Value} {f : Nat → Nat → Int} (h : AnsV w B r m k f) (ho : Only g w w') (hlt : g < B) : AnsV w' B r m k f := by
  rcases h with h | ⟨b, cap, gs, hr, hB, hk, hg, hd⟩
  · exact .inl h
  · exact .inr ⟨b, cap, gs, hr, hB, ho.blk hk (by omega), fun i hi => ⟨(hg i hi).1, ho.blk (hg i hi).2 (by have := (hg i hi).1; omega)⟩, hd⟩
end M
theorem info_ints : (Try.prog.info? 33).map (fun i => (i.zero, i.size, i.bytes)) = some (some (.slice none 0 0), 1, 24) := by kernel_rfl
theorem make_intss (n : Nat) (h : n ≤ 1048576) (w : World) : (Instr.makeSlice 46 (.int .i64 (n : Int)) (.int .i64 (n : Int))).run Try.prog w = .ok (.slice (some ⟨w.heap.size, 0, none⟩) n n) (w.alloc (.cells (M.cf n (fun _ => .slice none 0 0)) 33)) := by
  obtain ⟨i, hi, hz0, hz1, hz2⟩ := info_parts info_ints
  have hr := run_make (P := Try.prog) w 46 33 i _ Try.underlying46 hi hz0 .i64 .i64 (n : Int) (n : Int) (by omega) (Int.le_refl _) (by rw [hz2]; omega) (by omega)
  rw [hr, hz1]
  simp only [Int.toNat_natCast, Nat.mul_one]
  rw [← show madeCells #[(.slice none 0 0 : Value)] n = M.cf n (fun _ => .slice none 0 0) from M.cf_made _ n]
  rfl
theorem arrB_arr (s : Bs) (j : Nat) : arrB s j = arrV (j : Int) ((fun j => if j = 0 then z8 else s.M (s.fr j)) j) ((fun j => if j = 0 then 0 else (s.st j : Int)) j) := by
  unfold arrB
  by_cases h : j = 0
  · subst h; simp
  · simp only [if_neg h]
set_option maxRecDepth 20000 in
set_option maxHeartbeats 4000000 in
theorem impl_marks (n : Nat) (v : Value) (k : Nat) (st : Nat → Sp) (u : Value) (f : Nat → Int) (s : Bs) (w : World) (hv : StepsOf w v k st) (hu : IntsOf w u n f) (hs : Short k st) (h : NOk (n : Int) k st n f) (hf : foundB st k (pad n f) = some s) :
    Calls Try.prog 30 #[netV (n : Int) v, u] w fun e w' => (∃ r, e = .returned (.tuple #[r, .bool true]) ∧ AnsV w' w.heap.size r s.c n s.M) ∧ Below w.heap.size w w' := by
  have HV := hide hv
  have HU := hide hu
  have HS := hide hs
  have HN := hide h
  have hn8 : n ≤ 8 := by have := h.1.1.2; omega
  have hc4 : s.c ≤ 400 := (allB_ok h.1.2.2 h.mk hf).most
  obtain ⟨a, cap, rfl⟩ := hv.form
  obtain ⟨a2, cap2, rfl⟩ := hu.form
  have hmk := make_intss s.c (by omega)
  have hbA := (Below.refl w.heap.size w).alloc (Nat.le_refl _) (.cells #[.int .i64 (n : Int), .slice a k cap] 29)
  have hNA := Blk.fresh w _ 2 (p2 (.int .i64 (n : Int)) (.slice a k cap)) 29 rfl
  clear hv hu hs h
  go_enter Try.func30, Try.ntmps30
  go_wp2_with fail
  refine (met_from n _ k st _ f _ (HV.out.below hbA) (HU.out.below hbA) HS.out HN.out).mono ?_
  rintro e w1 ⟨hF, hb⟩
  rw [hf] at hF
  obtain ⟨b, rfl, hbb, hMp⟩ := hF
  have hb1 := hbA.trans (hb.mono hbA.size)
  have hN1 := hNA.down hb
  have hM1 : MapB w1 b s.c s.M (fun j => arrV (j : Int) ((fun j => if j = 0 then z8 else s.M (s.fr j)) j) ((fun j => if j = 0 then 0 else (s.st j : Int)) j)) := hMp.congr fun j _ => ⟨rfl, arrB_arr s j⟩
  have hs1 := hb1.size
  have hlw := hN1.lt
  have hbB := (Below.refl w1.heap.size w1).alloc (Nat.le_refl _) (.cells (cf s.c fun _ => .slice none 0 0) 33)
  have HM4 := hide (hM1.down hbB)
  have hN4 := hN1.down hbB
  have hbe := Blk.new w1 s.c (fun _ => .slice none 0 0) 33
  have hl1 := hM1.lt
  clear hbA hNA hb hMp HV HU HS HN
  go_wp2_with (at_len; refine wpList_len_map rfl _ 78 rfl 94 Try.underlying78 b s.c s.M _ rfl hM1 ?_)
  refine (in_order b s.c s.M _ _ _ HM4.out hc4).mono ?_
  rintro e w5 ⟨⟨rfl, hV⟩, hb5⟩
  have hb15 := hbB.trans (hb5.mono hbB.size)
  have HE5 := hide (hbe.down hb5)
  have HN5 := hide (hN4.down hb5)
  have hs4 : (w1.alloc (.cells (cf s.c fun _ => .slice none 0 0) 33)).heap.size = w1.heap.size + 1 := by simp
  have HV5 := hide (show Blk w5 (w1.heap.size + 1) (s.c * 8) (vv8 s.M) 68 by rw [← hs4]; exact hV)
  have hs5 := hb5.size
  rw [hs4] at hs5
  clear hb5 hbe hV hN1 hN4 hbB hM1 HM4 hs4
  go_wp2_with fail
  go_loopw [25] (fun y wr => ∃ (i : Nat) (gs : Nat → Nat), i ≤ s.c ∧ y = .int .i64 i ∧ Hid (Blk wr w1.heap.size s.c (fun j => if j < i then rowsV gs n j else .slice none 0 0) 33) ∧ Hid (Blk wr (w1.heap.size + 1) (s.c * 8) (vv8 s.M) 68) ∧ Hid (Blk wr w.heap.size 2 (p2 (.int .i64 (n : Int)) (.slice a k cap)) 29) ∧ Hid ((∀ j, j < i → w5.heap.size ≤ gs j ∧ gs j < wr.heap.size ∧ Blk wr (gs j) n (iv (s.M j)) 3) ∧ ∀ j j', j < i → j' < i → j ≠ j' → gs j ≠ gs j') ∧ w5.heap.size ≤ wr.heap.size ∧ Below w1.heap.size w1 wr) (fun y _ => s.c - (intOf y).toNat)
  case atStart => exact ⟨0, fun _ => 0, Nat.zero_le _, rfl, HE5, HV5, HN5, hide ⟨fun j hj => absurd hj (by omega), fun j _ hj => absurd hj (by omega)⟩, Nat.le_refl _, hb15⟩
  case round =>
    rename World => wo
    obtain ⟨i, gs, hin, rfl, HO, HVo, HNo, HGS, hs5o, hbw⟩ := hrel
    by_cases hlt : i < s.c
    · obtain ⟨⟨s0, s1, s2, s3, s4, s5, s6, s7⟩, -⟩ := HVo.out.row8 (k := i) (by omega)
      obtain ⟨d0, d1, -, -⟩ := HNo.out.pair
      have ad0 := fun o : Obj => alloc_cell o d0
      have hlO := HO.out.lt
      have hlV := HVo.out.lt
      have hlN := HNo.out.lt
      have hi0 : (0 : Int) ≤ (i : Int) := by omega
      have hi1 : (i : Int) < (s.c : Int) := by omega
      go_wp2_with fail
      generalize hW : wo.alloc _ = w6
      have hb6 : Below wo.heap.size wo w6 := by rw [← hW]; exact (Below.refl _ _).alloc (Nat.le_refl _) _
      have hs6 : wo.heap.size < w6.heap.size := by rw [← hW]; simp
      clear hW s0 s1 s2 s3 s4 s5 s6 s7 d0 d1 ad0
      refine (list_mark (s.M i) n _ hn8).mono ?_
      rintro e w7 ⟨⟨rfl, hB7⟩, hb7⟩
      have hb67 := hb6.trans (hb7.mono hb6.size)
      have hs7 := hB7.lt
      have hO7 := HO.out.down hb67
      have d3 := hO7.cell hlt
      have d4 := hO7.thaw i
      have hbw7 := hbw.trans (hb67.mono hbw.size)
      have HO2 := hide (show Blk (w7.setCell ⟨w1.heap.size, i, none⟩ (.slice (some ⟨w6.heap.size + 1, 0, none⟩) n n)) w1.heap.size s.c (fun j => if j < i + 1 then rowsV (upd gs i (w6.heap.size + 1)) n j else .slice none 0 0) 33 from (hO7.set i _).ext fun j hj => by
        unfold upd rowsV
        by_cases he : j = i
        · subst he; simp
        · simp only [if_neg he]
          by_cases h2 : j < i
          · rw [if_pos h2, if_pos (by omega)]
          · rw [if_neg h2, if_neg (by omega)])
      have HV2 := hide ((HVo.out.down hb67).set_other (g' := w1.heap.size) (by omega) i (.slice (some ⟨w6.heap.size + 1, 0, none⟩) n n))
      have HN2 := hide ((HNo.out.down hb67).set_other (g' := w1.heap.size) (by omega) i (.slice (some ⟨w6.heap.size + 1, 0, none⟩) n n))
      have HG2 := hide (show (∀ j, j < i + 1 → w5.heap.size ≤ upd gs i (w6.heap.size + 1) j ∧ upd gs i (w6.heap.size + 1) j < (w7.setCell ⟨w1.heap.size, i, none⟩ (.slice (some ⟨w6.heap.size + 1, 0, none⟩) n n)).heap.size ∧ Blk (w7.setCell ⟨w1.heap.size, i, none⟩ (.slice (some ⟨w6.heap.size + 1, 0, none⟩) n n)) (upd gs i (w6.heap.size + 1) j) n (iv (s.M j)) 3) ∧ ∀ j j', j < i + 1 → j' < i + 1 → j ≠ j' → upd gs i (w6.heap.size + 1) j ≠ upd gs i (w6.heap.size + 1) j' by
        obtain ⟨g1, g2⟩ := HGS.out
        have hs07 := hb67.size
        refine ⟨fun j hj => ?_, fun j j' hj hj' hne => ?_⟩
        · rw [World.size_setCell]
          by_cases he : j = i
          · subst he; rw [upd_same]
            exact ⟨by omega, by omega, hB7.set_other (by omega) _ _⟩
          · rw [upd_other _ _ _ _ he]
            obtain ⟨x1, x2, x3⟩ := g1 j (by omega)
            exact ⟨x1, by omega, (x3.down hb67).set_other (by omega) _ _⟩
        · by_cases he : j = i
          · subst he
            rw [upd_same, upd_other _ _ _ _ (Ne.symm hne)]
            have := (g1 j' (by omega)).2.1
            omega
          · by_cases he' : j' = i
            · subst he'
              rw [upd_same, upd_other _ _ _ _ he]
              have := (g1 j (by omega)).2.1
              omega
            · rw [upd_other _ _ _ _ he, upd_other _ _ _ _ he']
              exact g2 j j' (by omega) (by omega) hne)
      have hbw8 := hbw7.setCell (p := ⟨w1.heap.size, i, none⟩) (Nat.le_refl _) (.slice (some ⟨w6.heap.size + 1, 0, none⟩) n n)
      have hs58 : w5.heap.size ≤ (w7.setCell ⟨w1.heap.size, i, none⟩ (.slice (some ⟨w6.heap.size + 1, 0, none⟩) n n)).heap.size := by rw [World.size_setCell]; have := hb67.size; omega
      clear hO7 HO HVo HNo HGS hB7 hb7
      go_wp2
      exact ⟨⟨i + 1, _, by omega, by go_num, HO2, HV2, HN2, HG2, hs58, hbw8⟩, by simp [intOf]; omega⟩
    · obtain rfl : i = s.c := by omega
      have hbf := hb1.trans (hbw.mono hs1)
      have HA := hide (show AnsV wo w.heap.size (.slice (some ⟨w1.heap.size, 0, none⟩) s.c s.c) s.c n s.M from .inr ⟨_, _, gs, rfl, hs1, HO.out.ext (fun j hj => by rw [if_pos hj]), fun j hj => ⟨by have := (HGS.out.1 j hj).1; omega, (HGS.out.1 j hj).2.2⟩, HGS.out.2⟩)
      clear HO HVo HNo HGS
      go_wp2
      go_ret2
      exact ⟨⟨_, rfl, HA.out⟩, hbf⟩
set_option maxRecDepth 20000 in
set_option maxHeartbeats 1000000 in
theorem impl_marks_no (p : Int) (v : Value) (k : Nat) (st : Nat → Sp) (u : Value) (n : Nat) (f : Nat → Int) (w : World) (hv : StepsOf w v k st) (hu : IntsOf w u n f) (hs : Short k st) (hn : n ≤ 1048576) (h : ¬ NOk p k st n f ∨ (NOk p k st n f ∧ foundB st k (pad n f) = none)) :
    Calls Try.prog 30 #[netV p v, u] w fun e w' => e = .returned (.tuple #[.slice none 0 0, .bool false]) ∧ Below w.heap.size w w' := by
  have HM := hide (show ∀ wx : World, Below w.heap.size w wx → Calls Try.prog 60 #[netV p v, u] wx fun e w' => e = .returned (.tuple #[.map none, .bool false]) ∧ Below wx.heap.size wx w' from fun wx hbx => by
    rcases h with h | ⟨h, h2⟩
    · exact met_from_no p v k st u n f wx (hv.below hbx) (hu.below hbx) hs hn h
    · obtain rfl : (n : Int) = p := h.2.2
      refine (met_from n v k st u f wx (hv.below hbx) (hu.below hbx) hs h).mono ?_
      rintro e w' ⟨hF, hb⟩
      rw [h2] at hF
      exact ⟨hF, hb⟩)
  obtain ⟨a, cap, rfl⟩ := hv.form
  obtain ⟨a2, cap2, rfl⟩ := hu.form
  have hbA := (Below.refl w.heap.size w).alloc (Nat.le_refl _) (.cells #[.int .i64 p, .slice a k cap] 29)
  clear hv hu hs h
  go_enter Try.func30, Try.ntmps30
  go_wp2_with fail
  refine (HM.out _ hbA).mono ?_
  rintro e w1 ⟨rfl, hb⟩
  have hb1 := hbA.trans (hb.mono hbA.size)
  clear hbA hb HM
  go_wp2
  go_ret2
  exact ⟨rfl, hb1⟩
end Go.Proofs.Ythilapalgakhhaa

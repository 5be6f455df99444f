/-
  The program's text of a field, and of a cron.
-/
import Derived.Test.YtgpjggbcomeolaaDoorCrTS
namespace Go.Proofs.YtgpjggbcomeolaaDoor
open Go.RowKit M
open Clk (upd upd_same upd_other)
open Go.Sort (grow)
theorem itoa (n : Nat) (w : World) (h : n < 100) :
    Calls Tryd.prog 36 #[.int .i64 (n : Int)] w fun e w' => e = .returned (.string (numB n)) ∧ Below w.heap.size w w' := by
  refine (Tryd.strconv_Itoa_small n h w).mono ?_
  rintro e w' ⟨rfl, rfl⟩
  exact ⟨rfl, Below.refl _ _⟩
theorem info_str : (Tryd.prog.info? 9).map (fun i => (i.zero, i.size, i.bytes)) = some (some (.string ⟨#[]⟩), 1, 16) := by kernel_rfl
theorem make_strs (n : Nat) (h : n ≤ 1048576) (w : World) : (Instr.makeSlice 40 (.int .i64 (n : Int)) (.int .i64 (n : Int))).run Tryd.prog w = .ok (.slice (some ⟨w.heap.size, 0, none⟩) n n) (w.alloc (.cells (M.cf n (fun _ => .string ⟨#[]⟩)) 9)) := by
  obtain ⟨i, hi, hz0, hz1, hz2⟩ := info_parts info_str
  have hr := run_make (P := Tryd.prog) w 40 9 i _ Tryd.underlying40 hi hz0 .i64 .i64 (n : Int) (n : Int) (by omega) (Int.le_refl _) (by rw [hz2]; omega) (by omega)
  rw [hr, hz1]
  simp only [Int.toNat_natCast, Nat.mul_one]
  rw [← show madeCells #[(.string ⟨#[]⟩ : Value)] n = M.cf n (fun _ => .string ⟨#[]⟩) from M.cf_made _ n]
  rfl
namespace M
/-- The first k texts are laid. -/
def sv (f : Nat → Int) (k : Nat) : Nat → Value := fun i => if i < k then .string (numB (f i).toNat) else .string ⟨#[]⟩
theorem sv_zero (f : Nat → Int) : sv f 0 = fun _ => .string ⟨#[]⟩ := by funext i; simp [sv]
theorem sv_succ (f : Nat → Int) (k : Nat) : upd (sv f k) k (.string (numB (f k).toNat)) = sv f (k + 1) := by
  funext i
  unfold upd sv
  by_cases h : i = k
  · subst h; rw [if_pos rfl, if_pos (by omega)]
  · rw [if_neg h]
    by_cases h2 : i < k
    · rw [if_pos h2, if_pos (by omega)]
    · rw [if_neg h2, if_neg (by omega)]
end M
theorem join_texts (g n : Nat) (f : Nat → Int) (w : World) (hB : Blk w g n (sv f n) 9) (hn0 : 0 < n) (hn : n ≤ 60) (hf : ∀ i, i < n → 0 ≤ f i ∧ f i < 60) :
    Calls Tryd.prog 37 #[.slice (some ⟨g, 0, none⟩) n n, .string ⟨#[44]⟩] w fun e w' => e = .returned (.string (tx f n)) ∧ Below w.heap.size w w' := by
  have hlen : ((List.range n).map fun i => numB (f i).toNat).length = n := by simp
  have hj := tx_join f n hn0
  have hz := tx_size hf
  have h := Tryd.strings_Join g 0 n ((List.range n).map fun i => numB (f i).toNat) ⟨#[44]⟩ w (fun j x hx => by
      have hjn : j < n := by have := (List.getElem?_eq_some_iff.1 hx).1; rwa [hlen] at this
      rw [List.getElem?_map, List.getElem?_range hjn] at hx
      simp only [Option.map_some, Option.some.injEq] at hx
      rw [Nat.zero_add, hB.cell hjn, ← hx]
      unfold sv
      rw [if_pos hjn]) hB.lt (by rw [hlen]; omega) (by rw [hlen]; exact Nat.le_refl _) (by rw [← hj]; show (tx f n).size ≤ _; omega)
  rw [hlen] at h
  refine h.mono ?_
  rintro e w' ⟨rfl, hb⟩
  refine ⟨?_, hb⟩
  rw [← hj]
set_option maxRecDepth 20000 in
set_option maxHeartbeats 1000000 in
theorem field_text (v : Value) (n : Nat) (f : Nat → Int) (p : Nat) (w : World) (hv : IntsOf w v n f) (hn0 : 0 < n) (hn : n ≤ 60) (hp : 1 ≤ p) (hp2 : p ≤ 60) (hf : ∀ i, i < n → 0 ≤ f i ∧ f i < 60) :
    Calls Tryd.prog 26 #[v, .int .i64 (p : Int)] w fun e w' => e = .returned (.string (ft n f p)) ∧ Below w.heap.size w w' := by
  obtain ⟨a, cap, rfl, hr⟩ := hv
  have HR := hide hr
  have HF := hide hf
  clear hr hf
  by_cases h : n = p
  · subst h
    have h1 : ((n : Int) == (n : Int)) = true := by simp
    have HE := hide (show ft n f n = ⟨#[42]⟩ from if_pos rfl)
    clear HR HF
    go_enter Tryd.func26, Tryd.ntmps26
    go_wp2
    go_ret
    exact ⟨by rw [HE.out]; rfl, Below.refl _ _⟩
  · have h1 : ((n : Int) == (p : Int)) = false := by simp; omega
    have HE := hide (show ft n f p = tx f n from if_neg h)
    have hmk := make_strs n (by omega)
    go_enter Tryd.func26, Tryd.ntmps26
    go_wp2
    go_loopw [17] (fun y wr => ∃ k : Nat, k ≤ n ∧ y = .int .i64 (k : Int) ∧ Hid (Blk wr w.heap.size n (sv f k) 9) ∧ Hid (Below w.heap.size w wr)) (fun y _ => n - (intOf y).toNat)
    case atStart => exact ⟨0, Nat.zero_le _, rfl, hide (by rw [sv_zero]; exact Blk.new w n _ _), hide ((Below.refl _ _).alloc (Nat.le_refl _) _)⟩
    case round =>
      obtain ⟨k, hk, rfl, HA, HB⟩ := hrel
      by_cases hlt : k < n
      · obtain ⟨b, off, rfl, hb, hrow⟩ := HR.out (by omega)
        have c0 := (HB.out.cell (p := ⟨b, off + k, none⟩) hb).trans (hrow k hlt)
        obtain ⟨m, hm⟩ : ∃ m : Nat, f k = (m : Int) := ⟨(f k).toNat, by have := (HF.out k hlt).1; omega⟩
        have hm60 : m < 60 := by have := (HF.out k hlt).2; omega
        have hmm : (f k).toNat = m := by omega
        rw [hm] at c0
        have HS := hide (sv_succ f k)
        rw [hmm] at HS
        clear hm hrow hmm
        go_wp2_with fail
        refine (itoa m _ (by omega)).mono ?_
        rintro e w1 ⟨rfl, hb1⟩
        have hA1 := HA.out.down hb1
        have HB1 := hide (HB.out.trans (hb1.mono HB.out.size))
        have c1 := hA1.cell hlt
        have f1 := hA1.thaw k
        have HA2 := hide (hA1.set k (.string (numB m)))
        rw [HS.out] at HA2
        have HB2 := hide (HB1.out.setCell (p := ⟨w.heap.size, k, none⟩) (Nat.le_refl _) (.string (numB m)))
        have hi0 : (0 : Int) ≤ (k : Int) := by omega
        have hi1 : (k : Int) < (n : Int) := by omega
        clear hb1 HA HB HB1 hA1 HS c0
        unfold sv at c1
        rw [if_neg (Nat.lt_irrefl _)] at c1
        go_wp2
        exact ⟨⟨k + 1, by omega, by go_num, HA2, HB2⟩, by simp [intOf]; omega⟩
      · obtain rfl : k = n := by omega
        clear HR
        go_wp2_with fail
        refine (join_texts _ k f _ HA.out hn0 hn HF.out).mono ?_
        rintro e w1 ⟨rfl, hb1⟩
        have HB1 := hide (HB.out.trans (hb1.mono HB.out.size))
        clear hb1 HB HA HF
        go_wp2
        go_ret
        exact ⟨by rw [HE.out]; rfl, HB1.out⟩
set_option maxRecDepth 20000 in
set_option maxHeartbeats 2000000 in
theorem impl_text (v0 v1 v2 : Value) (c : Crn) (w : World) (hv : CronOf w v0 v1 v2 c) (hs : ShortC c) (hg : GoodC c) :
    Calls Tryd.prog 13 #[.agg #[v0, v1, v2]] w fun e w' => e = .returned (.tuple #[.string (ct c), .bool true]) ∧ Below w.heap.size w w' := by
  have hb0 := (Below.refl w.heap.size w).alloc (Nat.le_refl _) (.cells #[v0, v1, v2] 24)
  have HN0 := hide (new3 w v0 v1 v2 24)
  obtain ⟨a0, p0, rfl⟩ := hv.1.form
  obtain ⟨a1, p1, rfl⟩ := hv.2.1.form
  obtain ⟨a2, p2, rfl⟩ := hv.2.2.form
  have HV := hide hv
  have HS := hide hs
  have HGG := hide hg
  have HG := hide (show decide (GoodC c) = true from decide_eq_true hg)
  obtain ⟨f0, f1, f2⟩ := hg.few
  clear hv hs
  go_enter Tryd.func13, Tryd.ntmps13
  go_wp2_with fail
  refine (impl_good _ _ _ c true _ (HV.out.below hb0) HS.out HG.out).mono ?_
  rintro e w1 ⟨rfl, hb⟩
  have hb1 := hb0.trans (hb.mono hb0.size)
  have HN1 := hide (HN0.out.down hb)
  clear hb hb0 HN0
  obtain ⟨⟨d0, d1, d2⟩, -⟩ := HN1.out.tri
  have k0 := cell_regrown d0
  have k1 := cell_regrown d1
  have k2 := cell_regrown d2
  have HM := hide (show ∀ d os, Calls Tryd.prog 26 #[.slice a0 c.nm p0, .int .i64 60] (grow (redrawn w1 d) os) fun e w'' => e = .returned (.string (ft c.nm c.fm 60)) ∧ ∃ p : Regrown, w'' = grow (redrawn w1 p.d) p.os from fun d os => Calls.regrown_of (field_text _ c.nm c.fm 60 _ ((HV.out.1.below hb1).below (below_regrown w1 d os)) HGG.out.1.2 f0 (by decide) (by decide) HGG.out.m60))
  have HH := hide (show ∀ d os, Calls Tryd.prog 26 #[.slice a1 c.nh p1, .int .i64 24] (grow (redrawn w1 d) os) fun e w'' => e = .returned (.string (ft c.nh c.fh 24)) ∧ ∃ p : Regrown, w'' = grow (redrawn w1 p.d) p.os from fun d os => Calls.regrown_of (field_text _ c.nh c.fh 24 _ ((HV.out.2.1.below hb1).below (below_regrown w1 d os)) HGG.out.2.1.2 (by omega) (by decide) (by decide) HGG.out.h60))
  have HD := hide (show ∀ d os, Calls Tryd.prog 26 #[.slice a2 c.nd p2, .int .i64 7] (grow (redrawn w1 d) os) fun e w'' => e = .returned (.string (ft c.nd c.fd 7)) ∧ ∃ p : Regrown, w'' = grow (redrawn w1 p.d) p.os from fun d os => Calls.regrown_of (field_text _ c.nd c.fd 7 _ ((HV.out.2.2.below hb1).below (below_regrown w1 d os)) HGG.out.2.2.2 (by omega) (by decide) (by decide) HGG.out.d60))
  have z0 := ft_size (p := 60) hg.m60 f0
  have z1 := ft_size (p := 24) hg.h60 (by omega)
  have z2 := ft_size (p := 7) hg.d60 (by omega)
  have HT := hide (show ct c = ft c.nm c.fm 60 ++ ⟨#[32]⟩ ++ ft c.nh c.fh 24 ++ ⟨#[32]⟩ ++ ft c.nd c.fd 7 from rfl)
  generalize ft c.nm c.fm 60 = T0 at *
  generalize ft c.nh c.fh 24 = T1 at *
  generalize ft c.nd c.fd 7 = T2 at *
  have zd : (⟨#[32]⟩ : ByteArray).size = 1 := rfl
  have za := @ByteArray.size_append
  have n1 : ¬ 9223372036854775807 < T0.size + 1 := by omega
  have n2 : ¬ 9223372036854775807 < T0.size + 1 + T1.size := by omega
  have n3 : ¬ 9223372036854775807 < T0.size + 1 + T1.size + 1 := by omega
  have n4 : ¬ 9223372036854775807 < T0.size + 1 + T1.size + 1 + T2.size := by omega
  clear d0 d1 d2 HN1 HV HS HGG HG hg f0 f1 f2
  go_wp2
  refine wp_region_quiet_below (by kernel_rfl) (by kernel_rfl) ?_
  repeat (go_big_quiet_step (first | (with_reducible exact HM.out _ _) | (with_reducible exact HH.out _ _) | (with_reducible exact HD.out _ _)))
  refine wpQuiet_nil ?_
  intro _ hw'
  obtain ⟨⟨dq, osq⟩, hw''⟩ := hw'
  subst hw''
  go_wp2
  go_ret2
  exact ⟨by rw [HT.out]; rfl, hb1.trans ((below_regrown _ dq osq).mono hb1.size)⟩
set_option maxHeartbeats 1000000 in
theorem impl_text_no (v0 v1 v2 : Value) (c : Crn) (w : World) (hv : CronOf w v0 v1 v2 c) (hs : ShortC c) (hg : ¬ GoodC c) :
    Calls Tryd.prog 13 #[.agg #[v0, v1, v2]] w fun e w' => e = .returned (.tuple #[.string ⟨#[]⟩, .bool false]) ∧ Below w.heap.size w w' := by
  have hb0 := (Below.refl w.heap.size w).alloc (Nat.le_refl _) (.cells #[v0, v1, v2] 24)
  obtain ⟨a0, p0, rfl⟩ := hv.1.form
  obtain ⟨a1, p1, rfl⟩ := hv.2.1.form
  obtain ⟨a2, p2, rfl⟩ := hv.2.2.form
  have HV := hide hv
  have HS := hide hs
  have HG := hide (show decide (GoodC c) = false from decide_eq_false hg)
  clear hv hs hg
  go_enter Tryd.func13, Tryd.ntmps13
  go_wp2_with fail
  refine (impl_good _ _ _ c false _ (HV.out.below hb0) HS.out HG.out).mono ?_
  rintro e w1 ⟨rfl, hb⟩
  have hb1 := hb0.trans (hb.mono hb0.size)
  clear hb hb0 HV HS HG
  go_wp2
  go_ret2
  exact ⟨rfl, hb1⟩
end Go.Proofs.YtgpjggbcomeolaaDoor

/-
  The specification's table of a diagram, where its choices stand as they must: l7Of.
-/
import Derived.Test.YtfiooclkefmijaaDoorBddSM
namespace Go.Proofs.YtfiooclkefmijaaDoor
open Go.RowKit M
open Clk (upd upd_same upd_other)
open Go.Sort (grow)
namespace M
open Bdd
/-- What holds between two rounds: the tables of the first n choices. -/
def TbR (l : List Ch) (w1 wr : World) (x : Value) (n : Nat) : Prop := (∀ (j : Nat) d, j < n → l[j]? = some d → GlC l j d) ∧ wr.ownsRow w1.heap.size 49 1 x n (tbs l n) ∧ Below w1.heap.size w1 wr
/-- What was added in the first j ways of a choice. -/
def pt (l : List Ch) (c : Ch) (vn : Nat) : Nat → T
  | 0 => 0
  | 1 => addT l 0 (~~~vt vn) c.no
  | _ => addT l (addT l 0 (~~~vt vn) c.no) (vt vn) c.yes
def way (c : Ch) (j : Nat) : Int := if j = 0 then c.no else c.yes
/-- What holds between two ways: their tables were added, and what is below has a greater variable. -/
def WyR (l : List Ch) (c : Ch) (vn : Nat) (w3 wq : World) (t : T) (j : Nat) : Prop := t = pt l c vn j ∧ (∀ i, i < j → ∀ (k : Nat) d, l[k]? = some d → (k : Int) = way c i → c.v < d.v) ∧ Below w3.heap.size w3 wq
end M
theorem info_u64 : (Tryd.prog.info? 49).map (fun i => (i.zero, i.size, i.bytes)) = some (some (.int .u64 0), 1, 8) := by kernel_rfl
set_option maxRecDepth 20000 in
set_option maxHeartbeats 4000000 in
theorem l7_of (v : Value) (r : Int) (l : List Bdd.Ch) (w : World) (hv : ChsOf w v l) (hn : l.length ≤ 1048576) :
    Calls Tryd.prog 60 #[dgV v r] w fun e w' => OfA l r e ∧ Below w.heap.size w w' := by
  have HV := hide hv
  obtain ⟨a, cap, rfl, hrow⟩ := hv
  have HR := hide hrow
  have hd1 := (Below.refl w.heap.size w).alloc (Nat.le_refl _) (.cells #[.slice a l.length cap, .int .i64 r] 27)
  have hbx := Blk.fresh w #[.slice a l.length cap, .int .i64 r] 2 (q2 (.slice a l.length cap) (.int .i64 r)) 27 rfl
  obtain ⟨w1, hw1⟩ : ∃ w1, w.alloc (.cells #[.slice a l.length cap, .int .i64 r] 27) = w1 := ⟨_, rfl⟩
  rw [hw1] at hd1 hbx
  have Hw1 := hide hw1
  have HD := hide hd1
  have HX := hide hbx
  clear hrow hd1 hbx hw1
  by_cases h70 : l.length ≤ 70
  · have hg : ¬ (70 < (l.length : Int)) := by omega
    have h70i : (l.length : Int) ≤ 70 := by omega
    have HS := hide h70
    obtain ⟨i0, hi, hz0, hz1, hz2⟩ := info_parts info_u64
    go_enter Tryd.func60, Tryd.ntmps60
    go_wp2_with fail
    rw [Hw1.out]
    go_loopw [4, 19] (fun x i wr => ∃ n : Nat, n ≤ l.length ∧ i = .int .i64 n ∧ (∃ a4 c4, x = .slice a4 n c4) ∧ Hid (TbR l w1 wr x n)) (fun _ i _ => l.length - (intOf i).toNat)
    case atStart => exact ⟨0, Nat.zero_le _, rfl, ⟨none, 0, rfl⟩, hide ⟨fun j d hj => absurd hj (by omega), ⟨rfl, .inl ⟨rfl, rfl⟩⟩, Below.refl _ _⟩⟩
    case round =>
      rename World => wo
      obtain ⟨n, hnl, rfl, ⟨a4, c4, rfl⟩, HT⟩ := hrel
      by_cases hlt : n < l.length
      · obtain ⟨g, off, rfl, hgl, hrow⟩ := HR.out (by omega)
        obtain ⟨c, hc⟩ : ∃ c, l[n]? = some c := ⟨l[n], by rw [List.getElem?_eq_getElem hlt]⟩
        obtain ⟨p0, p1, p2⟩ := hrow n c hc
        have hbw := HD.out.trans (HT.out.2.2.mono HD.out.size)
        have c0 := (hbw.cell (p := ⟨g, off + n * 3, none⟩) hgl).trans p0
        have c1 := (hbw.cell (p := ⟨g, off + n * 3 + 1, none⟩) hgl).trans p1
        have c2 := (hbw.cell (p := ⟨g, off + n * 3 + 2, none⟩) hgl).trans p2
        have hbA := HT.out.2.2.alloc HT.out.2.2.size (.cells #[.int .i64 c.v, .int .i64 c.no, .int .i64 c.yes] 66)
        have hBad := hide (show ¬ GlC l n c → ¬ Bdd.Chk l r from fun h1 h2 => h1 ((gl_iff l).1 h2.2.1 n c hc))
        have HA := hide (HD.out.trans (hbA.mono HD.out.size))
        have HC := hide hc
        clear hbw hbA hrow p0 p1 p2 hc
        by_cases q1 : 0 ≤ c.v ∧ c.v ≤ 5
        · have W1 := hide (l1_in c.v 0 5 true (by simp [q1]))
          by_cases q2' : -2 ≤ c.no ∧ c.no ≤ (n : Int) - 1
          · have W2 := hide (l1_in c.no (-2) ((n : Int) - 1) true (by simp [q2']))
            by_cases q3 : -2 ≤ c.yes ∧ c.yes ≤ (n : Int) - 1
            · have W3 := hide (l1_in c.yes (-2) ((n : Int) - 1) true (by simp [q3]))
              by_cases q4 : c.no = c.yes
              · have hd4 : (c.no == c.yes) = true := by simp [q4]
                have HF := hide (hBad.out (fun h => h.2.1 q4))
                clear q1 q2' q3 q4 hBad HT HR HV HX HC
                go_wp2_with fail
                refine (W1.out _).mono ?_
                rintro e w2 ⟨rfl, rfl⟩
                go_wp2_with fail
                refine (W2.out _).mono ?_
                rintro e w2 ⟨rfl, rfl⟩
                go_wp2_with fail
                refine (W3.out _).mono ?_
                rintro e w2 ⟨rfl, rfl⟩
                go_wp2
                go_ret2
                exact ⟨ofA_no 0 HF.out, HA.out⟩
              · have hd4 : (c.no == c.yes) = false := by simp [q4]
                have HOk := hide (show OkC n c from ⟨q1.1, q1.2, q2'.1, q2'.2, q3.1, q3.2⟩)
                have HNe := hide q4
                obtain ⟨vn, hvn⟩ : ∃ vn : Nat, c.v = (vn : Int) := ⟨c.v.toNat, by omega⟩
                have hv6 : vn < 6 := by omega
                have HVN := hide hvn
                have HV6 := hide hv6
                clear q1 q2' q3 q4 hvn hv6
                go_wp2_with fail
                refine (W1.out _).mono ?_
                rintro e w2 ⟨rfl, rfl⟩
                go_wp2_with fail
                refine (W2.out _).mono ?_
                rintro e w2 ⟨rfl, rfl⟩
                go_wp2_with fail
                refine (W3.out _).mono ?_
                rintro e w2 ⟨rfl, rfl⟩
                clear W1 W2 W3
                obtain ⟨w3, hw3⟩ : ∃ w3, (wo.alloc (.cells #[.int .i64 c.v, .int .i64 c.no, .int .i64 c.yes] 66)).alloc (.cells #[.bool false, .bool true] 4) = w3 := ⟨_, rfl⟩
                have hdo : Below wo.heap.size wo w3 := by rw [← hw3]; exact ((Below.refl wo.heap.size wo).alloc (Nat.le_refl _) _).alloc (by simp) _
                have bc : Blk w3 wo.heap.size 3 (c3f c) 66 := by
                  rw [← hw3]; exact (Blk.fresh wo #[.int .i64 c.v, .int .i64 c.no, .int .i64 c.yes] 3 (c3f c) 66 rfl).alloc _
                have bb : Blk w3 (wo.heap.size + 1) 2 (q2 (.bool false) (.bool true)) 4 := by
                  rw [← hw3]
                  have := Blk.fresh (wo.alloc (.cells #[.int .i64 c.v, .int .i64 c.no, .int .i64 c.yes] 66)) #[.bool false, .bool true] 2 (q2 (.bool false) (.bool true)) 4 rfl
                  simpa using this
                have Hw3 := hide hw3
                have HBC := hide bc
                have HBB := hide bb
                have HDO := hide hdo
                have HTo := hide (show w3.ownsRow w1.heap.size 49 1 (.slice a4 n c4) n (tbs l n) from owns_below HT.out.2.1 hdo)
                have HB3 := hide (HT.out.2.2.trans (hdo.mono HT.out.2.2.size))
                have HR2 := hide (show ∀ (k : Nat) d, l[k]? = some d → w.cell? ⟨g, off + k * 3, none⟩ = some (.int .i64 d.v) from fun k d hd => by
                  obtain ⟨b', o', e', _, hrw⟩ := HR.out (by omega)
                  cases e'
                  exact (hrw k d hd).1)
                clear hw3 hdo bc bb c0 c1 c2
                go_wp2_with fail
                rw [Hw3.out]
                go_loopw [7, 53] (fun t i wq => ∃ (j : Nat) (tt : Bdd.T), j ≤ 2 ∧ i = .int .i64 j ∧ t = uv tt ∧ Hid (WyR l c vn w3 wq tt j)) (fun _ i _ => 2 - (intOf i).toNat)
                case atStart => exact ⟨0, 0, by omega, rfl, rfl, hide ⟨rfl, fun i hi => absurd hi (by omega), Below.refl _ _⟩⟩
                case round =>
                  rename World => wq
                  obtain ⟨j, tt, hj2, rfl, rfl, HY⟩ := hrel
                  obtain ⟨htt, hch, hbq⟩ := HY.out
                  have HL := hide (l7_var vn HV6.out)
                  have b1q := HBC.out.down hbq
                  have x0 := b1q.cell (show 0 < 3 by omega)
                  have x1 := b1q.cell (show 1 < 3 by omega)
                  have x2 := b1q.cell (show 2 < 3 by omega)
                  simp only [c3f, if_true] at x0 x1 x2
                  simp at x1 x2
                  rw [HVN.out] at x0
                  have y0 := (HBB.out.down hbq).cell (show 0 < 2 by omega)
                  have y1 := (HBB.out.down hbq).cell (show 1 < 2 by omega)
                  simp [q2] at y0 y1
                  have hbw1 := HB3.out.trans (hbq.mono HB3.out.size)
                  have hbw := HD.out.trans (hbw1.mono HD.out.size)
                  have z0 := (HX.out.down hbw1).cell (show 0 < 2 by omega)
                  simp [q2] at z0
                  have HWQ := hide hbw
                  have HQ := hide hbq
                  have HCH := hide hch
                  have HTT := hide htt
                  have hnot : bits .xor .u64 (if IntKind.u64.signed = true then -1 else IntKind.u64.max) (tn (Bdd.vt vn)) = tn (~~~Bdd.vt vn) := u_not (Bdd.vt vn)
                  have uo := u_or
                  have ua := u_and
                  clear HY hbq hch htt b1q hbw1 hbw
                  by_cases hj : j < 2
                  · rcases (show j = 0 ∨ j = 1 by omega) with rfl | rfl
                    · have hyb : (0 : Int) ≤ 0 := by omega
                      by_cases k1 : c.no = -1
                      · have e1 : (c.no == -1) = true := by simp [k1]
                        have HCk : ∀ (kq : Nat) (d : Bdd.Ch), l[kq]? = some d → (kq : Int) = way c 0 → c.v < d.v := fun kq d _ h => by simp [way] at h; omega
                        have HN := hide (show ∀ wz, Below w3.heap.size w3 wz → WyR l c vn w3 wz (tt ||| (~~~Bdd.vt vn)) 1 from fun wz hz => ⟨by rw [HTT.out]; show _ = addT l (pt l c vn 0) (~~~Bdd.vt vn) c.no; unfold addT; rw [if_pos k1], fun i hi kq d hd hke => by
                            rcases (show i < 0 ∨ i = 0 by omega) with h | h
                            · exact HCH.out i h kq d hd hke
                            · subst h; exact HCk kq d hd hke, hz⟩)
                        clear k1 HCk z0
                        go_wp2_with fail
                        refine (HL.out _).mono ?_
                        rintro e w4 ⟨rfl, rfl⟩
                        go_wp2
                        exact ⟨⟨1, _, by omega, by first | rfl | go_num, rfl, hide (HN.out _ HQ.out)⟩, by simp [intOf]⟩
                      · have e1 : (c.no == -1) = false := by simp [k1]
                        by_cases k2 : 0 ≤ c.no
                        · obtain ⟨kn, hkn⟩ : ∃ kn : Nat, c.no = (kn : Int) := ⟨(c.no).toNat, by omega⟩
                          have hkn2 : kn < n := by have := HOk.out.2.2.2.1; omega
                          obtain ⟨d, hd⟩ : ∃ d, l[kn]? = some d := ⟨l[kn]'(by omega), by rw [List.getElem?_eq_getElem (by omega)]⟩
                          have z1 := (HWQ.out.cell (p := ⟨g, off + kn * 3, none⟩) hgl).trans (HR2.out kn d hd)
                          obtain ⟨a5, c5, e5, hr5⟩ := own_cells (owns_below HTo.out HQ.out) (by rw [tbs_len]; omega)
                          cases e5
                          obtain ⟨g5, rfl, _, hg5, hc5⟩ := hr5 (by omega)
                          have z2 := hc5 kn _ (tbs_get hkn2)
                          rw [hkn] at x1
                          rw [hkn] at e1
                          have hi0 : (0 : Int) ≤ (kn : Int) := by omega
                          have hi1 : (kn : Int) < (l.length : Int) := by omega
                          have hi2 : (kn : Int) < (n : Int) := by omega
                          obtain ⟨dk, hdk⟩ : ∃ dk, Bdd.dec l (kn : Int) = dk := ⟨_, rfl⟩
                          rw [hdk] at z2
                          by_cases hvar : d.v ≤ (vn : Int)
                          · have hdv : decide (d.v ≤ (vn : Int)) = true := by simp [hvar]
                            have HF := hide (hBad.out (fun h => by have := h.2.2 kn d hd (Or.inl hkn.symm); rw [HVN.out] at this; omega))
                            clear k1 k2 hkn hkn2 hd hc5 hdk hvar hr5
                            go_wp2_with fail
                            refine (HL.out _).mono ?_
                            rintro e w4 ⟨rfl, rfl⟩
                            go_wp2
                            go_big_quiet (fail)
                            go_wp2
                            go_ret2
                            exact ⟨ofA_no 0 HF.out, below_drewN HWQ.out _⟩
                          · have hdv : decide (d.v ≤ (vn : Int)) = false := by simp [hvar]
                            have HCk : ∀ (kq : Nat) (d' : Bdd.Ch), l[kq]? = some d' → (kq : Int) = way c 0 → c.v < d'.v := fun kq d' hd' h => by
                              simp [way] at h
                              obtain rfl : kq = kn := by omega
                              rw [hd] at hd'; injection hd' with hd'; rw [← hd', HVN.out]; omega
                            have HN := hide (show ∀ wz, Below w3.heap.size w3 wz → WyR l c vn w3 wz (tt ||| ((~~~Bdd.vt vn) &&& dk)) 1 from fun wz hz => ⟨by rw [HTT.out]; show _ = addT l (pt l c vn 0) (~~~Bdd.vt vn) c.no; unfold addT; rw [if_neg k1, if_pos k2, hkn, hdk], fun i hi kq d hd hke => by
                                rcases (show i < 0 ∨ i = 0 by omega) with h | h
                                · exact HCH.out i h kq d hd hke
                                · subst h; exact HCk kq d hd hke, hz⟩)
                            clear k1 k2 hkn hkn2 hd hc5 hdk hvar hr5 HCk
                            go_wp2_with fail
                            refine (HL.out _).mono ?_
                            rintro e w4 ⟨rfl, rfl⟩
                            go_wp2
                            go_big_quiet (fail)
                            go_wp2
                            exact ⟨⟨1, _, by omega, by first | rfl | go_num, rfl, hide (HN.out _ (below_drewN HQ.out _))⟩, by simp [intOf]⟩
                        · have e2 : decide ((0 : Int) ≤ c.no) = false := by simp; omega
                          have HCk : ∀ (kq : Nat) (d : Bdd.Ch), l[kq]? = some d → (kq : Int) = way c 0 → c.v < d.v := fun kq d _ h => by simp [way] at h; omega
                          have HN := hide (show ∀ wz, Below w3.heap.size w3 wz → WyR l c vn w3 wz tt 1 from fun wz hz => ⟨by rw [HTT.out]; show _ = addT l (pt l c vn 0) (~~~Bdd.vt vn) c.no; unfold addT; rw [if_neg k1, if_neg k2], fun i hi kq d hd hke => by
                              rcases (show i < 0 ∨ i = 0 by omega) with h | h
                              · exact HCH.out i h kq d hd hke
                              · subst h; exact HCk kq d hd hke, hz⟩)
                          clear k1 k2 HCk z0
                          go_wp2_with fail
                          refine (HL.out _).mono ?_
                          rintro e w4 ⟨rfl, rfl⟩
                          go_wp2
                          exact ⟨⟨1, _, by omega, by first | rfl | go_num, rfl, hide (HN.out _ HQ.out)⟩, by simp [intOf]⟩
                    · have hyb : (0 : Int) ≤ 1 := by omega
                      by_cases k1 : c.yes = -1
                      · have e1 : (c.yes == -1) = true := by simp [k1]
                        have HCk : ∀ (kq : Nat) (d : Bdd.Ch), l[kq]? = some d → (kq : Int) = way c 1 → c.v < d.v := fun kq d _ h => by simp [way] at h; omega
                        have HN := hide (show ∀ wz, Below w3.heap.size w3 wz → WyR l c vn w3 wz (tt ||| (Bdd.vt vn)) 2 from fun wz hz => ⟨by rw [HTT.out]; show _ = addT l (pt l c vn 1) (Bdd.vt vn) c.yes; unfold addT; rw [if_pos k1], fun i hi kq d hd hke => by
                            rcases (show i < 1 ∨ i = 1 by omega) with h | h
                            · exact HCH.out i h kq d hd hke
                            · subst h; exact HCk kq d hd hke, hz⟩)
                        clear k1 HCk z0
                        go_wp2_with fail
                        refine (HL.out _).mono ?_
                        rintro e w4 ⟨rfl, rfl⟩
                        go_wp2_with fail
                        refine (HL.out _).mono ?_
                        rintro e w4 ⟨rfl, rfl⟩
                        go_wp2
                        exact ⟨⟨2, _, by omega, by first | rfl | go_num, rfl, hide (HN.out _ HQ.out)⟩, by simp [intOf]⟩
                      · have e1 : (c.yes == -1) = false := by simp [k1]
                        by_cases k2 : 0 ≤ c.yes
                        · obtain ⟨kn, hkn⟩ : ∃ kn : Nat, c.yes = (kn : Int) := ⟨(c.yes).toNat, by omega⟩
                          have hkn2 : kn < n := by have := HOk.out.2.2.2.2.2; omega
                          obtain ⟨d, hd⟩ : ∃ d, l[kn]? = some d := ⟨l[kn]'(by omega), by rw [List.getElem?_eq_getElem (by omega)]⟩
                          have z1 := (HWQ.out.cell (p := ⟨g, off + kn * 3, none⟩) hgl).trans (HR2.out kn d hd)
                          obtain ⟨a5, c5, e5, hr5⟩ := own_cells (owns_below HTo.out HQ.out) (by rw [tbs_len]; omega)
                          cases e5
                          obtain ⟨g5, rfl, _, hg5, hc5⟩ := hr5 (by omega)
                          have z2 := hc5 kn _ (tbs_get hkn2)
                          rw [hkn] at x2
                          rw [hkn] at e1
                          have hi0 : (0 : Int) ≤ (kn : Int) := by omega
                          have hi1 : (kn : Int) < (l.length : Int) := by omega
                          have hi2 : (kn : Int) < (n : Int) := by omega
                          obtain ⟨dk, hdk⟩ : ∃ dk, Bdd.dec l (kn : Int) = dk := ⟨_, rfl⟩
                          rw [hdk] at z2
                          by_cases hvar : d.v ≤ (vn : Int)
                          · have hdv : decide (d.v ≤ (vn : Int)) = true := by simp [hvar]
                            have HF := hide (hBad.out (fun h => by have := h.2.2 kn d hd (Or.inr hkn.symm); rw [HVN.out] at this; omega))
                            clear k1 k2 hkn hkn2 hd hc5 hdk hvar hr5
                            go_wp2_with fail
                            refine (HL.out _).mono ?_
                            rintro e w4 ⟨rfl, rfl⟩
                            go_wp2_with fail
                            refine (HL.out _).mono ?_
                            rintro e w4 ⟨rfl, rfl⟩
                            go_wp2
                            go_big_quiet (fail)
                            go_wp2
                            go_ret2
                            exact ⟨ofA_no 0 HF.out, below_drewN HWQ.out _⟩
                          · have hdv : decide (d.v ≤ (vn : Int)) = false := by simp [hvar]
                            have HCk : ∀ (kq : Nat) (d' : Bdd.Ch), l[kq]? = some d' → (kq : Int) = way c 1 → c.v < d'.v := fun kq d' hd' h => by
                              simp [way] at h
                              obtain rfl : kq = kn := by omega
                              rw [hd] at hd'; injection hd' with hd'; rw [← hd', HVN.out]; omega
                            have HN := hide (show ∀ wz, Below w3.heap.size w3 wz → WyR l c vn w3 wz (tt ||| ((Bdd.vt vn) &&& dk)) 2 from fun wz hz => ⟨by rw [HTT.out]; show _ = addT l (pt l c vn 1) (Bdd.vt vn) c.yes; unfold addT; rw [if_neg k1, if_pos k2, hkn, hdk], fun i hi kq d hd hke => by
                                rcases (show i < 1 ∨ i = 1 by omega) with h | h
                                · exact HCH.out i h kq d hd hke
                                · subst h; exact HCk kq d hd hke, hz⟩)
                            clear k1 k2 hkn hkn2 hd hc5 hdk hvar hr5 HCk
                            go_wp2_with fail
                            refine (HL.out _).mono ?_
                            rintro e w4 ⟨rfl, rfl⟩
                            go_wp2_with fail
                            refine (HL.out _).mono ?_
                            rintro e w4 ⟨rfl, rfl⟩
                            go_wp2
                            go_big_quiet (fail)
                            go_wp2
                            exact ⟨⟨2, _, by omega, by first | rfl | go_num, rfl, hide (HN.out _ (below_drewN HQ.out _))⟩, by simp [intOf]⟩
                        · have e2 : decide ((0 : Int) ≤ c.yes) = false := by simp; omega
                          have HCk : ∀ (kq : Nat) (d : Bdd.Ch), l[kq]? = some d → (kq : Int) = way c 1 → c.v < d.v := fun kq d _ h => by simp [way] at h; omega
                          have HN := hide (show ∀ wz, Below w3.heap.size w3 wz → WyR l c vn w3 wz tt 2 from fun wz hz => ⟨by rw [HTT.out]; show _ = addT l (pt l c vn 1) (Bdd.vt vn) c.yes; unfold addT; rw [if_neg k1, if_neg k2], fun i hi kq d hd hke => by
                              rcases (show i < 1 ∨ i = 1 by omega) with h | h
                              · exact HCH.out i h kq d hd hke
                              · subst h; exact HCk kq d hd hke, hz⟩)
                          clear k1 k2 HCk z0
                          go_wp2_with fail
                          refine (HL.out _).mono ?_
                          rintro e w4 ⟨rfl, rfl⟩
                          go_wp2_with fail
                          refine (HL.out _).mono ?_
                          rintro e w4 ⟨rfl, rfl⟩
                          go_wp2
                          exact ⟨⟨2, _, by omega, by first | rfl | go_num, rfl, hide (HN.out _ HQ.out)⟩, by simp [intOf]⟩
                  · obtain rfl : j = 2 := by omega
                    obtain ⟨hglp, _, _⟩ := HT.out
                    have htd : tt = Bdd.dec l (n : Int) := by
                      rw [HTT.out]
                      exact addT_all (fun i d hi hd => by
                        by_cases e : i = n
                        · subst e; rw [HC.out] at hd; injection hd with hd; rw [← hd]; exact HOk.out
                        · exact (hglp i d (by omega) hd).1) HC.out HVN.out
                    have HGn := hide (show ∀ (j : Nat) d, j < n + 1 → l[j]? = some d → GlC l j d from fun j d hj hd => by
                      by_cases e : j = n
                      · subst e
                        rw [HC.out] at hd; injection hd with hd; rw [← hd]
                        exact ⟨HOk.out, HNe.out, fun k d' hd' hk => hk.elim (fun h => HCH.out 0 (by omega) k d' hd' h) (fun h => HCH.out 1 (by omega) k d' hd' h)⟩
                      · exact hglp j d (by omega) hd)
                    have hown : wq.ownsRow w1.heap.size 49 1 (.slice a4 n c4) n (tbs l n) := owns_below HTo.out HQ.out
                    have HBq := hide (HB3.out.trans (HQ.out.mono HB3.out.size))
                    have hBq : w1.heap.size ≤ wq.heap.size := HBq.out.size
                    have HTD := hide htd
                    have hn70 : n ≤ 70 := by omega
                    clear hglp htd HTT HOk HNe HCH HBB HBC HTo HB3 HQ HWQ HR2 HL x0 x1 x2 y0 y1 z0 hnot uo ua HDO Hw3 hBad HA HC HVN HV6 hd4
                    go_wp2_with (at_builtin; refine wpList_append_own _ rfl _ _ 93 rfl w1.heap.size 49 i0 _ 1 8 Tryd.underlying93 hi hz0 hz1 hz2 rfl (by decide) _ n _ rfl (hown.alloc _) ⟨wq.heap.size, 0, none⟩ 1 1 [uv tt] rfl rfl ?c1 ?c2 ?c3 ?c4 ?c5 ?_)
                    try (case c1 => exact news1 wq _ _)
                    case c2 => first | rfl | (intro u hu; simp at hu; subst hu; rfl)
                    case c3 => unfold maxLen; omega
                    case c4 => omega
                    case c5 => first | omega | (simp; omega)
                    intro v' w6 hown6 hgrow _
                    have hb6 : Below w1.heap.size w1 w6 := (HBq.out.alloc hBq _).grown hgrow (by simp; omega) (own_ge hown)
                    obtain ⟨a6, c6, rfl⟩ := own_form hown6
                    have HT6 := hide (show TbR l w1 w6 (.slice a6 (n + 1) c6) (n + 1) from ⟨HGn.out, by rw [tbs_snoc, ← HTD.out]; exact hown6, hb6⟩)
                    clear hown6 hgrow hown hb6 HGn HTD HBq
                    go_wp2
                    exact ⟨⟨n + 1, by omega, by go_num, ⟨_, _, rfl⟩, HT6⟩, by simp [intOf]; omega⟩
            · have W3 := hide (l1_in c.yes (-2) ((n : Int) - 1) false (by simp only [q3, decide_false]))
              have HF := hide (hBad.out (fun h => q3 ⟨h.1.2.2.2.2.1, h.1.2.2.2.2.2⟩))
              clear q1 q2' q3 hBad HT HR HV HX HC
              go_wp2_with fail
              refine (W1.out _).mono ?_
              rintro e w2 ⟨rfl, rfl⟩
              go_wp2_with fail
              refine (W2.out _).mono ?_
              rintro e w2 ⟨rfl, rfl⟩
              go_wp2_with fail
              refine (W3.out _).mono ?_
              rintro e w2 ⟨rfl, rfl⟩
              go_wp2
              go_ret2
              exact ⟨ofA_no 0 HF.out, HA.out⟩
          · have W2 := hide (l1_in c.no (-2) ((n : Int) - 1) false (by simp only [q2', decide_false]))
            have HF := hide (hBad.out (fun h => q2' ⟨h.1.2.2.1, h.1.2.2.2.1⟩))
            clear q1 q2' hBad HT HR HV HX HC
            go_wp2_with fail
            refine (W1.out _).mono ?_
            rintro e w2 ⟨rfl, rfl⟩
            go_wp2_with fail
            refine (W2.out _).mono ?_
            rintro e w2 ⟨rfl, rfl⟩
            go_wp2
            go_ret2
            exact ⟨ofA_no 0 HF.out, HA.out⟩
        · have W1 := hide (l1_in c.v 0 5 false (by simp only [q1, decide_false]))
          have HF := hide (hBad.out (fun h => q1 ⟨h.1.1, h.1.2.1⟩))
          clear q1 hBad HT HR HV HX HC
          go_wp2_with fail
          refine (W1.out _).mono ?_
          rintro e w2 ⟨rfl, rfl⟩
          go_wp2
          go_ret2
          exact ⟨ofA_no 0 HF.out, HA.out⟩
      · obtain rfl : n = l.length := by omega
        obtain ⟨hgl', hown, hbo⟩ := HT.out
        have hGl : Bdd.Gl l := (gl_iff l).2 (fun i c hc => hgl' i c (by have := (List.getElem?_eq_some_iff.1 hc).1; omega) hc)
        obtain ⟨x0, x1, -, -⟩ := (HX.out.down hbo).two
        simp [q2] at x0 x1
        have HB := hide (HD.out.trans (hbo.mono HD.out.size))
        have HGl := hide hGl
        have HOw := hide hown
        clear HT hgl' hown hbo hGl HR HV HX HD Hw1 hlt hnl
        by_cases r1 : r = -2
        · subst r1
          have hz : (((l.length : Nat) : Int) == 0) = decide (l.length = 0) := by by_cases h : l.length = 0 <;> simp [h]
          have HF := hide (show (decide (l.length = 0) = true ↔ Bdd.Chk l (-2)) ∧ (0 : Bdd.T) = Bdd.dec l (-2) from ⟨by
            rw [decide_eq_true_eq]
            constructor
            · intro h; exact ⟨by omega, HGl.out, .inl ⟨by omega, by omega, List.eq_nil_of_length_eq_zero h⟩⟩
            · rintro ⟨_, _, h | h⟩
              · rw [h.2.2]; rfl
              · omega, (dec_no l).symm⟩)
          obtain ⟨bz, hbz⟩ : ∃ bz, decide (l.length = 0) = bz := ⟨_, rfl⟩
          rw [hbz] at hz HF
          clear hbz
          go_wp2
          go_ret2
          exact ⟨⟨0, bz, rfl, HF.out.1, fun _ => HF.out.2⟩, HB.out⟩
        by_cases r2 : r = -1
        · subst r2
          have hz : (((l.length : Nat) : Int) == 0) = decide (l.length = 0) := by by_cases h : l.length = 0 <;> simp [h]
          have HF := hide (show (decide (l.length = 0) = true ↔ Bdd.Chk l (-1)) ∧ Bdd.all1 = Bdd.dec l (-1) from ⟨by
            rw [decide_eq_true_eq]
            constructor
            · intro h; exact ⟨by omega, HGl.out, .inl ⟨by omega, by omega, List.eq_nil_of_length_eq_zero h⟩⟩
            · rintro ⟨_, _, h | h⟩
              · rw [h.2.2]; rfl
              · omega, (dec_yes l).symm⟩)
          obtain ⟨bz, hbz⟩ : ∃ bz, decide (l.length = 0) = bz := ⟨_, rfl⟩
          rw [hbz] at hz HF
          clear hbz
          go_wp2
          go_ret2
          exact ⟨⟨Bdd.all1, bz, rfl, HF.out.1, fun _ => HF.out.2⟩, HB.out⟩
        have d1 : (r == -2) = false := by simp [r1]
        have d2 : (r == -1) = false := by simp [r2]
        by_cases r3 : r = (l.length : Int) - 1
        · have d3 : (r != (l.length : Int) - 1) = false := by simp [r3]
          have hl0 : 0 < l.length := by
            rcases Nat.eq_zero_or_pos l.length with h | h
            · exfalso; rw [h] at r3; exact r2 (by omega)
            · exact h
          obtain ⟨a5, c5, e5, hr5⟩ := own_cells HOw.out (by rw [tbs_len]; omega)
          cases e5
          obtain ⟨g5, rfl, _, hg5, hc5⟩ := hr5 hl0
          obtain ⟨m, hm⟩ : ∃ m, l.length = m + 1 := ⟨l.length - 1, by omega⟩
          have hrm : r = (m : Int) := by omega
          have z2 := hc5 m _ (tbs_get (l := l) (n := l.length) (k := m) (by omega))
          have HF := hide (show Bdd.Chk l r from ⟨by omega, HGl.out, .inr ⟨r3, by omega⟩⟩)
          obtain ⟨dk, hdk⟩ : ∃ dk, Bdd.dec l (m : Int) = dk := ⟨_, rfl⟩
          rw [hdk] at z2
          have HDK := hide (show dk = Bdd.dec l r from by rw [hrm, hdk])
          rw [hrm] at x1 d1 d2 d3
          have hi0 : (0 : Int) ≤ (m : Int) := by omega
          have hi1 : (m : Int) < (l.length : Int) := by omega
          clear r1 r2 r3 hc5 hr5 hdk hrm HOw HGl hm
          go_wp2
          go_ret2
          exact ⟨ofA_yes HF.out HDK.out, HB.out⟩
        · have d3 : (r != (l.length : Int) - 1) = true := by simp [r3]
          have HF := hide (show ¬ Bdd.Chk l r from fun h => by
            rcases h.2.2 with h | h
            · omega
            · exact r3 h.1)
          clear r1 r2 r3 HOw HGl
          go_wp2
          go_ret2
          exact ⟨ofA_no 0 HF.out, HB.out⟩
  · have hg : (70 < (l.length : Int)) := by omega
    have HF := hide (show ¬ Bdd.Chk l r from fun h => h70 h.1)
    clear h70 HR HV
    go_enter Tryd.func60, Tryd.ntmps60
    go_wp2
    rw [Hw1.out]
    go_ret2
    exact ⟨ofA_no 0 HF.out, HD.out⟩
end Go.Proofs.YtfiooclkefmijaaDoor

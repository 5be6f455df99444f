/-
  The program's allComeTo: going back from the end once.
-/
import Derived.Test.YthilapalgakhhaaNetSndJ
import Derived.Test.YthilapalgakhhaaNetSndT
namespace Go.Proofs.Ythilapalgakhhaa
open Go.RowKit M
open Clk (upd upd_same upd_other)
namespace M
def intv : Nat → Value := fun j => .int .i64 (j : Int)
/-- What holds on the way back. -/
def BkR (w4 wr : World) (x : Value) (st : Nat → Sp) (k p : Nat) (s : Bs) (e : Nat → Int) (i j nb : Nat) (B : Nat → Nat → Int) (l : List (Nat → Int)) (r : Nat) : Prop :=
  Que wr (w4.heap.size + 1) x j nb B ∧ MapB wr w4.heap.size nb B intv ∧ Below w4.heap.size w4 wr ∧ BI st k p s e i nb B l r
theorem BkR.down {w4 wr w' : World} {x : Value} {st : Nat → Sp} {k p : Nat} {s : Bs} {e : Nat → Int} {i j nb : Nat} {B : Nat → Nat → Int} {l : List (Nat → Int)} {r : Nat} (h : BkR w4 wr x st k p s e i j nb B l r) (hb : Below wr.heap.size wr w') : BkR w4 w' x st k p s e i j nb B l r :=
  ⟨h.1.down hb, h.2.1.down hb, h.2.2.1.trans (hb.mono h.2.2.1.size), h.2.2.2⟩
theorem BkR.add {w4 w6 w7 w9 : World} {u v9 : Value} {st : Nat → Sp} {k p : Nat} {s : Bs} {e : Nat → Int} {i j nb : Nat} {B : Nat → Nat → Int} {l : List (Nat → Int)} {r : Nat} {x : Nat → Int} {o : Obj} (hS : BkR w4 w6 u st k p s e i j nb B l r)
    (hM7 : MapB w7 w4.heap.size (nb + 1) (upd B nb x) (upd intv nb (.int .i64 (nb : Int)))) (hO7 : Only w4.heap.size w6 w7) (hQ9 : Que w9 (w4.heap.size + 1) v9 j (nb + 1) (upd B nb x)) (hg : (w7.alloc o).grownBy w9 u.ownBlock) (hB : BI st k p s e i (nb + 1) (upd B nb x) l (r + 1)) :
    BkR w4 w9 v9 st k p s e i j (nb + 1) (upd B nb x) l (r + 1) := by
  obtain ⟨g0, hg0, hgb, hgl⟩ := hS.1.lt
  have hbA := (Below.refl w7.heap.size w7).alloc (Nat.le_refl _) o
  have hM8 := hM7.down hbA
  have hM9 : MapB w9 w4.heap.size (nb + 1) (upd B nb x) (upd intv nb (.int .i64 (nb : Int))) := hM8.only (hg.block _ hM8.lt (by rw [hg0]; intro h; cases h; omega))
  have hb7 := hS.2.2.1.trans (hO7.below (Nat.le_refl _))
  have hb8 := hb7.trans (hbA.mono hb7.size)
  have hb9 : Below w4.heap.size w4 w9 := ⟨hg.os.trans hb8.os, hg.tape.trans hb8.tape, hg.output.trans hb8.output, Nat.le_trans hb8.size hg.size, fun q hq => (hg.block q (Nat.lt_of_lt_of_le hq hb8.size) (by rw [hg0]; intro h; cases h; omega)).trans (hb8.block q hq)⟩
  refine ⟨hQ9, hM9.congr fun q hq => ⟨rfl, ?_⟩, hb9, hB⟩
  by_cases e1 : q = nb
  · rw [e1, upd_same]; rfl
  · rw [upd_other _ _ _ _ e1]
end M
theorem zero_int (W : World) : (zeroValue 3).run Try.prog W = .ok (.int .i64 0) W := by
  have h : (Try.prog.info? 3).map (fun i => i.zero) = some (some (.int .i64 0)) := by kernel_rfl
  cases hi : Try.prog.info? 3 with
  | none => rw [hi] at h; cases h
  | some ti =>
    rw [hi] at h
    simp only [Option.map_some, Option.some.injEq] at h
    simp [zeroValue, typeInfo, hi, h]
/-- The row that lies under a marking: just those out of which one step leads to it. -/
theorem look_row {w4 W : World} {B0 am : Nat} {V : Nat → Value} {a : Ah} {st : Nat → Sp} {k p : Nat} {s : Bs} (h4 : AH w4 B0 am V a) (hb : Below w4.heap.size w4 W) (hI : AI st k p s s.c 0 a) (hp : p ≤ 8) (hk : k ≤ 12) (hc : s.c ≤ 400) {y : Nat → Int} (hy : Mk p y) :
    ∃ (rv : Value) (l : List (Nat → Int)), (Instr.lookup 101 (.map (some am)) (mkV y) false).run Try.prog W = .ok rv W ∧ w4.ownsRow B0 68 8 rv l.length (cl8 l) ∧ l.length ≤ 4800 ∧ (∀ x, x ∈ l → Is s.M s.c x ∧ Rch st k x y) ∧ (∀ q, q < s.c → ∀ t, t < k → fire (st t) (s.M q) = some y → s.M q ∈ l) := by
  have hm := h4.map.down hb
  cases hkn : kn a.K y a.n with
  | true =>
    obtain ⟨d, hd, hno, hveq⟩ := kn_true hkn
    have hKd : a.K d = y := ((mk_eq hp hy (hI.mark d hd)).1 hveq).symm
    refine ⟨V d, a.L d, look_yes Try.underlying101 hm y hd hno hveq false, h4.row d hd, ?_, fun x hx => ?_, fun q hq t ht hf => hI.has hp hd hKd hq ht hf⟩
    · have := hI.len d hd
      have h2 : s.c * k ≤ 400 * 12 := Nat.mul_le_mul hc hk
      omega
    · obtain ⟨h1, t', h2, h3⟩ := hI.sound d hd x hx
      exact ⟨h1, Rch.refl.step h2 (by rw [h3, hKd])⟩
  | false =>
    have hno := kn_false.1 hkn
    refine ⟨.slice none 0 0, [], look_no Try.underlying101 (zero_marks W) hm y hno false, ⟨rfl, .inl ⟨rfl, rfl⟩⟩, Nat.zero_le _, fun x hx => (by cases hx), fun q hq t ht hf => absurd hf (fun hf => hI.none hp hy hno hq ht hf)⟩
set_option maxRecDepth 20000 in
set_option maxHeartbeats 4000000 in
theorem all_come (n k : Nat) (st : Nat → Sp) (s : Bs) (_ : Short k st) (h : GoodN (n : Int) k st) (hn2 : 2 ≤ n) (es : foundB st k (tok 0) = some s) : AllCome n st k s := by
  intro v b za w hv hm hza
  have hp8 : n ≤ 8 := by have := h.1.2; omega
  have hk12 : k ≤ 12 := h.2.1
  have hg : ∀ t, t < k → GoodS n (st t) := h.2.2
  have hm0 : Mk n (tok 0) := one_mk (by omega)
  have hme : Mk n (tok (n - 1)) := one_mk (by omega)
  have hok := allB_ok hg hm0 es
  have hmost := hok.most
  have HES := hide es
  have HG := hide hg
  have HM0 := hide hm0
  have HZ := hide hza
  have HOk := hide hok
  have HV := hide hv
  have HM := hide hm
  have HME := hide hme
  generalize tok (n - 1) = e at *
  obtain ⟨a0, cap, rfl⟩ := hv.form
  have hb2 := ((Below.refl w.heap.size w).alloc (Nat.le_refl _) (.cells #[.int .i64 (n : Int), .slice a0 k cap] 29)).alloc (by simp) (.cells #[.int .i64 (e 0), .int .i64 (e 1), .int .i64 (e 2), .int .i64 (e 3), .int .i64 (e 4), .int .i64 (e 5), .int .i64 (e 6), .int .i64 (e 7)] 68)
  have hE2 := Blk.fresh (w.alloc (.cells #[.int .i64 (n : Int), .slice a0 k cap] 29)) _ 8 (iv e) 68 (cf8 e)
  have hN2 := (Blk.fresh w _ 2 (p2 (.int .i64 (n : Int)) (.slice a0 k cap)) 29 rfl).alloc (.cells #[.int .i64 (e 0), .int .i64 (e 1), .int .i64 (e 2), .int .i64 (e 3), .int .i64 (e 4), .int .i64 (e 5), .int .i64 (e 6), .int .i64 (e 7)] 68)
  rw [World.size_alloc] at hE2
  have hM2 := hm.down hb2
  have hmm := fun W => run_makeMap (P := Try.prog) 103 W
  clear hv hm hza hok h hm0 hme hg es
  cases hkn : kn s.M e s.c with
  | false =>
    have hno := kn_false.1 hkn
    have hlk := look_no Try.underlying78 (zero_arr _) hM2 e hno true
    simp only [if_true] at hlk
    have HF := hide (show za = false from by
      cases za with
      | false => rfl
      | true =>
        exfalso
        have h1 := HZ.out.1 rfl
        obtain ⟨hf0, hf1⟩ := allB_first HES.out
        have h2 := h1 0 hf0
        rw [hf1] at h2
        obtain ⟨j, hj, ej⟩ := (found_iff hp8 HG.out HM0.out HES.out e).2 h2
        have h3 := hno j hj
        rw [(mk_eq hp8 HME.out (HOk.out.mark j hj)).2 ej.symm] at h3; cases h3)
    have hb3 := fun o : Obj => hb2.alloc hb2.size o
    clear hkn hno hM2 hE2 hN2 HZ HES HG HM0 HOk HV HM HME hb2
    go_enter Try.func72, Try.ntmps72
    go_wp2
    go_ret
    exact ⟨by rw [HF.out]; rfl, hb3 _⟩
  | true =>
    obtain ⟨d, hd, hnod, hveq⟩ := kn_true hkn
    have hIn : Is s.M s.c e := ⟨d, hd, ((mk_eq hp8 HME.out (HOk.out.mark d hd)).1 hveq).symm⟩
    have hlk := look_yes Try.underlying78 hM2 e hd hnod hveq true
    obtain ⟨o', f', u', hform⟩ := arrB_form s d
    rw [hform] at hlk
    simp only [if_true] at hlk
    have HAh := hide (show ∀ Z : Obj, Calls Try.prog 78 #[.agg #[.int .i64 (n : Int), .slice a0 k cap], .map (some b)] (((w.alloc (.cells #[.int .i64 (n : Int), .slice a0 k cap] 29)).alloc (.cells #[.int .i64 (e 0), .int .i64 (e 1), .int .i64 (e 2), .int .i64 (e 3), .int .i64 (e 4), .int .i64 (e 5), .int .i64 (e 6), .int .i64 (e 7)] 68)).alloc Z) fun r w' => (∃ am B0 V a, r = .returned (.map (some am)) ∧ AH w' B0 am V a ∧ AI st k n s s.c 0 a) ∧ Below w.heap.size w w' ∧ Blk w' (w.heap.size + 1) 8 (iv e) 68 from fun Z => by
      have hb3 := hb2.alloc hb2.size Z
      refine (ahead_is n _ k st s b _ (HV.out.below hb3) hp8 hk12 HG.out HOk.out (HM.out.down hb3)).mono ?_
      rintro r w' ⟨⟨V, a, rfl, h1, h2⟩, hb⟩
      exact ⟨⟨_, _, V, a, rfl, h1, h2⟩, hb3.trans (hb.mono hb3.size), (hE2.alloc Z).down hb⟩)
    have HBI := hide (show BI st k n s e 0 1 (fun _ => e) [] 0 from BI.start HME.out hIn)
    obtain ⟨n0, n1, -, -⟩ := hN2.pair
    have an0 := fun o : Obj => alloc_cell o n0
    have an1 := fun o : Obj => alloc_cell o n1
    clear hkn hnod hveq hIn hM2 hE2 hN2 hb2 hform
    go_enter Try.func72, Try.ntmps72
    go_wp2_with fail
    refine (HAh.out _).mono ?_
    rintro r w4 ⟨⟨am, B0, V, a, rfl, hAH, hAI⟩, hb4, hE4⟩
    obtain ⟨w5, hr5, hm5, ho5⟩ := store_new Try.underlying103 (MapB.made w4 (fun _ => e) intv) e (.int .i64 0) (fun j hj => by omega)
    have hM5 : MapB w5 w4.heap.size 1 (fun _ => e) intv := hm5.congr fun j hj => by
      obtain rfl : j = 0 := by omega
      exact ⟨by rw [upd_same], by rw [upd_same]; rfl⟩
    have hEl := hE4.lt
    have hE5 := ho5.blk (hE4.alloc (.map #[] 0)) (by omega)
    obtain ⟨d0, d1, d2, d3, d4, d5, d6, d7⟩ := (hE4.alloc (.map #[] 0)).eight
    obtain ⟨c0, c1, c2, c3, c4, c5, c6, c7⟩ := hE5.eight
    have hb5 : Below w4.heap.size w4 w5 := ((Below.refl w4.heap.size w4).alloc (Nat.le_refl _) (.map #[] 0)).trans (ho5.below (Nat.le_refl _))
    have hs5 := ho5.size
    simp only [World.size_alloc] at hs5
    have H0 := hide (show ∀ ty, BkR w4 (w5.alloc (.cells #[.int .i64 (e 0), .int .i64 (e 1), .int .i64 (e 2), .int .i64 (e 3), .int .i64 (e 4), .int .i64 (e 5), .int .i64 (e 6), .int .i64 (e 7)] ty)) (.slice (some ⟨w4.heap.size + 1, 0, none⟩) 1 1) st k n s e 0 0 1 (fun _ => e) [] 0 from fun ty => by
      have hbz := (Below.refl w5.heap.size w5).alloc (Nat.le_refl _) (.cells #[.int .i64 (e 0), .int .i64 (e 1), .int .i64 (e 2), .int .i64 (e 3), .int .i64 (e 4), .int .i64 (e 5), .int .i64 (e 6), .int .i64 (e 7)] ty)
      refine ⟨?_, hM5.down hbz, hb5.trans (hbz.mono hb5.size), HBI.out⟩
      have := Que.fresh w5 e ty (base := w4.heap.size + 1) (by rw [hs5]; exact Nat.le_refl _)
      rw [hs5] at this
      exact this)
    have HB4 := hide hb4
    have HM4 := hide (show MapB w4 b s.c s.M (arrB s) from HM.out.down hb4)
    have HAH := hide hAH
    have HAI := hide hAI
    clear hlk HAh n0 n1 an0 an1 hb4 hE4 hm5 ho5 hE5 hM5 hb5 HBI hAH hAI HV HM
    go_wp2_with fail
    go_loopw [11] (fun x wr => ∃ (i nb : Nat) (B : Nat → Nat → Int), Hid (BkR w4 wr x st k n s e i i nb B [] 0)) (fun x wr => 400 - (mapN wr w4.heap.size - lenV x))
    case atStart => exact ⟨0, 1, _, hide (H0.out _)⟩
    case round =>
      rename World => wo
      obtain ⟨i, nb, B, HSp⟩ := hrel
      obtain ⟨hQ, hMp, hb, hBI⟩ := HSp.out
      have hmost2 := hBI.most hp8
      have hle := hBI.le
      clear H0 hr5 d0 d1 d2 d3 d4 d5 d6 d7 c0 c1 c2 c3 c4 c5 c6 c7
      by_cases hlt : i < nb
      · obtain ⟨g, o, cp, rfl, hcell⟩ := hQ.head hlt
        obtain ⟨V2, hsl, hQ2, hown⟩ := hQ.rest hlt Try.underlying81 (fun W => by rfl)
        have p0 := hcell 0 (by omega)
        have p1 := hcell 1 (by omega)
        have p2' := hcell 2 (by omega)
        have p3 := hcell 3 (by omega)
        have p4 := hcell 4 (by omega)
        have p5 := hcell 5 (by omega)
        have p6 := hcell 6 (by omega)
        have p7 := hcell 7 (by omega)
        rw [Nat.add_zero] at p0
        have hpos : 0 < nb - i := by omega
        have hposd : decide (0 < nb - i) = true := by simp [hpos]
        have hb6 := (Below.refl wo.heap.size wo).alloc (Nat.le_refl _) (.cells #[.int .i64 (B i 0), .int .i64 (B i 1), .int .i64 (B i 2), .int .i64 (B i 3), .int .i64 (B i 4), .int .i64 (B i 5), .int .i64 (B i 6), .int .i64 (B i 7)] 68)
        obtain ⟨rv, l, hlk, hown4, hll, hin, hall⟩ := look_row (W := wo.alloc (.cells #[.int .i64 (B i 0), .int .i64 (B i 1), .int .i64 (B i 2), .int .i64 (B i 3), .int .i64 (B i 4), .int .i64 (B i 5), .int .i64 (B i 6), .int .i64 (B i 7)] 68)) HAH.out (hb.trans (hb6.mono hb.size)) HAI.out hp8 hk12 hmost (hBI.mark i hlt)
        obtain ⟨ar, cr, rfl, hrc⟩ := own_cells hown4 (cl8_len l)
        have HRc := hide hrc
        have HIn := hide hin
        have HAl := hide hall
        obtain ⟨bi, hbi⟩ : ∃ y, B i = y := ⟨_, rfl⟩
        have HBi := hide hbi
        have HI0 := hide (show BkR w4 (wo.alloc (.cells #[.int .i64 (B i 0), .int .i64 (B i 1), .int .i64 (B i 2), .int .i64 (B i 3), .int .i64 (B i 4), .int .i64 (B i 5), .int .i64 (B i 6), .int .i64 (B i 7)] 68)) V2 st k n s e i (i + 1) nb B l 0 ∧ B i = bi from ⟨(show BkR w4 wo V2 st k n s e i (i + 1) nb B l 0 from ⟨hQ2, hMp, hb, hBI.take l⟩).down hb6, hbi⟩)
        have HMs := hide (And.intro hMp.many (And.intro hQ.len (hBI.rch i hlt)))
        clear hQ hMp hcell hQ2 hb hb6 hown HSp hBI hown4 hrc hin hall hbi
        go_wp2_with fail
        go_loopw [11, 45] (fun x y wr => ∃ (r nb2 : Nat) (B2 : Nat → Nat → Int), r ≤ l.length ∧ y = .int .i64 (r : Int) ∧ Hid (BkR w4 wr x st k n s e i (i + 1) nb2 B2 l r ∧ B2 i = bi)) (fun _ y _ => l.length - (intOf y).toNat)
        case atStart => exact ⟨0, nb, B, Nat.zero_le _, rfl, HI0⟩
        case round =>
          rename World => wq
          clear HI0 hlk hsl p0 p1 p2' p3 p4 p5 p6 p7 hpos hposd
          obtain ⟨r, nb2, B2, hrl, rfl, HI⟩ := hrel
          by_cases hrlt : r < l.length
          · obtain ⟨x, hx⟩ : ∃ x, l[r]? = some x := ⟨l[r], List.getElem?_eq_getElem hrlt⟩
            obtain ⟨gr, rfl, -, hgl, hcl⟩ := HRc.out (by omega)
            obtain ⟨hS2, hBe⟩ := HI.out
            have hbq := hS2.2.2.1
            have hq8 : ∀ q, q < 8 → wq.cell? ⟨gr, r * 8 + q, none⟩ = some (.int .i64 (x q)) := fun q hq => (hbq.cell (p := ⟨gr, r * 8 + q, none⟩) hgl).trans (hcl _ _ (cl8_at l r q x hx hq))
            have p0 := hq8 0 (by omega)
            have p1 := hq8 1 (by omega)
            have p2' := hq8 2 (by omega)
            have p3 := hq8 3 (by omega)
            have p4 := hq8 4 (by omega)
            have p5 := hq8 5 (by omega)
            have p6 := hq8 6 (by omega)
            have p7 := hq8 7 (by omega)
            rw [Nat.add_zero] at p0
            have hr0 : (0 : Int) ≤ (r : Int) := by omega
            have hr1 : (r : Int) < (l.length : Int) := by omega
            obtain ⟨hxi, hxr⟩ := HIn.out x (List.mem_of_getElem? hx)
            have hxm : Mk n x := by obtain ⟨j, hj, ej⟩ := hxi; rw [← ej]; exact HOk.out.mark j hj
            have hb5 := (Below.refl wq.heap.size wq).alloc (Nat.le_refl _) (.cells #[.int .i64 (x 0), .int .i64 (x 1), .int .i64 (x 2), .int .i64 (x 3), .int .i64 (x 4), .int .i64 (x 5), .int .i64 (x 6), .int .i64 (x 7)] 68)
            have hM5 := hS2.2.1.down hb5
            have hmk2 := hS2.2.2.2.mark
            have hm22 := hS2.2.2.2.most hp8
            cases hkn : kn B2 x nb2 with
            | true =>
              obtain ⟨d, hd, hno, hveq⟩ := kn_true hkn
              have HE := hide (show BkR w4 wq _ st k n s e i (i + 1) nb2 B2 l (r + 1) from ⟨hS2.1, hS2.2.1, hS2.2.2.1, hS2.2.2.2.skip hx ⟨d, hd, ((mk_eq hp8 hxm (hmk2 d hd)).1 hveq).symm⟩⟩)
              have HBe := hide hBe
              have hlk : (Instr.lookup 103 (.map (some w4.heap.size)) (mkV x) true).run Try.prog (wq.alloc (.cells #[.int .i64 (x 0), .int .i64 (x 1), .int .i64 (x 2), .int .i64 (x 3), .int .i64 (x 4), .int .i64 (x 5), .int .i64 (x 6), .int .i64 (x 7)] 68)) = .ok (.tuple #[.int .i64 (d : Int), .bool true]) (wq.alloc (.cells #[.int .i64 (x 0), .int .i64 (x 1), .int .i64 (x 2), .int .i64 (x 3), .int .i64 (x 4), .int .i64 (x 5), .int .i64 (x 6), .int .i64 (x 7)] 68)) := look_yes Try.underlying103 hM5 x hd hno hveq true
              clear HI hS2 hBe hbq hq8 hM5 hb5 hmk2 hkn hno hveq hcl hxi hxr hx
              go_wp2
              exact ⟨⟨r + 1, nb2, B2, by omega, by go_num, hide ⟨HE.out.down ((Below.refl _ _).alloc (Nat.le_refl _) _), HBe.out⟩⟩, by simp [intOf]; omega⟩
            | false =>
              have hno := kn_false.1 hkn
              have hlk : (Instr.lookup 103 (.map (some w4.heap.size)) (mkV x) true).run Try.prog (wq.alloc (.cells #[.int .i64 (x 0), .int .i64 (x 1), .int .i64 (x 2), .int .i64 (x 3), .int .i64 (x 4), .int .i64 (x 5), .int .i64 (x 6), .int .i64 (x 7)] 68)) = .ok (.tuple #[.int .i64 0, .bool false]) (wq.alloc (.cells #[.int .i64 (x 0), .int .i64 (x 1), .int .i64 (x 2), .int .i64 (x 3), .int .i64 (x 4), .int .i64 (x 5), .int .i64 (x 6), .int .i64 (x 7)] 68)) := look_no Try.underlying103 (zero_int _) hM5 x hno true
              have hlo := hS2.2.1.lt
              have hiq : i + 1 ≤ nb2 := hS2.1.1
              have HBI2 := hide (hS2.2.2.2.more hx hxm hno hxi (hxr.trans HMs.out.2.2))
              have HX6 := hide (Blk.fresh wq _ 8 (iv x) 68 (cf8 x))
              have HS6 := hide (hS2.down hb5)
              have HBe := hide hBe
              clear HI hS2 hBe hbq hq8 hb5 hmk2 hkn hcl hxi hxr hx hxm
              go_wp2_with (first | (at_len; refine wpList_len_map rfl _ 103 rfl 3 Try.underlying103 w4.heap.size nb2 B2 _ rfl hM5 ?_) | (at_mapUpdate; refine wpList_map_new rfl _ _ _ 103 rfl 3 Try.underlying103 w4.heap.size nb2 B2 intv x rfl rfl hM5 hno ?_; rintro w7 hM7 hO7; clear hlk; obtain ⟨y0, y1, y2, y3, y4, y5, y6, y7⟩ := (hO7.blk HX6.out (by omega)).eight; have HQ8 := hide (show ∀ o, Que (w7.alloc o) (w4.heap.size + 1) _ (i + 1) nb2 B2 ∧ w4.heap.size + 1 ≤ (w7.alloc o).heap.size from fun o => by
                  obtain ⟨g', hg', hgb', hgl'⟩ := HS6.out.1.lt
                  have hs7 := hO7.size
                  exact ⟨(HS6.out.1.kept fun q hq => by rw [hg'] at hq; cases hq; exact hO7.block g' (by omega)).down ((Below.refl _ _).alloc (Nat.le_refl _) _), by rw [World.size_alloc, hs7]; omega⟩); have HC8 := hide (show ∀ ty q, q < 8 → (w7.alloc (.cells #[.int .i64 (x 0), .int .i64 (x 1), .int .i64 (x 2), .int .i64 (x 3), .int .i64 (x 4), .int .i64 (x 5), .int .i64 (x 6), .int .i64 (x 7)] ty)).cell? ⟨w7.heap.size, q, none⟩ = some (.int .i64 (x q)) from fun ty q hq => (Blk.fresh w7 _ 8 (iv x) ty (cf8 x)).cell hq); replace hO7 := hide hO7; replace hM7 := hide (show MapB w7 w4.heap.size (nb2 + 1) (upd B2 nb2 x) (upd intv nb2 (.int .i64 (nb2 : Int))) from hM7); clear hM5) | (at_builtin; refine wpList_que_put rfl _ _ rfl (w4.heap.size + 1) (i + 1) nb2 B2 _ rfl (HQ8.out _).1 w7.heap.size 1 x rfl (HC8.out _) (by omega) (HQ8.out _).2 ?_))
              rintro v8 w8 hQ8 hg8 -
              have HE := hide (HS6.out.add hM7.out hO7.out hQ8 hg8 HBI2.out)
              clear hQ8 hg8 HQ8 HC8 HX6 HS6 hM7 hO7 HBI2 y0 y1 y2 y3 y4 y5 y6 y7
              go_wp2
              exact ⟨⟨r + 1, nb2 + 1, upd B2 nb2 x, by omega, by go_num, hide ⟨HE.out, by rw [upd_other _ _ _ _ (by omega)]; exact HBe.out⟩⟩, by simp [intOf]; omega⟩
          · have hiq : i + 1 ≤ nb2 := HI.out.1.1.1
            have HSo := hide (show BkR w4 wq _ st k n s e (i + 1) (i + 1) nb2 B2 [] 0 from by
              obtain ⟨⟨h1, h2, h3, h4⟩, h5⟩ := HI.out
              exact ⟨h1, h2, h3, h4.row (by omega) (by omega) (by rw [h5, ← HBi.out]; exact HAl.out)⟩)
            have hm2 := HI.out.1.2.1.many
            have hl2 := HI.out.1.1.len
            clear HI
            go_wp2
            exact ⟨⟨i + 1, nb2, B2, HSo⟩, by rw [hm2, hl2, HMs.out.1, HMs.out.2.1]; omega⟩
      · obtain ⟨a', cp', rfl⟩ := hQ.form
        obtain rfl : i = nb := by omega
        have hME := HM4.out.down hb
        have HC := hide (show (i = s.c) ↔ za = true from by rw [HZ.out]; exact hBI.over hp8 HG.out HM0.out HES.out)
        have HBz := hide (HB4.out.trans (hb.mono HB4.out.size))
        rw [Nat.sub_self]
        clear hQ hb HSp hBI
        go_wp2_with (first | (at_len; refine wpList_len_map rfl _ 103 rfl 3 Try.underlying103 w4.heap.size i B _ rfl hMp ?_) | (at_len; refine wpList_len_map rfl _ 78 rfl 94 Try.underlying78 b s.c s.M _ rfl hME ?_))
        go_ret
        refine ⟨?_, HBz.out⟩
        show Ending.returned (.bool ((i : Int) == (s.c : Int))) = Ending.returned (.bool za)
        rw [show ((i : Int) == (s.c : Int)) = za from by rw [Bool.eq_iff_iff, beq_iff_eq, ← HC.out]; omega]
end Go.Proofs.Ythilapalgakhhaa

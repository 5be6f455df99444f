/-
  PlayQueue of the specification: each step on a copy, the queue's box told anew where the step was done.
-/
import Derived.Test.YtfjdbenbiakbbaaJoin25
import Derived.Test.YtfjdbenbiakbbaaJoin31
import Derived.Deep.CutRange
import Derived.Test.YtfjdbenbiakbbaaJoin32
namespace Go.Proofs.Ytfjdbenbiakbbaa
open Go.RowKit M
open Go.Sort (grow)
namespace M
/-- The queue's box told anew out of an answer. -/
theorem PL.turn {w A W : World} {g g2 : Nat} {v1 v3 v4 x y1 y3 y4 : Value} {q r : Qu} {bs : List Bool} (h : PL w A g v1 v3 v4 x q bs) (hx : LX A W g2 y1 y3 y4 r) :
    ∀ WZ, ((((W.setCell ⟨g, 0, none⟩ (.int .i64 r.win)).setCell ⟨g, 1, none⟩ y1).setCell ⟨g, 2, none⟩ (.int .i64 r.base)).setCell ⟨g, 3, none⟩ y3).setCell ⟨g, 4, none⟩ y4 = WZ → PL w WZ g y1 y3 y4 x r bs := by
  intro WZ hWZ
  have h2 := h.down hx.low
  have hlo := h.pq.lo
  have hlt := h.pq.box.lt
  have hA : w.heap.size + 1 ≤ A.heap.size := by omega
  obtain ⟨j1, j2, j3⟩ := putW5 h2.pq.box h2.low (Nat.le_of_succ_le hlo) _ _ _ _ _ WZ hWZ
  refine ⟨j2, h2.res.gb j3 (fun e => by simp only [Option.some.injEq] at e; omega), ⟨j1, hlo, (hx.ans.o1.other j3 (fun k hk e => ?_)).mono hA, (hx.ans.o3.other j3 (fun k hk e => ?_)).mono hA, (hx.ans.o4.other j3 (fun k hk e => ?_)).mono hA, hx.ans.a13, hx.ans.a14, hx.ans.a34, fun e => ?_, fun e => ?_, fun e => ?_⟩, h2.ob.other j3 (fun k hk e => ?_), fun k hk hm => ?_⟩
  · have := (hx.ans.o1.lt hk).1; simp only [Option.some.injEq] at e; omega
  · have := (hx.ans.o3.lt hk).1; simp only [Option.some.injEq] at e; omega
  · have := (hx.ans.o4.lt hk).1; simp only [Option.some.injEq] at e; omega
  · have := (hx.ans.o1.lt e).1; omega
  · have := (hx.ans.o3.lt e).1; omega
  · have := (hx.ans.o4.lt e).1; omega
  · simp only [Option.some.injEq] at e; exact h.ap k hk (.inl e)
  · have hk2 := (h.ob.lt hk).2
    rcases hm with e | e | e | e
    · exact h.ap k hk (.inl e)
    · have := (hx.ans.o1.lt e).1; omega
    · have := (hx.ans.o3.lt e).1; omega
    · have := (hx.ans.o4.lt e).1; omega
/-- A copy of the queue stored into the box of the answer. -/
theorem PL.finS {w W W2 WZ : World} {g : Nat} {v1 v3 v4 x u1 u3 u4 : Value} {q : Qu} {bs : List Bool} (h : PL w W g v1 v3 v4 x q bs) (hb : Below W.heap.size W W2) (ha : AnsQ W2 W.heap.size W2.heap.size u1 u3 u4 q.sent q.got q.line) (j : W2.grownBy WZ (some w.heap.size)) : AnsQ WZ w.heap.size WZ.heap.size u1 u3 u4 q.sent q.got q.line ∧ OB WZ w.heap.size x bs ∧ ∀ k, x.ownBlock = some k → k < WZ.heap.size ∧ u1.ownBlock ≠ some k ∧ u3.ownBlock ≠ some k ∧ u4.ownBlock ≠ some k := by
  have hlo := h.pq.lo
  have hlt := h.pq.box.lt
  have hsz := h.low.size
  refine ⟨AnsQ.of ((ha.o1.other j (fun k hk e => ?_)).mono hsz) ((ha.o3.other j (fun k hk e => ?_)).mono hsz) ((ha.o4.other j (fun k hk e => ?_)).mono hsz) ha.a13 ha.a14 ha.a34, ((h.ob.down hb).other j (fun k hk e => ?_)).mono (by omega), fun k hk => ⟨Nat.lt_of_lt_of_le (h.ob.lt hk).2 (Nat.le_trans hb.size j.size), fun e => ?_, fun e => ?_, fun e => ?_⟩⟩
  · have := (ha.o1.lt hk).1; simp only [Option.some.injEq] at e; omega
  · have := (ha.o3.lt hk).1; simp only [Option.some.injEq] at e; omega
  · have := (ha.o4.lt hk).1; simp only [Option.some.injEq] at e; omega
  · have := (h.ob.lt hk).1; simp only [Option.some.injEq] at e; omega
  · have := (ha.o1.lt e).1; have := (h.ob.lt hk).2; omega
  · have := (ha.o3.lt e).1; have := (h.ob.lt hk).2; omega
  · have := (ha.o4.lt e).1; have := (h.ob.lt hk).2; omega
end M
set_option maxRecDepth 20000 in
set_option maxHeartbeats 16000000 in
theorem spec_play (n : Int) (v : Value) (l : Lsts) (w : World) (hv : LstsOf w v l) (hl : LenL l) :
    Calls Try.prog 19 #[.int .i64 n, v] w fun e w' => AnsP w w' e (plQ n l) (plD n l) (plB n l) ∧ Below w.heap.size w w' := by
  obtain ⟨a, c, rfl⟩ := hv.form
  have HV := hide hv
  have HL := hide hl.2
  have hlen := hl.1
  unfold maxLen at hlen
  have hal := (Below.refl w.heap.size w).alloc (Nat.le_refl _) (.cells #[.int .i64 0, .slice none 0 0, .int .i64 0, .slice none 0 0, .slice none 0 0] 32)
  have HR0 := hide (newW5 w (.int .i64 0) (.slice none 0 0) (.int .i64 0) (.slice none 0 0) (.slice none 0 0) 32)
  clear hv hl
  cases hp : plB n l
  · have HEQ := hide (show plQ n l = qu0 ∧ plD n l = [] by unfold plQ plD; rw [hp]; exact ⟨rfl, rfl⟩)
    have HPB := hide hp
    obtain ⟨b, hb⟩ : ∃ b, inB n 1 10 = b := ⟨_, rfl⟩
    obtain ⟨nq, hnq⟩ : ∃ r, newO n = r := ⟨_, rfl⟩
    have HNB := hide (And.intro hnq hb)
    have HB2 := hide (show b = true → 200 < l.length by
      intro e
      unfold plB at hp
      rw [hb, e, Bool.true_and] at hp
      have := of_decide_eq_false hp
      omega)
    clear hp hnq hb
    go_enter Try.func19, Try.ntmps19
    go_wp2_with fail
    refine (spec_new n _).mono ?_
    rw [HNB.out.1, HNB.out.2]
    rintro e w1 ⟨rfl, hb1⟩
    have hdq := (Below.refl w1.heap.size w1).alloc (Nat.le_refl _) (.cells (qarr (.slice none 0 0) (.slice none 0 0) (.slice none 0 0) nq) 32)
    have HR := hide ((HR0.out.down hb1).down hdq)
    have h01 := hal.trans (hb1.mono hal.size)
    have hlo := h01.trans (hdq.mono h01.size)
    obtain ⟨⟨e0, e1, e2, e3, e4⟩, f0, f1, f2, f3, f4⟩ := HR.out.pen
    have hz := (((((HR.out.pen0 (.int .i64 0)).pen1 (.slice none 0 0)).pen2 (.int .i64 0)).pen3 (.slice none 0 0)).pen4 (.slice none 0 0))
    have hbz := hide (((((hlo.setCell (p := ⟨w.heap.size, 0, none⟩) (Nat.le_refl _) (.int .i64 0)).setCell (p := ⟨w.heap.size, 1, none⟩) (Nat.le_refl _) (.slice none 0 0)).setCell (p := ⟨w.heap.size, 2, none⟩) (Nat.le_refl _) (.int .i64 0)).setCell (p := ⟨w.heap.size, 3, none⟩) (Nat.le_refl _) (.slice none 0 0)).setCell (p := ⟨w.heap.size, 4, none⟩) (Nat.le_refl _) (.slice none 0 0))
    obtain ⟨⟨g0, g1, g2, g3, g4⟩, -⟩ := hz.pen
    clear hz hb1 hal h01 hlo hdq HR HR0
    cases b
    · go_wp2
      exact bodyPost_ret (v := .tuple #[qv (.slice none 0 0) (.slice none 0 0) (.slice none 0 0) qu0, .slice none 0 0, .bool false]) (by simp [results, Try.results19, go_sem, qu0, g0, g1, g2, g3, g4]) rfl ⟨by rw [HEQ.out.1, HEQ.out.2]; exact AnsP.zero _ _, hbz.out⟩
    · have h2 := HB2.out rfl
      have hd2 : decide ((200 : Int) < (l.length : Int)) = true := decide_eq_true (by omega)
      have hd3 : decide (200 < l.length) = true := decide_eq_true (by omega)
      have hd4 : decide ((l.length : Int) > 200) = true := decide_eq_true (by omega)
      go_wp2
      exact bodyPost_ret (v := .tuple #[qv (.slice none 0 0) (.slice none 0 0) (.slice none 0 0) qu0, .slice none 0 0, .bool false]) (by simp [results, Try.results19, go_sem, qu0, g0, g1, g2, g3, g4]) rfl ⟨by rw [HEQ.out.1, HEQ.out.2]; exact AnsP.zero _ _, hbz.out⟩
  · have hin : inB n 1 10 = true := by unfold plB at hp; rw [Bool.and_eq_true] at hp; exact hp.1
    have hl2 : l.length ≤ 200 := by unfold plB at hp; rw [Bool.and_eq_true] at hp; exact of_decide_eq_true hp.2
    have HG := hide (good_new ((inB_iff _ _ _).1 hin).1 ((inB_iff _ _ _).1 hin).2)
    have HNQ := hide (show newO n = newQ n by unfold newO; rw [hin]; rfl)
    have HEQ := hide (show plQ n l = (ply (newQ n) l).1 ∧ plD n l = (ply (newQ n) l).2 by unfold plQ plD; rw [hp]; exact ⟨rfl, rfl⟩)
    have hd2 : decide ((200 : Int) < (l.length : Int)) = false := decide_eq_false (by omega)
    have hd3 : decide (200 < l.length) = false := decide_eq_false (by omega)
    have hd4 : decide ((l.length : Int) > 200) = false := decide_eq_false (by omega)
    have HIN := hide hin
    clear hp hin
    go_enter Try.func19, Try.ntmps19
    go_wp2_with fail
    refine (spec_new n _).mono ?_
    rw [HNQ.out, HIN.out]
    rintro e w1 ⟨rfl, hb1⟩
    have HPQ := hide (PQ.new (q := newQ n) (AnsQ.nil w1 (w.heap.size + 1) w1.heap.size) (by have := hb1.size; rw [World.size_alloc] at this; exact this))
    have HP := hide (show PL w (w1.alloc (.cells (qarr (.slice none 0 0) (.slice none 0 0) (.slice none 0 0) (newQ n)) 32)) w1.heap.size (.slice none 0 0) (.slice none 0 0) (.slice none 0 0) (.slice none 0 0) (newQ n) [] from by
      have hd := (Below.refl w1.heap.size w1).alloc (Nat.le_refl _) (.cells (qarr (.slice none 0 0) (.slice none 0 0) (.slice none 0 0) (newQ n)) 32)
      have h01 := hal.trans (hb1.mono hal.size)
      exact ⟨h01.trans (hd.mono h01.size), (HR0.out.down hb1).down hd, HPQ.out, OB.nil _ _, fun k e => by cases e⟩)
    clear hb1 HPQ HR0 hal
    go_wp2
    obtain ⟨Wn, hWn⟩ : ∃ Wn, w1.alloc (.cells (qarr (.slice none 0 0) (.slice none 0 0) (.slice none 0 0) (newQ n)) 32) = Wn := ⟨_, rfl⟩
    go_loopw [9, 29] (fun x i wr => ∃ (k : Nat) (q : Qu) (v1 v3 v4 : Value) (xa : Option Addr) (xn xc : Nat), k ≤ l.length ∧ i = .int .i64 k ∧ x = .slice xa xn xc ∧ Hid (q = (ply (newQ n) (l.take k)).1) ∧ Hid (PL w wr w1.heap.size v1 v3 v4 (.slice xa xn xc) q (ply (newQ n) (l.take k)).2)) (fun _ i _ => l.length - (intOf i).toNat)
    case atStart => exact ⟨0, newQ n, _, _, _, none, 0, 0, Nat.zero_le _, rfl, rfl, hide rfl, HP⟩
    case round =>
      obtain ⟨k, q, v1, v3, v4, xa, xn, xc, hk, rfl, rfl, HQ, HPr⟩ := hrel
      clear HP
      have HGq := hide (show GoodQ q from by rw [HQ.out]; exact good_ply _ _ HG.out)
      have HSh := hide HGq.out.short
      by_cases hlt : k < l.length
      · obtain ⟨s, hs⟩ : ∃ s, l[k]? = some s := ⟨l[k], List.getElem?_eq_getElem hlt⟩
        have HX := hide (HL.out s (List.mem_of_getElem? hs))
        obtain ⟨a', c', he, hr⟩ := HV.out
        simp only [Value.slice.injEq, true_and] at he
        obtain ⟨rfl, rfl⟩ := he
        obtain ⟨b, off, rfl, hb, hrow⟩ := hr (by omega)
        obtain ⟨d0, d1, d2⟩ := (hrow k s hs).below HPr.out.low hb
        obtain ⟨A, hA⟩ : ∃ A, wr.alloc (.cells #[.int .i64 s.kind, .int .i64 s.k, .string s.tx] 36) = A := ⟨_, rfl⟩
        have HAl := hide (show Below wr.heap.size wr A from hA ▸ (Below.refl wr.heap.size wr).alloc (Nat.le_refl _) _)
        have HPA := hide (HPr.out.down HAl.out)
        have HSB := hide (show Blk A wr.heap.size 3 (ql s) 36 from hA ▸ newT3 wr (.int .i64 s.kind) (.int .i64 s.k) (.string s.tx) 36)
        have HA := hide hA
        obtain ⟨bs, hbs⟩ : ∃ bs, (ply (newQ n) (l.take k)).2 = bs := ⟨_, rfl⟩
        have hbl : bs.length ≤ 1048576 := by rw [← hbs, ply_len, List.length_take]; omega
        obtain ⟨r, hr⟩ : ∃ r, (stp q s).getD q = r := ⟨_, rfl⟩
        obtain ⟨b', hd⟩ : ∃ d, (stp q s).isSome = d := ⟨_, rfl⟩
        have HR := hide (show (ply (newQ n) (l.take (k + 1))).1 = r ∧ (ply (newQ n) (l.take (k + 1))).2 = bs ++ [b'] from by
          rw [take_snocL hs, (ply_is _ _ _).1, (ply_is _ _ _).2, ← HQ.out, hr, hd, hbs]; exact ⟨rfl, rfl⟩)
        have HRD := hide (And.intro hr hd)
        have HRF := hide (show b' = false → r = q from by
          intro e
          rw [← hr]; rw [e] at hd
          cases hx : stp q s with
          | none => rfl
          | some x => rw [hx] at hd; cases hd)
        rw [hbs] at HPA
        clear hs hrow hr hd hbs HPr HQ hA HAl hb
        obtain ⟨a1, c1, e1⟩ := HPA.out.pq.o1.form
        obtain ⟨a3, c3, e3⟩ := HPA.out.pq.o3.form
        obtain ⟨a4, c4, e4⟩ := HPA.out.pq.o4.form
        subst e1 e3 e4
        have HYC := hide (AnsQ.c HPA.out.pq.ans)
        go_upto_region 8 with fail
        rw [HA.out]
        clear HA d0 d1 d2
        have hF1 : ST A A A.heap.size q none none := ⟨Below.refl A.heap.size A, fun g e => (by cases e), fun _ e => (by cases e)⟩
        have hF0 : ST A A.drew A.heap.size q none none := ⟨(Below.refl A.heap.size A).drew, fun g e => (by cases e), fun _ e => (by cases e)⟩
        have HS0 := hide (show ∀ W, Below A.heap.size A W → W.cell? ⟨w1.heap.size, 0, none⟩ = some (.int .i64 q.win) ∧ W.cell? ⟨w1.heap.size, 1, none⟩ = some (.slice a1 q.sent.length c1) ∧ W.cell? ⟨w1.heap.size, 2, none⟩ = some (.int .i64 q.base) ∧ W.cell? ⟨w1.heap.size, 3, none⟩ = some (.slice a3 q.got.length c3) ∧ W.cell? ⟨w1.heap.size, 4, none⟩ = some (.slice a4 q.line.length c4) ∧ W.cell? ⟨wr.heap.size, 0, none⟩ = some (.int .i64 s.kind) ∧ W.cell? ⟨wr.heap.size, 1, none⟩ = some (.int .i64 s.k) ∧ W.cell? ⟨wr.heap.size, 2, none⟩ = some (.string s.tx) from fun W hW => ⟨(HPA.out.pq.box.down hW).pen.1.1, (HPA.out.pq.box.down hW).pen.1.2.1, (HPA.out.pq.box.down hW).pen.1.2.2.1, (HPA.out.pq.box.down hW).pen.1.2.2.2.1, (HPA.out.pq.box.down hW).pen.1.2.2.2.2, (HSB.out.down hW).trp.1⟩)
        have HT1 := hide (show ∀ W o c, ST A W A.heap.size q o c → Calls Try.prog 42 #[.agg #[.int .i64 q.win, .slice a1 q.sent.length c1, .int .i64 q.base, .slice a3 q.got.length c3, .slice a4 q.line.length c4]] W fun e W' => ∃ a1 c1 a3 c3 a4 c4, e = .returned (.agg #[.int .i64 q.win, .slice a1 q.sent.length c1, .int .i64 q.base, .slice a3 q.got.length c3, .slice a4 q.line.length c4]) ∧ ST A W' A.heap.size q o (some (.slice a1 q.sent.length c1, .slice a3 q.got.length c3, .slice a4 q.line.length c4)) from fun W o c hW => (own_queue _ _ _ q W (HYC.out.below hW.low) HSh.out).mono (by
          rintro e W' ⟨⟨u1, u3, u4, rfl, hA⟩, hb⟩
          obtain ⟨a1, c1, rfl⟩ := hA.o1.form
          obtain ⟨a3, c3, rfl⟩ := hA.o3.form
          obtain ⟨a4, c4, rfl⟩ := hA.o4.form
          have h := hW.down hb
          exact ⟨a1, c1, a3, c3, a4, c4, rfl, h.low, h.box, fun u e => by cases e; exact hA.mono (hW.low.size) (Nat.le_refl _)⟩))
        have HF := hide (show ∀ W o u1 u3 u4, ST A W A.heap.size q o (some (u1, u3, u4)) → Calls Try.prog 41 #[.agg #[.int .i64 q.win, u1, .int .i64 q.base, u3, u4], .agg #[.int .i64 s.kind, .int .i64 s.k, .string s.tx]] W fun e W' => ∃ a1 c1 a3 c3 a4 c4, e = .returned (.tuple #[.agg #[.int .i64 r.win, .slice a1 r.sent.length c1, .int .i64 r.base, .slice a3 r.got.length c3, .slice a4 r.line.length c4], .bool b']) ∧ SV A W' o (.slice a1 r.sent.length c1) (.slice a3 r.got.length c3) (.slice a4 r.line.length c4) r from fun W o u1 u3 u4 hW => by
          refine (spec_stp u1 u3 u4 q s A.heap.size W (hW.cp (u1, u3, u4) rfl) hW.low.size HGq.out HX.out).mono ?_
          rintro e W' ⟨y1, y3, y4, rfl, hA, hB, hCh⟩
          rw [HRD.out.1] at hA ⊢
          rw [HRD.out.2]
          obtain ⟨a1, c1, rfl⟩ := hA.o1.form
          obtain ⟨a3, c3, rfl⟩ := hA.o3.form
          obtain ⟨a4, c4, rfl⟩ := hA.o4.form
          have hcp := hW.cp (u1, u3, u4) rfl
          refine ⟨a1, c1, a3, c3, a4, c4, rfl, hW.low.trans hB, fun g hg => ⟨(hW.box g hg).1.chg hCh ?_, (hW.box g hg).2⟩, hA⟩
          rintro (e | e | e)
          · exact hcp.o1.ne_blk (hW.box g hg).1 (by decide) e
          · exact hcp.o3.ne_blk (hW.box g hg).1 (by decide) e
          · exact hcp.o4.ne_blk (hW.box g hg).1 (by decide) e)
        go_cut [12, 13] from 33 to 46 (fun p bb wx => ∃ (g : Nat) (a1 : Option Addr) (c1 : Nat) (a3 : Option Addr) (c3 : Nat) (a4 : Option Addr) (c4 : Nat), p = .pointer (some ⟨g, 0, none⟩) ∧ bb = .bool b' ∧ Hid (LX A wx g (.slice a1 r.sent.length c1) (.slice a3 r.got.length c3) (.slice a4 r.line.length c4) r))
        case first =>
          go_region_held3 (fun W => W.cell? ⟨w1.heap.size, 0, none⟩ = some (.int .i64 q.win) ∧ W.cell? ⟨w1.heap.size, 1, none⟩ = some (.slice a1 q.sent.length c1) ∧ W.cell? ⟨w1.heap.size, 2, none⟩ = some (.int .i64 q.base) ∧ W.cell? ⟨w1.heap.size, 3, none⟩ = some (.slice a3 q.got.length c3) ∧ W.cell? ⟨w1.heap.size, 4, none⟩ = some (.slice a4 q.line.length c4) ∧ W.cell? ⟨wr.heap.size, 0, none⟩ = some (.int .i64 s.kind) ∧ W.cell? ⟨wr.heap.size, 1, none⟩ = some (.int .i64 s.k) ∧ W.cell? ⟨wr.heap.size, 2, none⟩ = some (.string s.tx)) (first
            | (with_reducible exact HS0.out _ (by with_reducible assumption))
            | (with_reducible exact HS0.out _ (ST.down (by with_reducible assumption) (Below.refl _ _)).low)
            | (with_reducible exact HS0.out _ (ST.alloc (by with_reducible assumption)).low)
            | (with_reducible exact HS0.out _ (ST.alloc1 (by with_reducible assumption)).low)
            | (with_reducible exact HS0.out _ (show SV _ _ _ _ _ _ _ from (by with_reducible assumption)).low)
            | (with_reducible exact HS0.out _ ((show SV _ _ _ _ _ _ _ from (by with_reducible assumption)).low.alloc (show SV _ _ _ _ _ _ _ from (by with_reducible assumption)).low.size _))
            | (with_reducible exact HS0.out _ (SV.fresh (by with_reducible assumption)).low)
            | (with_reducible exact HS0.out _ (SV.set (by with_reducible assumption)).low)) (first
            | (go_at_call 42; with_reducible refine Calls.mono (HT1.out _ _ _ (by first | assumption | exact ST.alloc1 (by assumption) | exact ST.alloc (by assumption))) ?_; rintro e wo ⟨xo1, yo1, xo3, yo3, xo4, yo4, rfl, hSo⟩)
            | (go_at_call 41; with_reducible refine Calls.mono (HF.out _ _ _ _ _ (by first | assumption | exact ST.alloc1 (by assumption) | exact ST.alloc (by assumption))) ?_; rintro e wf ⟨af1, cf1, af3, cf3, af4, cf4, rfl, hSf⟩; first | (obtain ⟨⟨k0, k1, k2, k3, k4⟩, f0, f1, f2, f3, f4⟩ := (hSf.box _ rfl).1.pen; have hBs := (SV.set hSf).low) | skip))
          all_goals
            go_wp2_with fail
            go_meet
            first
              | (have hz := hSf.set; exact ⟨_, af1, cf1, af3, cf3, af4, cf4, rfl, rfl, hide hz⟩)
              | (have hz := hSf.fresh; exact ⟨_, af1, cf1, af3, cf3, af4, cf4, rfl, rfl, hide hz⟩)
        case rest =>
          rename World => w2
          obtain ⟨g2, x1, k1, x3, k3, x4, k4, rfl, rfl, HLX⟩ := hcut
          have HP2 := hide (HPA.out.down HLX.out.low)
          clear hF0 hF1 HS0 HT1 HF HYC HSB HSh HGq
          cases b' with
          | false =>
            have HRQ := HRF.out rfl
            subst HRQ
            clear HLX HRF HPA
            go_wp2_with (at_builtin; have hal3 := (Below.refl w2.heap.size w2).alloc (Nat.le_refl _) (.cells #[.bool false] 4); have HP4 := hide (HP2.out.down hal3); have HU3 := hide (show (w2.alloc (.cells #[.bool false] 4)).cell? ⟨w2.heap.size, 0, none⟩ = some (.bool false) from by simp); refine wpList_appBl _ rfl _ _ rfl (w.heap.size + 1) bs false _ rfl HP4.out.ob _ 1 rfl HU3.out hbl (Nat.le_trans HP4.out.pq.lo (Nat.le_of_lt HP4.out.pq.box.lt)) ?_; intro a5 n5 c5 w4 hO4 hg4 hy4; have HP5 := hide (HP4.out.more hO4 hg4 hy4); clear hO4 hg4 hy4 HP2 HP4 HU3 hal3)
            go_roundw
            case rel => exact ⟨k + 1, r, _, _, _, a5, n5, c5, by omega, by go_num, rfl, hide HR.out.1.symm, by rw [HR.out.2]; exact HP5⟩
            case measure => simp [intOf]; omega
          | true =>
            obtain ⟨WZ, hWZ⟩ : ∃ WZ, ((((w2.setCell ⟨w1.heap.size, 0, none⟩ (.int .i64 r.win)).setCell ⟨w1.heap.size, 1, none⟩ (.slice x1 r.sent.length k1)).setCell ⟨w1.heap.size, 2, none⟩ (.int .i64 r.base)).setCell ⟨w1.heap.size, 3, none⟩ (.slice x3 r.got.length k3)).setCell ⟨w1.heap.size, 4, none⟩ (.slice x4 r.line.length k4) = WZ := ⟨_, rfl⟩
            have HP3 := hide (HPA.out.turn HLX.out WZ hWZ)
            obtain ⟨⟨y0, y1, y2, y3, y4⟩, -⟩ := HLX.out.box.pen
            obtain ⟨⟨e0, e1, e2, e3, e4⟩, f0, f1, f2, f3, f4⟩ := HP2.out.pq.box.pen
            have HWZ := hide hWZ
            clear hWZ HLX HRF HPA HP2
            go_upto_region 11 with fail
            rw [HWZ.out]
            clear HWZ e0 e1 e2 e3 e4 f0 f1 f2 f3 f4 y0 y1 y2 y3 y4
            go_wp2_with (at_builtin; have hal3 := (Below.refl WZ.heap.size WZ).alloc (Nat.le_refl _) (.cells #[.bool true] 4); have HP4 := hide (HP3.out.down hal3); have HU3 := hide (show (WZ.alloc (.cells #[.bool true] 4)).cell? ⟨WZ.heap.size, 0, none⟩ = some (.bool true) from by simp); refine wpList_appBl _ rfl _ _ rfl (w.heap.size + 1) bs true _ rfl HP4.out.ob _ 1 rfl HU3.out hbl (Nat.le_trans HP4.out.pq.lo (Nat.le_of_lt HP4.out.pq.box.lt)) ?_; intro a5 n5 c5 w4 hO4 hg4 hy4; have HP5 := hide (HP4.out.more hO4 hg4 hy4); clear hO4 hg4 hy4 HP3 HP4 HU3 hal3)
            go_roundw
            case rel => exact ⟨k + 1, r, _, _, _, a5, n5, c5, by omega, by go_num, rfl, hide HR.out.1.symm, by rw [HR.out.2]; exact HP5⟩
            case measure => simp [intOf]; omega
      · obtain rfl : k = l.length := by omega
        rw [List.take_length] at HQ HPr
        obtain ⟨m1, k1, e1⟩ := HPr.out.pq.o1.form
        obtain ⟨m3, k3, e3⟩ := HPr.out.pq.o3.form
        obtain ⟨m4, k4, e4⟩ := HPr.out.pq.o4.form
        subst e1 e3 e4
        have HYC := hide (AnsQ.c HPr.out.pq.ans)
        obtain ⟨⟨y0, y1, y2, y3, y4⟩, -⟩ := HPr.out.pq.box.pen
        go_wp2_with fail
        refine (own_queue _ _ _ q _ HYC.out HSh.out).mono ?_
        rintro e w2 ⟨⟨u1, u3, u4, rfl, hA⟩, hb2⟩
        obtain ⟨b1, d1, rfl⟩ := hA.o1.form
        obtain ⟨b3, d3, rfl⟩ := hA.o3.form
        obtain ⟨b4, d4, rfl⟩ := hA.o4.form
        have HP2 := hide (HPr.out.down hb2)
        obtain ⟨WZ, hWZ⟩ : ∃ WZ, ((((w2.setCell ⟨w.heap.size, 0, none⟩ (.int .i64 q.win)).setCell ⟨w.heap.size, 1, none⟩ (.slice b1 q.sent.length d1)).setCell ⟨w.heap.size, 2, none⟩ (.int .i64 q.base)).setCell ⟨w.heap.size, 3, none⟩ (.slice b3 q.got.length d3)).setCell ⟨w.heap.size, 4, none⟩ (.slice b4 q.line.length d4) = WZ := ⟨_, rfl⟩
        obtain ⟨j1, j2, j3⟩ := putW5 HP2.out.res HP2.out.low (Nat.le_refl _) _ _ _ _ _ WZ hWZ
        have HF := hide (HPr.out.finS hb2 hA j3)
        obtain ⟨⟨e0, e1, e2, e3, e4⟩, f0, f1, f2, f3, f4⟩ := HP2.out.res.pen
        have HJ := hide (And.intro j1 j2)
        have HWZ := hide hWZ
        clear j1 j2 j3 hWZ HPr HP2 hA hb2 HYC HSh HGq y0 y1 y2 y3 y4
        go_wp2
        rw [HWZ.out]
        clear e0 e1 e2 e3 e4 f0 f1 f2 f3 f4
        obtain ⟨⟨e0, e1, e2, e3, e4⟩, -⟩ := HJ.out.1.pen
        exact bodyPost_ret (v := .tuple #[qv (.slice b1 q.sent.length d1) (.slice b3 q.got.length d3) (.slice b4 q.line.length d4) q, .slice xa xn xc, .bool true]) (by simp [results, Try.results19, go_sem, e0, e1, e2, e3, e4]) rfl ⟨by
          rw [HEQ.out.1, HEQ.out.2, ← HQ.out]; exact ⟨_, _, _, _, rfl, HF.out.1, HF.out.2.1, HF.out.2.2⟩, HJ.out.2⟩
end Go.Proofs.Ytfjdbenbiakbbaa

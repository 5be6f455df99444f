/-
  PlayQueue of the program: steps done one by one on a queue behind a pointer, and whether each was done.
-/
import Derived.Test.YtfjdbenbiakbbaaJoin20
import Derived.Test.YtfjdbenbiakbbaaJoin22
import Derived.Test.YtfjdbenbiakbbaaJoin23
import Derived.Test.YtfjdbenbiakbbaaJoin24
namespace Go.Proofs.Ytfjdbenbiakbbaa
open Go.RowKit M
open Go.Sort (grow)
namespace M
theorem PQ.chgS {S : Nat → Prop} {W W2 : World} {B g : Nat} {v1 v3 v4 : Value} {q : Qu} (h : PQ W B g v1 v3 v4 q) (hc : Chg S W W2) (hd : ∀ k, Mine g v1 v3 v4 k → ¬ S k) : PQ W2 B g v1 v3 v4 q :=
  ⟨h.box.chg hc (hd g (.inl rfl)), h.lo, owns_chg h.o1 hc (fun k e => hd k (.inr (.inl e))), owns_chg h.o3 hc (fun k e => hd k (.inr (.inr (.inl e)))), owns_chg h.o4 hc (fun k e => hd k (.inr (.inr (.inr e)))), h.a13, h.a14, h.a34, h.n1, h.n3, h.n4⟩
/-- While steps are played: the answer's box, the queue behind g, the list of what was done. -/
structure PL (w W : World) (g : Nat) (v1 v3 v4 x : Value) (q : Qu) (bs : List Bool) : Prop where
  low : Below w.heap.size w W
  res : Blk W w.heap.size 5 (w5 (.int .i64 0) (.slice none 0 0) (.int .i64 0) (.slice none 0 0) (.slice none 0 0)) 32
  pq : PQ W (w.heap.size + 1) g v1 v3 v4 q
  ob : OB W (w.heap.size + 1) x bs
  ap : ∀ k, x.ownBlock = some k → ¬ Mine g v1 v3 v4 k
theorem PL.down {w W W' : World} {g : Nat} {v1 v3 v4 x : Value} {q : Qu} {bs : List Bool} (h : PL w W g v1 v3 v4 x q bs) (hb : Below W.heap.size W W') : PL w W' g v1 v3 v4 x q bs :=
  ⟨h.low.trans (hb.mono h.low.size), h.res.down hb, h.pq.down hb, h.ob.down hb, h.ap⟩
/-- A step was done behind the pointer. -/
theorem PL.step {w W W' : World} {g : Nat} {v1 v3 v4 x u1 u3 u4 : Value} {q q' : Qu} {bs : List Bool} (h : PL w W g v1 v3 v4 x q bs) (hp : PQ W' (w.heap.size + 1) g u1 u3 u4 q') (hm : Mv g W v1 v3 v4 W' u1 u3 u4) : PL w W' g u1 u3 u4 x q' bs :=
  ⟨h.low.trans (hm.chg.low (fun k hk => Nat.le_of_succ_le (h.pq.mine k hk)) h.low.size), h.res.chg hm.chg (fun hk => by have := h.pq.mine _ hk; omega), hp, owns_chg h.ob hm.chg (fun k e => h.ap k e), fun k e hk => by
    rcases hm.sub k hk with h' | h'
    · exact h.ap k e h'
    · have := (h.ob.lt e).2; omega⟩
/-- What was done is told behind the list. -/
theorem PL.more {w W W' : World} {g : Nat} {v1 v3 v4 x y : Value} {q : Qu} {bs cs : List Bool} (h : PL w W g v1 v3 v4 x q bs) (ho : OB W' (w.heap.size + 1) y cs) (hg : W.grownBy W' x.ownBlock) (hy : y.ownBlock = x.ownBlock ∨ y.ownBlock = some W.heap.size) : PL w W' g v1 v3 v4 y q cs := by
  have hc : Chg (fun k => x.ownBlock = some k) W W' := Chg.gb hg (fun k e => e)
  refine ⟨h.low.trans (hc.low (fun k hk => Nat.le_of_succ_le (h.ob.lt hk).1) h.low.size), h.res.chg hc (fun e => by have := (h.ob.lt e).1; omega), h.pq.chgS hc (fun k hk e => h.ap k e hk), ho, fun k e hk => ?_⟩
  rcases hy with hy | hy
  · rw [hy] at e; exact h.ap k e hk
  · rw [hy] at e
    simp only [Option.some.injEq] at e
    have := h.pq.mlt k hk
    omega
def plB (n : Int) (l : Lsts) : Bool := inB n 1 10 && decide (l.length ≤ 200)
def plQ (n : Int) (l : Lsts) : Qu := if plB n l = true then (ply (newQ n) l).1 else qu0
def plD (n : Int) (l : Lsts) : List Bool := if plB n l = true then (ply (newQ n) l).2 else []
theorem ply_yes {q q' : Qu} {l : Lsts} {s : Lst} (h : stp (ply q l).1 s = some q') : (ply q (l ++ [s])).1 = q' ∧ (ply q (l ++ [s])).2 = (ply q l).2 ++ [true] := by
  rw [ply_snoc, h]; exact ⟨rfl, rfl⟩
theorem ply_no {q : Qu} {l : Lsts} {s : Lst} (h : stp (ply q l).1 s = none) : (ply q (l ++ [s])).1 = (ply q l).1 ∧ (ply q (l ++ [s])).2 = (ply q l).2 ++ [false] := by
  rw [ply_snoc, h]; exact ⟨rfl, rfl⟩
theorem ply_is (q : Qu) (l : Lsts) (s : Lst) : (ply q (l ++ [s])).1 = (stp (ply q l).1 s).getD (ply q l).1 ∧ (ply q (l ++ [s])).2 = (ply q l).2 ++ [(stp (ply q l).1 s).isSome] := by
  cases h : stp (ply q l).1 s with
  | none => exact ply_no h
  | some q' => exact ply_yes h
/-- A queue, bools and a flag in memory of the call's own. -/
def AnsP (w w' : World) (e : Ending) (r : Qu) (bs : List Bool) (ok : Bool) : Prop := ∃ x1 x3 x4 y, e = .returned (.tuple #[qv x1 x3 x4 r, y, .bool ok]) ∧ AnsQ w' w.heap.size w'.heap.size x1 x3 x4 r.sent r.got r.line ∧ OB w' w.heap.size y bs ∧ ∀ k, y.ownBlock = some k → k < w'.heap.size ∧ x1.ownBlock ≠ some k ∧ x3.ownBlock ≠ some k ∧ x4.ownBlock ≠ some k
theorem AnsP.zero (w w' : World) : AnsP w w' (.returned (.tuple #[qv (.slice none 0 0) (.slice none 0 0) (.slice none 0 0) qu0, .slice none 0 0, .bool false])) qu0 [] false :=
  ⟨_, _, _, _, rfl, AnsQ.nil _ _ _, OB.nil _ _, fun k e => by cases e⟩
/-- Stored into the box of the answer. -/
theorem PL.fin {w W WZ : World} {g : Nat} {v1 v3 v4 x : Value} {q : Qu} {bs : List Bool} (h : PL w W g v1 v3 v4 x q bs) (j : W.grownBy WZ (some w.heap.size)) : AnsQ WZ w.heap.size WZ.heap.size v1 v3 v4 q.sent q.got q.line ∧ OB WZ w.heap.size x bs ∧ ∀ k, x.ownBlock = some k → k < WZ.heap.size ∧ v1.ownBlock ≠ some k ∧ v3.ownBlock ≠ some k ∧ v4.ownBlock ≠ some k := by
  have hm := h.pq.mine
  refine ⟨AnsQ.of ((h.pq.o1.other j (fun k hk e => ?_)).mono (by omega)) ((h.pq.o3.other j (fun k hk e => ?_)).mono (by omega)) ((h.pq.o4.other j (fun k hk e => ?_)).mono (by omega)) h.pq.a13 h.pq.a14 h.pq.a34, (h.ob.other j (fun k hk e => ?_)).mono (by omega), fun k hk => ⟨Nat.lt_of_lt_of_le (h.ob.lt hk).2 j.size, fun e => h.ap k hk (.inr (.inl e)), fun e => h.ap k hk (.inr (.inr (.inl e))), fun e => h.ap k hk (.inr (.inr (.inr e)))⟩⟩
  · have := hm k (.inr (.inl hk)); simp only [Option.some.injEq] at e; omega
  · have := hm k (.inr (.inr (.inl hk))); simp only [Option.some.injEq] at e; omega
  · have := hm k (.inr (.inr (.inr hk))); simp only [Option.some.injEq] at e; omega
  · have := (h.ob.lt hk).1; simp only [Option.some.injEq] at e; omega
end M
set_option maxRecDepth 20000 in
set_option maxHeartbeats 4000000 in
theorem impl_play (n : Int) (v : Value) (l : Lsts) (w : World) (hv : LstsOf w v l) (hl : LenL l) :
    Calls Try.prog 21 #[.int .i64 n, v] w fun e w' => AnsP w w' e (plQ n l) (plD n l) (plB n l) ∧ Below w.heap.size w w' := by
  obtain ⟨a, c, rfl⟩ := hv.form
  have HV := hide hv
  have HL := hide hl.2
  have hlen := hl.1
  unfold maxLen at hlen
  have hal := (Below.refl w.heap.size w).alloc (Nat.le_refl _) (.cells #[.int .i64 0, .slice none 0 0, .int .i64 0, .slice none 0 0, .slice none 0 0] 32)
  have HR0 := hide (newW5 w (.int .i64 0) (.slice none 0 0) (.int .i64 0) (.slice none 0 0) (.slice none 0 0) 32)
  clear hv hl
  cases hp : plB n l
  · have HEQ := hide (show plQ n l = qu0 ∧ plD n l = [] by unfold plQ plD; rw [hp]; exact ⟨rfl, rfl⟩)
    have HPB := hide hp
    obtain ⟨b, hb⟩ : ∃ b, inB n 1 10 = b := ⟨_, rfl⟩
    obtain ⟨nq, hnq⟩ : ∃ r, newO n = r := ⟨_, rfl⟩
    have HNB := hide (And.intro hnq hb)
    have HB2 := hide (show b = true → 200 < l.length by
      intro e
      unfold plB at hp
      rw [hb, e, Bool.true_and] at hp
      have := of_decide_eq_false hp
      omega)
    clear hp hnq hb
    go_enter Try.func21, Try.ntmps21
    go_wp2_with fail
    refine (impl_new n _).mono ?_
    rw [HNB.out.1, HNB.out.2]
    rintro e w1 ⟨rfl, hb1⟩
    have hdq := (Below.refl w1.heap.size w1).alloc (Nat.le_refl _) (.cells (qarr (.slice none 0 0) (.slice none 0 0) (.slice none 0 0) nq) 32)
    have HR := hide ((HR0.out.down hb1).down hdq)
    have h01 := hal.trans (hb1.mono hal.size)
    have hlo := h01.trans (hdq.mono h01.size)
    obtain ⟨⟨e0, e1, e2, e3, e4⟩, f0, f1, f2, f3, f4⟩ := HR.out.pen
    have hz := (((((HR.out.pen0 (.int .i64 0)).pen1 (.slice none 0 0)).pen2 (.int .i64 0)).pen3 (.slice none 0 0)).pen4 (.slice none 0 0))
    have hbz := hide (((((hlo.setCell (p := ⟨w.heap.size, 0, none⟩) (Nat.le_refl _) (.int .i64 0)).setCell (p := ⟨w.heap.size, 1, none⟩) (Nat.le_refl _) (.slice none 0 0)).setCell (p := ⟨w.heap.size, 2, none⟩) (Nat.le_refl _) (.int .i64 0)).setCell (p := ⟨w.heap.size, 3, none⟩) (Nat.le_refl _) (.slice none 0 0)).setCell (p := ⟨w.heap.size, 4, none⟩) (Nat.le_refl _) (.slice none 0 0))
    obtain ⟨⟨g0, g1, g2, g3, g4⟩, -⟩ := hz.pen
    clear hz hb1 hal h01 hlo hdq HR HR0
    cases b
    · go_wp2
      exact bodyPost_ret (v := .tuple #[qv (.slice none 0 0) (.slice none 0 0) (.slice none 0 0) qu0, .slice none 0 0, .bool false]) (by simp [results, Try.results21, go_sem, qu0, g0, g1, g2, g3, g4]) rfl ⟨by rw [HEQ.out.1, HEQ.out.2]; exact AnsP.zero _ _, hbz.out⟩
    · have h2 := HB2.out rfl
      have hd2 : decide ((200 : Int) < (l.length : Int)) = true := decide_eq_true (by omega)
      have hd3 : decide (200 < l.length) = true := decide_eq_true (by omega)
      have hd4 : decide ((l.length : Int) > 200) = true := decide_eq_true (by omega)
      go_wp2
      exact bodyPost_ret (v := .tuple #[qv (.slice none 0 0) (.slice none 0 0) (.slice none 0 0) qu0, .slice none 0 0, .bool false]) (by simp [results, Try.results21, go_sem, qu0, g0, g1, g2, g3, g4]) rfl ⟨by rw [HEQ.out.1, HEQ.out.2]; exact AnsP.zero _ _, hbz.out⟩
  · have hin : inB n 1 10 = true := by unfold plB at hp; rw [Bool.and_eq_true] at hp; exact hp.1
    have hl2 : l.length ≤ 200 := by unfold plB at hp; rw [Bool.and_eq_true] at hp; exact of_decide_eq_true hp.2
    have HG := hide (good_new ((inB_iff _ _ _).1 hin).1 ((inB_iff _ _ _).1 hin).2)
    have HNQ := hide (show newO n = newQ n by unfold newO; rw [hin]; rfl)
    have HEQ := hide (show plQ n l = (ply (newQ n) l).1 ∧ plD n l = (ply (newQ n) l).2 by unfold plQ plD; rw [hp]; exact ⟨rfl, rfl⟩)
    have hd2 : decide ((200 : Int) < (l.length : Int)) = false := decide_eq_false (by omega)
    have hd3 : decide (200 < l.length) = false := decide_eq_false (by omega)
    have hd4 : decide ((l.length : Int) > 200) = false := decide_eq_false (by omega)
    have HIN := hide hin
    clear hp hin
    go_enter Try.func21, Try.ntmps21
    go_wp2_with fail
    refine (impl_new n _).mono ?_
    rw [HNQ.out, HIN.out]
    rintro e w1 ⟨rfl, hb1⟩
    have HPQ := hide (PQ.new (q := newQ n) (AnsQ.nil w1 (w.heap.size + 1) w1.heap.size) (by have := hb1.size; rw [World.size_alloc] at this; exact this))
    have HP := hide (show PL w (w1.alloc (.cells (qarr (.slice none 0 0) (.slice none 0 0) (.slice none 0 0) (newQ n)) 32)) w1.heap.size (.slice none 0 0) (.slice none 0 0) (.slice none 0 0) (.slice none 0 0) (newQ n) [] from by
      have hd := (Below.refl w1.heap.size w1).alloc (Nat.le_refl _) (.cells (qarr (.slice none 0 0) (.slice none 0 0) (.slice none 0 0) (newQ n)) 32)
      have h01 := hal.trans (hb1.mono hal.size)
      exact ⟨h01.trans (hd.mono h01.size), (HR0.out.down hb1).down hd, HPQ.out, OB.nil _ _, fun k e => by cases e⟩)
    clear hb1 HPQ HR0 hal
    go_wp2
    obtain ⟨Wn, hWn⟩ : ∃ Wn, w1.alloc (.cells (qarr (.slice none 0 0) (.slice none 0 0) (.slice none 0 0) (newQ n)) 32) = Wn := ⟨_, rfl⟩
    go_loopw [9, 27] (fun x i wr => ∃ (k : Nat) (q : Qu) (v1 v3 v4 : Value) (xa : Option Addr) (xn xc : Nat), k ≤ l.length ∧ i = .int .i64 k ∧ x = .slice xa xn xc ∧ Hid (q = (ply (newQ n) (l.take k)).1) ∧ Hid (PL w wr w1.heap.size v1 v3 v4 (.slice xa xn xc) q (ply (newQ n) (l.take k)).2)) (fun _ i _ => l.length - (intOf i).toNat)
    case atStart => exact ⟨0, newQ n, _, _, _, none, 0, 0, Nat.zero_le _, rfl, rfl, hide rfl, HP⟩
    case round =>
      obtain ⟨k, q, v1, v3, v4, xa, xn, xc, hk, rfl, rfl, HQ, HPr⟩ := hrel
      clear HP
      by_cases hlt : k < l.length
      · obtain ⟨s, hs⟩ : ∃ s, l[k]? = some s := ⟨l[k], List.getElem?_eq_getElem hlt⟩
        have HS := hide hs
        have HX := hide (HL.out s (List.mem_of_getElem? hs))
        obtain ⟨a', c', he, hr⟩ := HV.out
        simp only [Value.slice.injEq, true_and] at he
        obtain ⟨rfl, rfl⟩ := he
        obtain ⟨b, off, rfl, hb, hrow⟩ := hr (by omega)
        obtain ⟨c0, c1, c2⟩ := (hrow k s hs).below HPr.out.low hb
        have HP2 := hide (HPr.out.down ((Below.refl wr.heap.size wr).alloc (Nat.le_refl _) (.cells #[.int .i64 s.kind, .int .i64 s.k, .string s.tx] 36)))
        have HGq := hide (show GoodQ q from by rw [HQ.out]; exact good_ply _ _ HG.out)
        have hsz : w.heap.size + 1 ≤ (wr.alloc (.cells #[.int .i64 s.kind, .int .i64 s.k, .string s.tx] 36)).heap.size := Nat.le_trans HP2.out.pq.lo (Nat.le_of_lt HP2.out.pq.box.lt)
        obtain ⟨bs, hbs⟩ : ∃ bs, (ply (newQ n) (l.take k)).2 = bs := ⟨_, rfl⟩
        have hbl : bs.length ≤ 1048576 := by rw [← hbs, ply_len, List.length_take]; omega
        obtain ⟨r, hr⟩ : ∃ r, (stp q s).getD q = r := ⟨_, rfl⟩
        obtain ⟨d, hd⟩ : ∃ d, (stp q s).isSome = d := ⟨_, rfl⟩
        have HR := hide (show (ply (newQ n) (l.take (k + 1))).1 = r ∧ (ply (newQ n) (l.take (k + 1))).2 = bs ++ [d] from by
          rw [take_snocL hs, (ply_is _ _ _).1, (ply_is _ _ _).2, ← HQ.out, hr, hd, hbs]; exact ⟨rfl, rfl⟩)
        have HD := hide (And.intro hr hd)
        rw [hbs] at HP2
        clear hs hrow hr hd hbs HPr HQ
        go_wp2_with fail
        refine (do_step (w.heap.size + 1) w1.heap.size v1 v3 v4 q s _ HP2.out.pq hsz HGq.out HX.out).mono ?_
        rintro e w3 ⟨rfl, u1, u3, u4, hPq, hMv⟩
        rw [HD.out.1] at hPq
        rw [HD.out.2]
        have HP3 := hide (HP2.out.step hPq hMv)
        clear HP2 hPq hMv c0 c1 c2 HGq hsz
        go_wp2_with (at_builtin; have hal3 := (Below.refl w3.heap.size w3).alloc (Nat.le_refl _) (.cells #[.bool d] 4); have HP4 := hide (HP3.out.down hal3); have HU3 := hide (show (w3.alloc (.cells #[.bool d] 4)).cell? ⟨w3.heap.size, 0, none⟩ = some (.bool d) from by simp); refine wpList_appBl _ rfl _ _ rfl (w.heap.size + 1) bs d _ rfl HP4.out.ob _ 1 rfl HU3.out hbl (Nat.le_trans HP4.out.pq.lo (Nat.le_of_lt HP4.out.pq.box.lt)) ?_; intro a4 n4 c4 w4 hO4 hg4 hy4; have HP5 := hide (HP4.out.more hO4 hg4 hy4); clear hO4 hg4 hy4 HP3 HP4 HU3 hal3)
        go_roundw
        case rel => exact ⟨k + 1, r, u1, u3, u4, a4, n4, c4, by omega, by go_num, rfl, hide HR.out.1.symm, by rw [HR.out.2]; exact HP5⟩
        case measure => simp [intOf]; omega
      · obtain rfl : k = l.length := by omega
        rw [List.take_length] at HQ HPr
        obtain ⟨m1, k1, e1⟩ := HPr.out.pq.o1.form
        obtain ⟨m3, k3, e3⟩ := HPr.out.pq.o3.form
        obtain ⟨m4, k4, e4⟩ := HPr.out.pq.o4.form
        subst e1 e3 e4
        obtain ⟨WZ, hWZ⟩ : ∃ WZ, ((((wr.setCell ⟨w.heap.size, 0, none⟩ (.int .i64 q.win)).setCell ⟨w.heap.size, 1, none⟩ (.slice m1 q.sent.length k1)).setCell ⟨w.heap.size, 2, none⟩ (.int .i64 q.base)).setCell ⟨w.heap.size, 3, none⟩ (.slice m3 q.got.length k3)).setCell ⟨w.heap.size, 4, none⟩ (.slice m4 q.line.length k4) = WZ := ⟨_, rfl⟩
        obtain ⟨j1, j2, j3⟩ := putW5 HPr.out.res HPr.out.low (Nat.le_refl _) _ _ _ _ _ WZ hWZ
        have HF := hide (HPr.out.fin j3)
        obtain ⟨⟨y0, y1, y2, y3, y4⟩, -⟩ := HPr.out.pq.box.pen
        obtain ⟨⟨e0, e1, e2, e3, e4⟩, f0, f1, f2, f3, f4⟩ := HPr.out.res.pen
        have HJ := hide (And.intro j1 j2)
        have HWZ := hide hWZ
        clear j1 j2 j3 hWZ HPr
        go_wp2
        rw [HWZ.out]
        clear e0 e1 e2 e3 e4 f0 f1 f2 f3 f4
        obtain ⟨⟨e0, e1, e2, e3, e4⟩, -⟩ := HJ.out.1.pen
        exact bodyPost_ret (v := .tuple #[qv (.slice m1 q.sent.length k1) (.slice m3 q.got.length k3) (.slice m4 q.line.length k4) q, .slice xa xn xc, .bool true]) (by simp [results, Try.results21, go_sem, e0, e1, e2, e3, e4]) rfl ⟨by
          rw [HEQ.out.1, HEQ.out.2, ← HQ.out]; exact ⟨_, _, _, _, rfl, HF.out.1, HF.out.2.1, HF.out.2.2⟩, HJ.out.2⟩
end Go.Proofs.Ytfjdbenbiakbbaa

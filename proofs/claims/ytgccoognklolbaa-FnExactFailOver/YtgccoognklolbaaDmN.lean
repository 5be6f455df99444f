/-
  Words of domains put together one by one, in the program's text: a copy of a domain, which of two is the newer one, one domain put among others, all of some words.
-/
import Derived.Test.YtgccoognklolbaaDmB
import Derived.Test.YtgccoognklolbaaDmI
import Derived.Test.YtgccoognklolbaaSgRp
import Derived.Deep.RegionHeld
namespace Go.Proofs.Ytgccoognklolbaa
open Go.RowKit M
open Go.Sort (grow alloc_eq_grow grow_grow drew_grow)
theorem clone_s (s : ByteArray) (w : World) (hlim : s.size ≤ 281474976710656) :
    Calls Try.prog 75 #[.string s] w fun e w' => e = .returned (.string s) ∧ Below w.heap.size w w' := by
  go_enter Try.func75, Try.ntmps75
  go_wp2_with (go_at_call 81; refine (Try.stringslite_Clone _ _ hlim).mono ?_; rintro e w1 ⟨rfl, hb1⟩)
  go_ret
  exact ⟨rfl, hb1⟩
set_option maxRecDepth 20000 in
set_option maxHeartbeats 2000000 in
theorem copy_dom (d : Dm) (w : World) (hs : d.nm.size ≤ 281474976710656) (ht : d.nt.size ≤ 281474976710656) :
    Calls Try.prog 70 #[d.v] w fun e w' => e = .returned d.v ∧ Below w.heap.size w w' := by
  obtain ⟨W0, hW0⟩ : ∃ W0, (w.alloc (.cells #[.string d.nm, .int .i64 d.ver, .string d.nt] 58)).alloc (.cells #[.string ⟨#[]⟩, .int .i64 0, .string ⟨#[]⟩] 58) = W0 := ⟨_, rfl⟩
  obtain ⟨p, hp⟩ : ∃ p, w.heap.size = p := ⟨_, rfl⟩
  have hA : BX w W0 p d := by
    rw [← hW0, ← hp]; exact (BX.new w d).down ((Below.refl _ _).alloc (Nat.le_refl _) _)
  have hR : Blk W0 (p + 1) 3 (qd d0) 58 := by
    have := new3 (w.alloc (.cells #[.string d.nm, .int .i64 d.ver, .string d.nt] 58)) (.string ⟨#[]⟩) (.int .i64 0) (.string ⟨#[]⟩) 58
    rw [World.size_alloc, hp, hW0] at this
    exact this
  obtain ⟨a0, a1, a2⟩ := hA.cells
  have k0 := cell_regrown a0
  have k1 := cell_regrown a1
  have k2 := cell_regrown a2
  have HR := hide (And.intro hA hR)
  have HE1 := hide (show ∀ q os, Calls Try.prog 75 #[.string d.nm] (grow (redrawn W0 q) os) fun e w'' => e = .returned (.string d.nm) ∧ ∃ p : Regrown, w'' = grow (redrawn W0 p.d) p.os from fun q os => Calls.regrown_of (clone_s d.nm _ hs))
  have HE2 := hide (show ∀ q os, Calls Try.prog 75 #[.string d.nt] (grow (redrawn W0 q) os) fun e w'' => e = .returned (.string d.nt) ∧ ∃ p : Regrown, w'' = grow (redrawn W0 p.d) p.os from fun q os => Calls.regrown_of (clone_s d.nt _ ht))
  have HW := hide hW0
  have HP := hide hp
  clear hW0 hp hA hR a0 a1 a2 hs ht
  go_enter Try.func70, Try.ntmps70
  go_wp2
  rw [HW.out, HP.out]
  refine region_lastP rfl (by kernel_rfl) (by kernel_rfl) rfl (by kernel_rfl) ?_
  simp only [still, noop, List.dropLast, List.getLast?_cons_cons, List.getLast?_singleton, Option.map_some, Option.toList_some, List.cons_append, List.nil_append, List.getLast_cons_cons, List.getLast_singleton]
  repeat (go_big_quiet_step (first | exact HE1.out _ _ | exact HE2.out _ _))
  refine wpQuiet_nil ?_
  rintro _ ⟨⟨dq, osq⟩, rfl⟩
  have hA := HR.out.1.down (below_regrown W0 dq osq)
  have hR := HR.out.2.down (below_regrown W0 dq osq)
  obtain ⟨W1, hW1⟩ : ∃ W1, grow (redrawn W0 dq) osq = W1 := ⟨_, rfl⟩
  rw [hW1] at hA hR ⊢
  clear hW1 HR HE1 HE2 k0 k1 k2
  obtain ⟨⟨c0, c1, c2⟩, f0, f1, f2⟩ := hR.tri
  obtain ⟨W2, hW2⟩ : ∃ W2, ((W1.setCell ⟨p + 1, 0, none⟩ (.string d.nm)).setCell ⟨p + 1, 1, none⟩ (.int .i64 d.ver)).setCell ⟨p + 1, 2, none⟩ (.string d.nt) = W2 := ⟨_, rfl⟩
  have HZ := hide (show Blk W2 (p + 1) 3 (qd d) 58 ∧ Below w.heap.size w W2 from by
    rw [← hW2]
    have h1 := hA.low
    rw [HP.out] at h1 ⊢
    exact ⟨hR.put3 _ _ _, ((h1.setCell (p := ⟨p + 1, 0, none⟩) (Nat.le_succ p) _).setCell (p := ⟨p + 1, 1, none⟩) (Nat.le_succ p) _).setCell (p := ⟨p + 1, 2, none⟩) (Nat.le_succ p) _⟩)
  have HWZ := hide hW2
  clear hA hR hW2
  go_wp2
  rw [HWZ.out]
  obtain ⟨⟨e0, e1, e2⟩, -⟩ := HZ.out.1.tri
  exact bodyPost_ret (v := d.v) (by simp [results, Try.results70, go_sem, e0, e1, e2]) rfl ⟨rfl, HZ.out.2⟩
set_option maxHeartbeats 1000000 in
theorem cmp_or (b : Nat) (x y : Int) (W : World) (c0 : W.cell? ⟨b, 0, none⟩ = some (.int .i64 x)) (c1 : W.cell? ⟨b, 1, none⟩ = some (.int .i64 y)) :
    Calls Try.prog 78 #[.slice (some ⟨b, 0, none⟩) 2 2] W fun e w' => e = .returned (.int .i64 (if x = 0 then y else x)) ∧ w' = W := by
  go_enter Try.func78, Try.ntmps78
  go_wp2
  refine wp_loop_rounds 3 ?_
  rw [rounds_succ]
  by_cases hx : x = 0
  · subst hx
    go_wp2
    rw [rounds_succ]
    by_cases hy : y = 0
    · subst hy
      go_wp2
      rw [rounds_succ]
      go_wp2
      go_ret
      exact ⟨rfl, rfl⟩
    · have hy' : (y != 0) = true := by simpa using hy
      go_wp2
      go_ret
      exact ⟨rfl, rfl⟩
  · have hx' : (x != 0) = true := by simpa using hx
    go_wp2
    go_ret
    exact ⟨rfl, rfl⟩
namespace M
def byN (x y : Dm) : Int := if Lib.compareInt x.ver y.ver = 0 then cmpS x.nt y.nt else Lib.compareInt x.ver y.ver
theorem ci_lt {a b : Int} (h : a < b) : Lib.compareInt a b = -1 := by unfold Lib.compareInt; rw [if_pos h]
theorem ci_eq {a b : Int} (h : a = b) : Lib.compareInt a b = 0 := by unfold Lib.compareInt; rw [if_neg (by omega), if_neg (by omega)]
theorem ci_gt {a b : Int} (h : b < a) : Lib.compareInt a b = 1 := by unfold Lib.compareInt; rw [if_neg (by omega), if_pos h]
theorem byN_lt (x y : Dm) : byN x y < 0 ↔ lsD x y = true := by
  rw [lsD_iff]
  unfold byN
  rcases (show x.ver < y.ver ∨ x.ver = y.ver ∨ y.ver < x.ver by omega) with c | c | c
  · rw [ci_lt c, if_neg (by omega)]
    exact ⟨fun _ => .inl c, fun _ => by omega⟩
  · rw [ci_eq c, if_pos rfl, cmpS_lt]
    exact ⟨fun h => .inr ⟨c, h⟩, fun h => by
      rcases h with h | ⟨_, h⟩
      · omega
      · exact h⟩
  · rw [ci_gt c, if_neg (by omega)]
    exact ⟨fun h => by omega, fun h => by
      rcases h with h | ⟨h, _⟩ <;> omega⟩
theorem two_new (X : World) (a b : Value) (t : TypeId) : (X.alloc (.cells #[a, b] t)).cell? ⟨X.heap.size, 0, none⟩ = some a ∧ (X.alloc (.cells #[a, b] t)).cell? ⟨X.heap.size, 1, none⟩ = some b := ⟨by simp, by simp⟩
end M
set_option maxRecDepth 20000 in
set_option maxHeartbeats 2000000 in
theorem by_news (x y : Dm) (w : World) :
    Calls Try.prog 73 #[x.v, y.v] w fun e w' => e = .returned (.int .i64 (byN x y)) ∧ Below w.heap.size w w' := by
  have h1 := fun W' => Try.cmp_Compare_int x.ver y.ver W'
  have h2 := fun W' => Try.strings_Compare x.nt y.nt W'
  have hr : byN x y = if Lib.compareInt x.ver y.ver = 0 then Lib.compareBytes x.nt.data.toList y.nt.data.toList else Lib.compareInt x.ver y.ver := rfl
  rw [hr]
  clear hr
  generalize Lib.compareInt x.ver y.ver = r1 at *
  generalize Lib.compareBytes x.nt.data.toList y.nt.data.toList = r2 at *
  obtain ⟨r3, hr3⟩ : ∃ r3, (if r1 = 0 then r2 else r1) = r3 := ⟨_, rfl⟩
  have HO := hide (fun X : World => cmp_or X.heap.size r1 r2 _ (two_new X (.int .i64 r1) (.int .i64 r2) 3).1 (two_new X (.int .i64 r1) (.int .i64 r2) 3).2)
  rw [hr3] at HO
  rw [hr3]
  clear hr3
  have H1 := hide h1
  have H2 := hide h2
  clear h1 h2
  obtain ⟨W2, hW2⟩ : ∃ W2, (w.alloc (.cells #[.string x.nm, .int .i64 x.ver, .string x.nt] 58)).alloc (.cells #[.string y.nm, .int .i64 y.ver, .string y.nt] 58) = W2 := ⟨_, rfl⟩
  obtain ⟨p, hp⟩ : ∃ p, w.heap.size = p := ⟨_, rfl⟩
  have hX : Blk W2 p 3 (qd x) 58 := by rw [← hW2, ← hp]; exact (new3 w _ _ _ _).alloc _
  have hY : Blk W2 (p + 1) 3 (qd y) 58 := by
    have := new3 (w.alloc (.cells #[.string x.nm, .int .i64 x.ver, .string x.nt] 58)) (.string y.nm) (.int .i64 y.ver) (.string y.nt) 58
    rw [World.size_alloc, hp, hW2] at this
    exact this
  have hlow : Below w.heap.size w W2 := by rw [← hW2]; exact ((Below.refl _ w).alloc (Nat.le_refl _) _).alloc (by simp) _
  have hS : ∀ W, Below W2.heap.size W2 W → W.cell? ⟨p, 1, none⟩ = some (.int .i64 x.ver) ∧ W.cell? ⟨p, 2, none⟩ = some (.string x.nt) ∧ W.cell? ⟨p + 1, 1, none⟩ = some (.int .i64 y.ver) ∧ W.cell? ⟨p + 1, 2, none⟩ = some (.string y.nt) := fun W hb => by
    obtain ⟨⟨_, b1, b2⟩, _⟩ := (hX.down hb).tri
    obtain ⟨⟨_, d1, d2⟩, _⟩ := (hY.down hb).tri
    exact ⟨b1, b2, d1, d2⟩
  have HSa := hide (fun o => hS (W2.drew.alloc o) ((Below.refl W2.heap.size W2).drew.alloc (Nat.le_refl _) o))
  have HS2 := hide (hS W2.drew (Below.refl W2.heap.size W2).drew)
  have HLOW := hide (fun o => hlow.trans (((Below.refl W2.heap.size W2).drew.alloc (Nat.le_refl _) o).mono hlow.size))
  have HO2 := hide (show Calls Try.prog 78 #[.slice (some ⟨W2.heap.size, 0, none⟩) 2 2] (W2.drew.alloc (.cells #[.int .i64 r1, .int .i64 r2] 3)) fun e w' => e = .returned (.int .i64 r3) ∧ w' = W2.drew.alloc (.cells #[.int .i64 r1, .int .i64 r2] 3) from HO.out W2.drew)
  have HW := hide hW2
  have HP := hide hp
  clear HO hW2 hp hX hY hlow hS
  go_enter Try.func73, Try.ntmps73
  go_wp2_with fail
  rw [HW.out, HP.out]
  clear HW HP
  go_region_held (fun w' => w'.cell? ⟨p, 1, none⟩ = some (.int .i64 x.ver) ∧ w'.cell? ⟨p, 2, none⟩ = some (.string x.nt) ∧ w'.cell? ⟨p + 1, 1, none⟩ = some (.int .i64 y.ver) ∧ w'.cell? ⟨p + 1, 2, none⟩ = some (.string y.nt)) (first | exact HS2.out | exact HSa.out _) (first
    | (go_at_call 79; refine (H1.out _).mono ?_; rintro e w' ⟨rfl, rfl⟩)
    | (go_at_call 69; refine (H2.out _).mono ?_; rintro e w' ⟨rfl, rfl⟩)
    | (go_at_call 78; refine HO2.out.mono ?_; rintro e w' ⟨rfl, rfl⟩))
  all_goals
    go_wp2
    go_ret
    exact ⟨rfl, HLOW.out _⟩
set_option maxRecDepth 20000 in
set_option maxHeartbeats 2000000 in
theorem greater_of (x y : Dm) (w : World) :
    Calls Try.prog 72 #[x.v, y.v, .func (.func 73) #[] #[]] w fun e w' => e = .returned (nw x y).v ∧ Below w.heap.size w w' := by
  obtain ⟨W3, hW3⟩ : ∃ W3, ((w.alloc (.cells #[.string x.nm, .int .i64 x.ver, .string x.nt] 58)).alloc (.cells #[.string y.nm, .int .i64 y.ver, .string y.nt] 58)).alloc (.cells #[.string ⟨#[]⟩, .int .i64 0, .string ⟨#[]⟩] 58) = W3 := ⟨_, rfl⟩
  obtain ⟨p, hp⟩ : ∃ p, w.heap.size = p := ⟨_, rfl⟩
  have hX : Blk W3 p 3 (qd x) 58 := by rw [← hW3, ← hp]; exact ((new3 w _ _ _ _).alloc _).alloc _
  have hY : Blk W3 (p + 1) 3 (qd y) 58 := by
    have := (new3 (w.alloc (.cells #[.string x.nm, .int .i64 x.ver, .string x.nt] 58)) (.string y.nm) (.int .i64 y.ver) (.string y.nt) 58).alloc (.cells #[.string ⟨#[]⟩, .int .i64 0, .string ⟨#[]⟩] 58)
    rw [World.size_alloc, hp, hW3] at this
    exact this
  have hZ : Blk W3 (p + 2) 3 (qd d0) 58 := by
    have := new3 ((w.alloc (.cells #[.string x.nm, .int .i64 x.ver, .string x.nt] 58)).alloc (.cells #[.string y.nm, .int .i64 y.ver, .string y.nt] 58)) (.string ⟨#[]⟩) (.int .i64 0) (.string ⟨#[]⟩) 58
    rw [World.size_alloc, World.size_alloc, hp, hW3] at this
    exact this
  have hlow : Below w.heap.size w W3 := by rw [← hW3]; exact (((Below.refl _ w).alloc (Nat.le_refl _) _).alloc (by simp) _).alloc (by simp; omega) _
  obtain ⟨⟨a0, a1, a2⟩, -⟩ := hX.tri
  obtain ⟨⟨b0, b1, b2⟩, -⟩ := hY.tri
  have HB := hide (And.intro hX (And.intro hY (And.intro hZ hlow)))
  have HN := hide (fun W => by_news x y W)
  have HL := hide (byN_lt x y)
  have HW := hide hW3
  have HP := hide hp
  clear hW3 hp hX hY hZ hlow
  go_enter Try.func72, Try.ntmps72
  go_wp2_with fail
  rw [HW.out, HP.out]
  refine (HN.out _).mono ?_
  rintro e w1 ⟨rfl, hb1⟩
  have hX := HB.out.1.down hb1
  have hY := HB.out.2.1.down hb1
  have hZ := HB.out.2.2.1.down hb1
  have hlow := HB.out.2.2.2.trans (hb1.mono HB.out.2.2.2.size)
  clear a0 a1 a2 b0 b1 b2 hb1 HB HW HN
  obtain ⟨⟨a0, a1, a2⟩, -⟩ := hX.tri
  obtain ⟨⟨b0, b1, b2⟩, -⟩ := hY.tri
  obtain ⟨⟨c0, c1, c2⟩, f0, f1, f2⟩ := hZ.tri
  have HZ := hide (fun (z : Dm) => show Blk (((w1.setCell ⟨p + 2, 0, none⟩ (.string z.nm)).setCell ⟨p + 2, 1, none⟩ (.int .i64 z.ver)).setCell ⟨p + 2, 2, none⟩ (.string z.nt)) (p + 2) 3 (qd z) 58 ∧ Below w.heap.size w (((w1.setCell ⟨p + 2, 0, none⟩ (.string z.nm)).setCell ⟨p + 2, 1, none⟩ (.int .i64 z.ver)).setCell ⟨p + 2, 2, none⟩ (.string z.nt)) from by
    have h1 := hlow
    rw [HP.out] at h1 ⊢
    exact ⟨hZ.put3 _ _ _, ((h1.setCell (p := ⟨p + 2, 0, none⟩) (by simp) _).setCell (p := ⟨p + 2, 1, none⟩) (by simp) _).setCell (p := ⟨p + 2, 2, none⟩) (by simp) _⟩)
  clear hX hY hZ hlow
  generalize byN x y = r at *
  by_cases hr : r < 0
  · have hnw : nw x y = y := by unfold nw; rw [if_pos (HL.out.1 hr)]
    have HNW := hide hnw
    have HQ := hide (HZ.out y)
    obtain ⟨W2, hW2⟩ : ∃ W2, ((w1.setCell ⟨p + 2, 0, none⟩ (.string y.nm)).setCell ⟨p + 2, 1, none⟩ (.int .i64 y.ver)).setCell ⟨p + 2, 2, none⟩ (.string y.nt) = W2 := ⟨_, rfl⟩
    rw [hW2] at HQ
    have HWZ := hide hW2
    clear hW2 hnw HL HZ
    go_wp2
    rw [HWZ.out]
    obtain ⟨⟨e0, e1, e2⟩, -⟩ := HQ.out.1.tri
    exact bodyPost_ret (v := y.v) (by simp [results, Try.results72, go_sem, e0, e1, e2]) rfl ⟨by rw [HNW.out], HQ.out.2⟩
  · have hnw : nw x y = x := by unfold nw; rw [if_neg (fun h => hr (HL.out.2 h))]
    have HNW := hide hnw
    have HQ := hide (HZ.out x)
    obtain ⟨W2, hW2⟩ : ∃ W2, ((w1.setCell ⟨p + 2, 0, none⟩ (.string x.nm)).setCell ⟨p + 2, 1, none⟩ (.int .i64 x.ver)).setCell ⟨p + 2, 2, none⟩ (.string x.nt) = W2 := ⟨_, rfl⟩
    rw [hW2] at HQ
    have HWZ := hide hW2
    clear hW2 hnw HL HZ
    go_wp2
    rw [HWZ.out]
    obtain ⟨⟨e0, e1, e2⟩, -⟩ := HQ.out.1.tri
    exact bodyPost_ret (v := x.v) (by simp [results, Try.results72, go_sem, e0, e1, e2]) rfl ⟨by rw [HNW.out], HQ.out.2⟩
namespace M
/-- While one domain is put among others: the row, and the domain in a box. -/
structure PX (w W : World) (B p : Nat) (v : Value) (l : Dms) (d : Dm) : Prop where
  low : Below w.heap.size w W
  own : OwnD W B v l
  box : Blk W p 3 (qd d) 58
  at_ : w.heap.size ≤ p
  lt : ∀ g, v.ownBlock = some g → g < p
theorem PX.down {w W W' : World} {B p : Nat} {v : Value} {l : Dms} {d : Dm} (h : PX w W B p v l d) (hb : Below W.heap.size W W') : PX w W' B p v l d :=
  ⟨h.low.trans (hb.mono h.low.size), h.own.down hb, h.box.down hb, h.at_, h.lt⟩
theorem PX.new {w : World} {B : Nat} {v : Value} {l : Dms} (h : OwnD w B v l) (d : Dm) : PX w (w.alloc (.cells #[.string d.nm, .int .i64 d.ver, .string d.nt] 58)) B w.heap.size v l d :=
  ⟨(Below.refl _ w).alloc (Nat.le_refl _) _, h.alloc _, new3 w _ _ _ _, Nat.le_refl _, fun _ hg => (h.lt hg).2⟩
theorem PX.put {w W : World} {B p : Nat} {v : Value} {l : Dms} {d : Dm} (h : PX w W B p v l d) (e : Dm) : PX w (((W.setCell ⟨p, 0, none⟩ (.string e.nm)).setCell ⟨p, 1, none⟩ (.int .i64 e.ver)).setCell ⟨p, 2, none⟩ (.string e.nt)) B p v l e := by
  have hg : W.grownBy (((W.setCell ⟨p, 0, none⟩ (.string e.nm)).setCell ⟨p, 1, none⟩ (.int .i64 e.ver)).setCell ⟨p, 2, none⟩ (.string e.nt)) (some p) := gbT_set (gbT_set (gbT_set (gbT_refl W (some p))))
  refine ⟨((h.low.setCell (p := ⟨p, 0, none⟩) h.at_ _).setCell (p := ⟨p, 1, none⟩) h.at_ _).setCell (p := ⟨p, 2, none⟩) h.at_ _, h.own.other hg (fun g hg e => ?_), h.box.put3 _ _ _, h.at_, h.lt⟩
  have := h.lt g hg
  simp only [Option.some.injEq] at e
  omega
theorem ins_no {l : Dms} {d : Dm} (h : fd l d.nm = false) : ins l d = l.take (pl l d.nm) ++ d :: l.drop (pl l d.nm) := by unfold ins; rw [if_neg (by rw [h]; simp)]
theorem ins_yes {l : Dms} {d y : Dm} (h : fd l d.nm = true) (hy : l[pl l d.nm]? = some y) : ins l d = l.set (pl l d.nm) (nw y d) := by unfold ins; rw [if_pos h, hy]; rfl
end M
set_option maxRecDepth 20000 in
set_option maxHeartbeats 4000000 in
theorem put_dom (v : Value) (l : Dms) (d : Dm) (B : Nat) (w : World) (h : OwnD w B v l) (hr : Rise (nms l)) (hn : l.length ≤ 1048576) (hB : B ≤ w.heap.size) (hs : d.nm.size ≤ 281474976710656) (ht : d.nt.size ≤ 281474976710656) :
    Calls Try.prog 62 #[v, d.v] w fun e w' => (∃ a n c, e = .returned (.slice a n c) ∧ OwnD w' B (.slice a n c) (ins l d)) ∧ Below B w w' := by
  obtain ⟨a, cap, rfl⟩ := h.form
  obtain ⟨W0, hW0⟩ : ∃ W0, w.alloc (.cells #[.string d.nm, .int .i64 d.ver, .string d.nt] 58) = W0 := ⟨_, rfl⟩
  obtain ⟨p, hp⟩ : ∃ p, w.heap.size = p := ⟨_, rfl⟩
  have HX0 := hide (show PX w W0 B p (.slice a l.length cap) l d from by rw [← hW0, ← hp]; exact PX.new h d)
  obtain ⟨⟨a0, a1, a2⟩, -⟩ := HX0.out.box.tri
  have HR := hide hr
  have HS := hide (And.intro hs ht)
  have HW := hide hW0
  have HP := hide hp
  clear hW0 hp h hr hs ht
  go_enter Try.func62, Try.ntmps62
  go_wp2_with fail
  rw [HW.out, HP.out]
  refine (copy_dom d _ HS.out.1 HS.out.2).mono ?_
  rintro e w1 ⟨rfl, hb1⟩
  have hX1 := HX0.out.down hb1
  obtain ⟨⟨c0, c1, c2⟩, f0, f1, f2⟩ := hX1.box.tri
  obtain ⟨W2, hW2⟩ : ∃ W2, ((w1.setCell ⟨p, 0, none⟩ (.string d.nm)).setCell ⟨p, 1, none⟩ (.int .i64 d.ver)).setCell ⟨p, 2, none⟩ (.string d.nt) = W2 := ⟨_, rfl⟩
  have HX2 := hide (show PX w W2 B p (.slice a l.length cap) l d from by rw [← hW2]; exact hX1.put d)
  have HW2 := hide hW2
  obtain ⟨⟨b0, -, -⟩, -⟩ := HX2.out.box.tri
  clear hX1 hW2 hb1 HX0 a0 a1 a2 HS
  go_wp2_with fail
  rw [HW2.out]
  clear HW2 c0 c1 c2 f0 f1 f2 b0
  refine (place_of _ l d.nm _ HX2.out.own.doms HR.out hn).mono ?_
  rintro e w3 ⟨rfl, hb3⟩
  have HX3 := hide (HX2.out.down hb3)
  clear hb3 HX2
  obtain ⟨⟨b0, b1, b2⟩, -⟩ := HX3.out.box.tri
  cases hf : fd l d.nm
  · have hIN := ins_no hf
    have HIN := hide hIN
    have hple := pl_le l d.nm
    clear hIN hf
    generalize pl l d.nm = k at *
    have HN := hide (show OwnD (w3.alloc (.cells #[.string d.nm, .int .i64 d.ver, .string d.nt] 58)) B (.slice a l.length cap) l ∧ Blk (w3.alloc (.cells #[.string d.nm, .int .i64 d.ver, .string d.nt] 58)) w3.heap.size 3 (qd d) 58 ∧ Below B w (w3.alloc (.cells #[.string d.nm, .int .i64 d.ver, .string d.nt] 58)) ∧ B ≤ (w3.alloc (.cells #[.string d.nm, .int .i64 d.ver, .string d.nt] 58)).heap.size ∧ (Value.slice a l.length cap).ownBlock ≠ some w3.heap.size from by
      have hl := HX3.out.low
      refine ⟨HX3.out.own.alloc _, new3 w3 _ _ _ _, (hl.mono hB).alloc (Nat.le_trans hB hl.size) _, by have := hl.size; simp; omega, fun e => ?_⟩
      have := (HX3.out.own.lt e).2
      omega)
    clear HX3
    go_wp2_with fail
    refine (ins_doms _ l k _ B d _ HN.out.1 hple hn HN.out.2.2.2.1 HN.out.2.1 HN.out.2.2.2.2).mono ?_
    rintro e w4 ⟨⟨a4, n4, c4, rfl, hO⟩, hg⟩
    have HZ := hide (show OwnD w4 B (.slice a4 n4 c4) (ins l d) ∧ Below B w w4 from ⟨by rw [HIN.out]; exact hO, HN.out.2.2.1.grown hg HN.out.2.2.2.1 (fun j hj => (HN.out.1.lt hj).1)⟩)
    clear hO hg HN HIN b0 b1 b2
    go_wp2
    go_ret
    exact ⟨⟨_, _, _, rfl, HZ.out.1⟩, HZ.out.2⟩
  · obtain ⟨y, hy, hyn⟩ := (fd_iff l d.nm).1 hf
    have HIN := hide (ins_yes hf hy)
    have hk := ltD hy
    rcases HX3.out.own.split with ⟨_, h0⟩ | ⟨g, cap', hv, hBg, hgl, -, -⟩
    · rw [h0] at hk; simp at hk
    · simp only [Value.slice.injEq, true_and] at hv
      obtain ⟨rfl, rfl⟩ := hv
      generalize pl l d.nm = k at *
      obtain ⟨k0, k1, k2⟩ := HX3.out.own.d3 hy
      have q0 := cell_regrown k0
      have q1 := cell_regrown k1
      have q2 := cell_regrown k2
      have r0 := cell_regrown b0
      have r1 := cell_regrown b1
      have r2 := cell_regrown b2
      have hi0 : (0 : Int) ≤ (k : Int) := by omega
      have hi1 : (k : Int) < (l.length : Int) := by omega
      have HE := hide (show ∀ q os, Calls Try.prog 72 #[y.v, d.v, .func (.func 73) #[] #[]] (grow (redrawn w3 q) os) fun e w'' => e = .returned (nw y d).v ∧ ∃ p : Regrown, w'' = grow (redrawn w3 p.d) p.os from fun q os => Calls.regrown_of (greater_of y d _))
      generalize hnz : nw y d = z at *
      clear hnz hy hyn hf k0 k1 k2 b0 b1 b2 HR
      go_wp2
      refine region_lastP rfl (by kernel_rfl) (by kernel_rfl) rfl (by kernel_rfl) ?_
      simp only [still, noop, List.dropLast, List.getLast?_cons_cons, List.getLast?_singleton, Option.map_some, Option.toList_some, List.cons_append, List.nil_append, List.getLast_cons_cons, List.getLast_singleton]
      repeat (go_big_quiet_step (exact HE.out _ _))
      refine wpQuiet_nil ?_
      rintro _ ⟨⟨dq, osq⟩, rfl⟩
      have hX4 := HX3.out.down (below_regrown w3 dq osq)
      obtain ⟨w4, hw4⟩ : ∃ w4, grow (redrawn w3 dq) osq = w4 := ⟨_, rfl⟩
      rw [hw4] at hX4 ⊢
      clear hw4 HX3 HE q0 q1 q2 r0 r1 r2
      have hkk : l[k]? = some l[k] := List.getElem?_eq_getElem hk
      obtain ⟨c0, c1, c2⟩ := hX4.own.d3 hkk
      have f0 := hX4.own.thaw (k * 3)
      have f1 := hX4.own.thaw (k * 3 + 1)
      have f2 := hX4.own.thaw (k * 3 + 2)
      have HZ := hide (show OwnD (((w4.setCell ⟨g, k * 3, none⟩ (.string z.nm)).setCell ⟨g, k * 3 + 1, none⟩ (.int .i64 z.ver)).setCell ⟨g, k * 3 + 2, none⟩ (.string z.nt)) B (.slice (some ⟨g, 0, none⟩) l.length cap) (ins l d) ∧ Below B w (((w4.setCell ⟨g, k * 3, none⟩ (.string z.nm)).setCell ⟨g, k * 3 + 1, none⟩ (.int .i64 z.ver)).setCell ⟨g, k * 3 + 2, none⟩ (.string z.nt)) from
        ⟨by rw [HIN.out]; exact hX4.own.set hk z, (((hX4.low.mono hB).setCell (p := ⟨g, k * 3, none⟩) hBg _).setCell (p := ⟨g, k * 3 + 1, none⟩) hBg _).setCell (p := ⟨g, k * 3 + 2, none⟩) hBg _⟩)
      clear hX4 hkk HIN
      go_wp2
      go_ret
      exact ⟨⟨_, _, _, rfl, HZ.out.1⟩, HZ.out.2⟩
end Go.Proofs.Ytgccoognklolbaa

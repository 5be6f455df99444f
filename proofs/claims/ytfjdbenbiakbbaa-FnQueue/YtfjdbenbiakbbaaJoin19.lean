/-
  Texts that follow one another, joined: Cw, QuDb.
-/
import Derived.Test.YtfjdbenbiakbbaaJoin5
import Derived.Test.YtfjdbenbiakbbaaJoin18
import Derived.Deep.CutRange
/-
  The reader of choices beside memory that grows and is written (any seat).
-/
namespace Go.Proofs.Ytfjdbenbiakbbaa
open Go.RowKit M
namespace M
theorem But.set {cb : Nat} {w W : World} (h : But cb w W) {g : Nat} (hg : w.heap.size ≤ g) (i : Nat) (v : Value) : But cb w (W.setCell ⟨g, i, none⟩ v) :=
  have hb := (Below.refl g W).setCell (p := ⟨g, i, none⟩) (Nat.le_refl _) v
  ⟨hb.os.trans h.os, hb.tape.trans h.tape, hb.output.trans h.output, by rw [World.size_setCell]; exact h.size, fun k hk hne => by rw [Below.heap_setCell _ _ _ _ (show k ≠ g by omega)]; exact h.block k hk hne⟩
theorem CurAt.set {w : World} {B cb N : Nat} (h : CurAt w B cb N) {g : Nat} (hg : g ≠ cb) (hB : B ≤ g) (i : Nat) (v : Value) : CurAt (w.setCell ⟨g, i, none⟩ v) B cb N := by
  obtain ⟨v0, n, f, t, s, ht, hn, hBc, hk, w0, h0, ho, hb0⟩ := h
  exact ⟨v0, n, f, t, s, ht, hn, hBc, hk.set_other (fun e => hg e.symm) _ _, w0, h0, ho, hb0.setCell (p := ⟨g, i, none⟩) hB _⟩
theorem CurAt.base {w : World} {B cb N : Nat} (h : CurAt w B cb N) : B ≤ cb := by
  obtain ⟨v0, n, f, t, s, ht, hn, hBc, r⟩ := h; exact hBc
theorem But.grown {cb : Nat} {w w1 w2 : World} {row : Option Nat} (h : But cb w w1) (hg : w1.grownBy w2 row) (hr : ∀ k, row = some k → w.heap.size ≤ k) : But cb w w2 :=
  ⟨hg.os.trans h.os, hg.tape.trans h.tape, hg.output.trans h.output, Nat.le_trans h.size hg.size, fun k hk hne => by
    rw [hg.block k (Nat.lt_of_lt_of_le hk h.size) (fun e => by have := hr k e.symm; omega)]; exact h.block k hk hne⟩
theorem CurAt.grown {w w' : World} {B cb N B' e s m : Nat} {v : Value} {xs : List Value} (h : CurAt w B cb N) (hown : w.ownsRow B' e s v m xs) (hlt : cb < B') (hg : w.grownBy w' v.ownBlock) : CurAt w' B cb N := by
  obtain ⟨v', n, f, t, s', ht, hn, hBc, hk, w0, h0, h1, hb0⟩ := h
  have hne : ∀ k, k < B' → some k ≠ v.ownBlock := fun k hk' e => by have := (hown.lt k e.symm).1; omega
  refine ⟨v', n, f, t, s', ht, hn, hBc, ?_, w0, h0, h1, hb0.trans ⟨hg.os, hg.tape, hg.output, hg.size, fun k hk' => ?_⟩⟩
  · unfold Blk; rw [hg.block cb hk.lt (hne cb hlt)]; exact hk
  · exact hg.block k (by have := hk.lt; omega) (hne k (by omega))
theorem own_le {w : World} {B e s n c : Nat} {a : Option Addr} {xs : List Value} (h : w.ownsRow B e s (.slice a n c) n xs) : n ≤ c := by
  rcases h.2 with ⟨hv, h0⟩ | ⟨g, cap, cur, hv, hB, hg, hc, hm, hs, ht⟩
  · omega
  · cases hv; exact hc
end M
theorem cur_picks (B cb N m : Nat) (w : World) (h : CurAt w B cb N) (hN : N < 1000000) (hm : m ≤ 65536) :
    Calls Try.prog 58 #[.pointer (some ⟨cb, 0, none⟩), .int .i64 (m : Int)] w fun e w' => (∃ x : Nat, (x < m ∨ x = 0) ∧ e = .returned (.int .i64 (x : Int))) ∧ CurAt w' B cb (N + 2) ∧ But cb w w' := by
  by_cases h2 : m ≤ 200
  · refine (cur_pick B cb N m w h (by omega) h2).mono ?_
    rintro e w' ⟨h1, h2, h3⟩
    exact ⟨h1, h2.more (by omega), h3⟩
  · refine (cur_pick2 B cb N m w h hN (by omega) hm).mono ?_
    rintro e w' ⟨⟨x, hx, he⟩, h2, h3⟩
    exact ⟨⟨x, .inl hx, he⟩, h2, h3⟩
end Go.Proofs.Ytfjdbenbiakbbaa

/-
  Line steps that are drawn.
-/
namespace Go.Proofs.Ytfjdbenbiakbbaa
open Go.RowKit M
namespace M
def tvS (f : Nat → ByteArray) : Nat → Value := fun i => .string (f i)
def tx4 : Nat → ByteArray := fun i => if i = 0 then ⟨#[97]⟩ else if i = 1 then ⟨#[98]⟩ else if i = 2 then ⟨#[116, 101, 120, 116]⟩ else ⟨#[]⟩
def kd8 : Nat → Int := fun i => if i = 0 then 1 else if i = 1 then 2 else if i = 2 then 2 else if i = 3 then 3 else if i = 4 then 3 else if i = 5 then 3 else if i = 6 then 4 else 5
theorem tx4_size (i : Nat) : (tx4 i).size ≤ 12 := by
  unfold tx4; repeat' split
  all_goals decide
theorem kd8_in (i : Nat) : 1 ≤ kd8 i ∧ kd8 i ≤ 5 := by
  unfold kd8; repeat' split
  all_goals decide
/-- Short texts. -/
def S12 (q : Lsts) : Prop := ∀ d ∈ q, d.tx.size ≤ 12
theorem S12.nil : S12 [] := fun d h => by simp at h
theorem S12.snoc {q : Lsts} {d : Lst} (h : S12 q) (h1 : d.tx.size ≤ 12) : S12 (q ++ [d]) := fun e he => by
  rcases List.mem_append.1 he with k | k
  · exact h e k
  · simp at k; subst k; exact h1
/-- While steps are drawn: the reader, what is gathered. -/
structure LD (w W : World) (B cb N : Nat) (v : Value) (q : Lsts) : Prop where
  c : CurAt W B cb N
  o : OwnL W w.heap.size v q
  b : But cb w W
  l : cb < w.heap.size
  s : S12 q
section
variable {w W W' : World} {B cb N N' g : Nat} {v v' : Value} {q q' : Lsts} {s s' : Lst}
theorem LD.draw (h : LD w W B cb N v q) (hc : CurAt W' B cb N') (hb : But cb W W') : LD w W' B cb N' v q :=
  ⟨hc, hb.owns h.o h.l, h.b.trans hb, h.l, h.s⟩
theorem LD.down (h : LD w W B cb N v q) (hb : Below W.heap.size W W') : LD w W' B cb N v q :=
  ⟨h.c.below hb, h.o.down hb, h.b.trans (But.of_below hb), h.l, h.s⟩
theorem LD.more (h : LD w W B cb N v q) (hN : N ≤ N') : LD w W B cb N' v q := ⟨h.c.more hN, h.o, h.b, h.l, h.s⟩
theorem LD.app (h : LD w W B cb N v q) (hg : W.grownBy W' v.ownBlock) (ho : OwnL W' w.heap.size v' q') (hs : S12 q') : LD w W' B cb N v' q' :=
  ⟨h.c.grown h.o h.l hg, ho, h.b.grown hg (fun _ hk => (h.o.lt hk).1), h.l, hs⟩
theorem Blk.l0 {t : TypeId} (h : Blk W g 3 (ql s) t) (x : Int) : Blk (W.setCell ⟨g, 0, none⟩ (.int .i64 x)) g 3 (ql { s with kind := x }) t := (h.set 0 _).ext fun i hi => by
  rcases (show i = 0 ∨ i = 1 ∨ i = 2 by omega) with e | e | e
  · subst e; rfl
  · subst e; rfl
  · subst e; rfl
theorem Blk.l1 {t : TypeId} (h : Blk W g 3 (ql s) t) (x : Int) : Blk (W.setCell ⟨g, 1, none⟩ (.int .i64 x)) g 3 (ql { s with k := x }) t := (h.set 1 _).ext fun i hi => by
  rcases (show i = 0 ∨ i = 1 ∨ i = 2 by omega) with e | e | e
  · subst e; rfl
  · subst e; rfl
  · subst e; rfl
theorem Blk.l2 {t : TypeId} (h : Blk W g 3 (ql s) t) (x : ByteArray) : Blk (W.setCell ⟨g, 2, none⟩ (.string x)) g 3 (ql { s with tx := x }) t := (h.set 2 _).ext fun i hi => by
  rcases (show i = 0 ∨ i = 1 ∨ i = 2 by omega) with e | e | e
  · subst e; rfl
  · subst e; rfl
  · subst e; rfl
/-- One step's box besides. -/
structure LS (w W : World) (B cb N : Nat) (v : Value) (q : Lsts) (g : Nat) (s : Lst) : Prop where
  d : LD w W B cb N v q
  bx : Blk W g 3 (ql s) 36
  gw : w.heap.size ≤ g
  gl : v.ownBlock ≠ some g
  hB : B ≤ g
theorem LS.ne (h : LS w W B cb N v q g s) : g ≠ cb := by have := h.d.l; have := h.gw; omega
theorem LS.draw (h : LS w W B cb N v q g s) (hc : CurAt W' B cb N') (hb : But cb W W') : LS w W' B cb N' v q g s := ⟨h.d.draw hc hb, hb.blk h.bx h.ne, h.gw, h.gl, h.hB⟩
theorem LS.down (h : LS w W B cb N v q g s) (hb : Below W.heap.size W W') : LS w W' B cb N v q g s := ⟨h.d.down hb, h.bx.down hb, h.gw, h.gl, h.hB⟩
theorem LS.more (h : LS w W B cb N v q g s) (hN : N ≤ N') : LS w W B cb N' v q g s := ⟨h.d.more hN, h.bx, h.gw, h.gl, h.hB⟩
theorem LS.set (h : LS w W B cb N v q g s) (i : Nat) (x : Value) (hb : Blk (W.setCell ⟨g, i, none⟩ x) g 3 (ql s') 36) : LS w (W.setCell ⟨g, i, none⟩ x) B cb N v q g s' :=
  ⟨⟨h.d.c.set h.ne h.hB i x, h.d.o.other (gbT_set (gbT_refl W (some g))) (fun k hk e => h.gl (by rw [hk, e])), h.d.b.set h.gw i x, h.d.l, h.d.s⟩, hb, h.gw, h.gl, h.hB⟩
theorem LS.new (h : LD w W B cb N v q) (k y : Int) (t : ByteArray) : LS w (W.alloc (.cells #[.int .i64 k, .int .i64 y, .string t] 36)) B cb N v q W.heap.size ⟨k, y, t⟩ := by
  have hal := (Below.refl W.heap.size W).alloc (Nat.le_refl _) (.cells #[.int .i64 k, .int .i64 y, .string t] 36)
  exact ⟨h.down hal, newT3 W _ _ _ 36, h.b.size, fun e => by have := (h.o.lt e).2; omega, by have := h.c.base; have := h.c.lt; omega⟩
end
end M
set_option maxHeartbeats 1000000 in
theorem cur_of (B cb N g k : Nat) (f : Nat → ByteArray) (w : World) (h : CurAt w B cb N) (hN : N ≤ 1000000) (hg : Blk w g k (tvS f) 9) (hne : g ≠ cb) (hk0 : 0 < k) (hk : k ≤ 200) :
    Calls Try.prog 83 #[.pointer (some ⟨cb, 0, none⟩), .slice (some ⟨g, 0, none⟩) k k] w fun e w' => (∃ x : Nat, x < k ∧ e = .returned (.string (f x))) ∧ CurAt w' B cb (N + 1) ∧ But cb w w' := by
  have HC := hide h
  have HG := hide hg
  clear h hg
  go_enter Try.func83, Try.ntmps83
  go_wp2_with fail
  refine (cur_pick B cb N k _ HC.out hN hk).mono ?_
  rintro e w1 ⟨⟨x, hx, rfl⟩, hc1, ho1⟩
  have hx2 : x < k := by omega
  have c0 : w1.cell? ⟨g, x, none⟩ = some (.string (f x)) := (ho1.blk HG.out hne).cell hx2
  have hx0 : (0 : Int) ≤ (x : Int) := by omega
  have hx1 : (x : Int) < (k : Int) := by omega
  have H1 := hide (And.intro hc1 ho1)
  clear hc1 ho1 HG HC
  go_wp2
  go_ret
  exact ⟨⟨x, hx2, rfl⟩, H1.out.1, H1.out.2⟩
set_option maxRecDepth 20000 in
set_option maxHeartbeats 8000000 in
theorem cur_steps (B cb N : Nat) (w : World) (h : CurAt w B cb N) (hN : N ≤ 900000) :
    Calls Try.prog 59 #[.pointer (some ⟨cb, 0, none⟩)] w fun e w' => (∃ v q, e = .returned v ∧ OwnL w' w.heap.size v q ∧ q.length ≤ 201 ∧ S12 q) ∧ CurAt w' B cb (N + 2100) ∧ But cb w w' := by
  have HC := hide h
  have HL := hide h.lt
  clear h
  go_enter Try.func59, Try.ntmps59
  go_wp2_with fail
  refine (cur_pick B cb N 40 _ HC.out (by omega) (by omega)).mono ?_
  rintro e w1 ⟨⟨x, hx, rfl⟩, hc1, ho1⟩
  have H1 := hide (And.intro hc1 ho1)
  clear hc1 ho1 HC
  go_wp2_with fail
  refine (cur_one B cb (N + 1) 12 _ H1.out.1 (by omega) (by omega)).mono ?_
  rintro e w2 ⟨⟨b, rfl⟩, hc2, ho2⟩
  have H2 := hide (And.intro hc2 (H1.out.2.trans ho2))
  clear hc2 ho2 H1
  go_upto_if 10 with fail
  go_cut [4] from 11 (fun n wx => ∃ j : Nat, n = .int .i64 (j : Int) ∧ j ≤ 201 ∧ Hid (CurAt wx B cb (N + 5) ∧ But cb w wx))
  case first =>
    cases b
    · go_wp2_with fail
      go_meet
      exact ⟨x, rfl, by omega, hide ⟨H2.out.1.more (by omega), H2.out.2⟩⟩
    · go_wp2_with fail
      refine (cur_pick B cb (N + 1 + 1) 22 _ H2.out.1 (by omega) (by omega)).mono ?_
      rintro e w3 ⟨⟨y, hy, rfl⟩, hc3, ho3⟩
      have H3 := hide (And.intro hc3 (H2.out.2.trans ho3))
      clear hc3 ho3 H2
      go_wp2_with fail
      go_meet
      exact ⟨180 + y, by go_num, by omega, hide ⟨H3.out.1.more (by omega), H3.out.2⟩⟩
  case rest =>
    rename World => w4
    obtain ⟨n0, rfl, hn0, HX⟩ := hcut
    have HS0 := hide (show LD w w4 B cb (N + 5 + 10 * ([] : Lsts).length) (.slice none 0 0) [] from ⟨HX.out.1.more (by simp), OwnL.nil _ _, HX.out.2, HL.out, S12.nil⟩)
    clear HX H2 hx
    go_wp2
    go_loopw [3, 4, 5] (fun o n m wr => ∃ (j mm an ac : Nat) (ao : Option Addr) (q : Lsts), n = .int .i64 (j : Int) ∧ m = .int .i64 (mm : Int) ∧ o = .slice ao an ac ∧ q.length + j ≤ 201 ∧ mm ≤ q.length ∧ Hid (LD w wr B cb (N + 5 + 10 * q.length) (.slice ao an ac) q)) (fun _ n _ _ => (intOf n).toNat)
    case atStart => exact ⟨n0, 0, 0, 0, none, [], rfl, rfl, rfl, by simpa using hn0, Nat.le_refl _, HS0⟩
    case round =>
      obtain ⟨j, mm, an, ac, ao, q, rfl, rfl, rfl, hj, hm, HS⟩ := hrel
      clear HS0
      by_cases hlt : 0 < j
      · have hp3 : (0 : Int) < (j : Int) := by omega
        have hal := (Below.refl wr.heap.size wr).alloc (Nat.le_refl _) (.cells #[.int .i64 1, .int .i64 2, .int .i64 2, .int .i64 3, .int .i64 3, .int .i64 3, .int .i64 4, .int .i64 5] 3)
        have HS1 := hide (HS.out.down hal)
        have HT := hide (show Blk (wr.alloc (.cells #[.int .i64 1, .int .i64 2, .int .i64 2, .int .i64 3, .int .i64 3, .int .i64 3, .int .i64 4, .int .i64 5] 3)) wr.heap.size 8 (iv kd8) 3 from Blk.fresh wr #[.int .i64 1, .int .i64 2, .int .i64 2, .int .i64 3, .int .i64 3, .int .i64 3, .int .i64 4, .int .i64 5] 8 (iv kd8) 3 rfl)
        have hne : wr.heap.size ≠ cb := by have := HS.out.c.lt; omega
        clear hal HS
        go_wp2_with fail
        refine (cur_amongn B cb (N + 5 + 10 * q.length) wr.heap.size 8 kd8 _ HS1.out.c (by omega) HT.out hne (by omega) (by omega)).mono ?_
        rintro e w5 ⟨⟨y, hy, rfl⟩, hc5, ho5⟩
        have hk8 := kd8_in y
        have HS2 := hide (HS1.out.draw hc5 ho5)
        clear hc5 ho5 HS1 HT hne hy
        generalize kd8 y = kd at *
        go_wp2_with fail
        refine (cur_pick B cb (N + 5 + 10 * q.length + 1) 5 _ HS2.out.c (by omega) (by omega)).mono ?_
        rintro e w6 ⟨⟨z, hz, rfl⟩, hc6, ho6⟩
        have hls := LS.new (HS2.out.draw hc6 ho6) kd (z : Int) ⟨#[]⟩
        have HBX := hide hls
        clear hc6 ho6 HS2 hls
        go_upto_region 9 with fail
        obtain ⟨g, hg⟩ : ∃ g, w6.heap.size = g := ⟨_, rfl⟩
        rw [hg] at HBX ⊢
        obtain ⟨W6, hW6⟩ : ∃ W, w6.alloc (.cells #[.int .i64 kd, .int .i64 (z : Int), .string ⟨#[]⟩] 36) = W := ⟨_, rfl⟩
        rw [hW6] at HBX ⊢
        clear hg hW6
        obtain ⟨⟨d0, d1, d2⟩, f0, f1, f2⟩ := HBX.out.bx.trp
        go_upto_if 26 with fail
        have HJ := hide (show ((j - 1 : Nat) : Int) = (j : Int) - 1 by omega)
        go_cut [5] from 14 to 54 (fun m wx => ∃ (m' : Nat) (s : Lst), m = .int .i64 (m' : Int) ∧ m' ≤ mm + 1 ∧ s.tx.size ≤ 12 ∧ 0 ≤ s.k ∧ s.k ≤ 1000 ∧ Hid (LS w wx B cb (N + 5 + 10 * q.length + 3) (.slice ao an ac) q g s))
        case first =>
          by_cases hk1 : kd = 1
          · subst hk1
            have HB1 := hide (HBX.out.set 1 (.int .i64 0) (HBX.out.bx.l1 0))
            have hal := (Below.refl (W6.setCell ⟨g, 1, none⟩ (.int .i64 0)).heap.size (W6.setCell ⟨g, 1, none⟩ (.int .i64 0))).alloc (Nat.le_refl _) (.cells #[.string ⟨#[97]⟩, .string ⟨#[98]⟩, .string ⟨#[116, 101, 120, 116]⟩, .string ⟨#[]⟩] 9)
            have HB2 := hide (HB1.out.down hal)
            have HT := hide (show Blk ((W6.setCell ⟨g, 1, none⟩ (.int .i64 0)).alloc (.cells #[.string ⟨#[97]⟩, .string ⟨#[98]⟩, .string ⟨#[116, 101, 120, 116]⟩, .string ⟨#[]⟩] 9)) W6.heap.size 4 (tvS tx4) 9 from by
              have := Blk.fresh (W6.setCell ⟨g, 1, none⟩ (.int .i64 0)) #[.string ⟨#[97]⟩, .string ⟨#[98]⟩, .string ⟨#[116, 101, 120, 116]⟩, .string ⟨#[]⟩] 4 (tvS tx4) 9 rfl
              rw [World.size_setCell] at this; exact this)
            have hne : W6.heap.size ≠ cb := by have := HBX.out.d.c.lt; omega
            clear hal HB1 HBX
            go_wp2_with fail
            refine (cur_of B cb (N + 5 + 10 * q.length + 1 + 1) W6.heap.size 4 tx4 _ HB2.out.d.c (by omega) HT.out hne (by omega) (by omega)).mono ?_
            rintro e w8 ⟨⟨y, hy, rfl⟩, hc8, ho8⟩
            have ht := tx4_size y
            have HB3 := hide (HB2.out.draw hc8 ho8)
            clear hc8 ho8 HB2 HT hne hy d0 d1 d2 f0 f1 f2
            generalize tx4 y = tt at *
            obtain ⟨⟨d0, d1, d2⟩, f0, f1, f2⟩ := HB3.out.bx.trp
            have HB4 := hide ((HB3.out.set 2 (.string tt) (HB3.out.bx.l2 tt)).more (N' := N + 5 + 10 * q.length + 3) (by omega))
            clear HB3
            go_wp2_with fail
            go_meet
            exact ⟨mm + 1, _, by go_num, Nat.le_refl _, ht, by simp, by simp, HB4⟩
          · have hk2 : (kd == 1) = false := by simp [hk1]
            have HB4 := hide (HBX.out.more (N' := N + 5 + 10 * q.length + 3) (by omega))
            clear HBX
            go_wp2_with fail
            go_meet
            exact ⟨mm, _, rfl, by omega, by show ByteArray.size ⟨#[]⟩ ≤ 12; decide, by simp, by simp; omega, HB4⟩
        case rest =>
        rename World => w9
        obtain ⟨m', s, rfl, hm', hst, hs0, hs1, HB9⟩ := hcut
        clear HBX d0 d1 d2 f0 f1 f2
        obtain ⟨⟨d0, d1, d2⟩, f0, f1, f2⟩ := HB9.out.bx.trp
        go_upto_if 36 with fail
        go_cut [5] from 14 to 54 (fun m wx => ∃ (s' : Lst), m = .int .i64 (m' : Int) ∧ s'.tx.size ≤ 12 ∧ 0 ≤ s'.k ∧ s'.k ≤ 1000 ∧ Hid (LS w wx B cb (N + 5 + 10 * q.length + 5) (.slice ao an ac) q g s'))
        case first =>
          by_cases hk1 : s.kind = 2
          · have hk2 : (s.kind == 2) = true := by simp [hk1]
            have HP := hide (cur_picks B cb (N + 5 + 10 * q.length + 3) (m' + 2) _ HB9.out.d.c (by omega) (by omega))
            have hP := HP.out
            rw [show ((m' + 2 : Nat) : Int) = (m' : Int) + 2 by omega] at hP
            have HP2 := hide hP
            clear HP hP
            go_wp2_with fail
            refine HP2.out.mono ?_
            rintro e w10 ⟨⟨y, hy, rfl⟩, hc8, ho8⟩
            have HB3 := hide (HB9.out.draw hc8 ho8)
            clear hc8 ho8 HB9 HP2 d0 d1 d2 f0 f1 f2
            obtain ⟨⟨d0, d1, d2⟩, f0, f1, f2⟩ := HB3.out.bx.trp
            have HB4 := hide ((HB3.out.set 1 (.int .i64 (y : Int)) (HB3.out.bx.l1 (y : Int))).more (N' := N + 5 + 10 * q.length + 5) (by omega))
            clear HB3
            go_wp2_with fail
            go_meet
            exact ⟨⟨s.kind, (y : Int), s.tx⟩, rfl, hst, by show (0 : Int) ≤ (y : Int); omega, by show (y : Int) ≤ 1000; omega, HB4⟩
          · have hk2 : (s.kind == 2) = false := by simp [hk1]
            have HB4 := hide (HB9.out.more (N' := N + 5 + 10 * q.length + 5) (by omega))
            clear HB9
            go_wp2_with fail
            go_meet
            exact ⟨s, rfl, hst, hs0, hs1, HB4⟩
        case rest =>
        rename World => w11
        clear hst hs0 hs1 HB9 d0 d1 d2 f0 f1 f2
        obtain ⟨s', rfl, hst, hs0, hs1, HB11⟩ := hcut
        go_wp2_with fail
        refine (cur_one B cb (N + 5 + 10 * q.length + 5) 60 _ HB11.out.d.c (by omega) (by omega)).mono ?_
        rintro e w12 ⟨⟨b2, rfl⟩, hc8, ho8⟩
        have HB12 := hide (HB11.out.draw hc8 ho8)
        clear hc8 ho8 HB11
        go_upto_if 43 with fail
        go_cut [5] from 14 to 54 (fun m wx => ∃ (s' : Lst), m = .int .i64 (m' : Int) ∧ s'.tx.size ≤ 12 ∧ Hid (LS w wx B cb (N + 5 + 10 * q.length + 10) (.slice ao an ac) q g s'))
        case first =>
          cases b2
          · have HB4 := hide (HB12.out.more (N' := N + 5 + 10 * q.length + 10) (by omega))
            clear HB12
            go_wp2_with fail
            go_meet
            exact ⟨s', rfl, hst, HB4⟩
          · go_wp2_with fail
            refine (cur_pick B cb (N + 5 + 10 * q.length + 5 + 1) 8 _ HB12.out.d.c (by omega) (by omega)).mono ?_
            rintro e w13 ⟨⟨y, hy, rfl⟩, hc8, ho8⟩
            have HB3 := hide (HB12.out.draw hc8 ho8)
            clear hc8 ho8 HB12
            obtain ⟨⟨d0, d1, d2⟩, f0, f1, f2⟩ := HB3.out.bx.trp
            have HB4 := hide (HB3.out.set 0 (.int .i64 (y : Int)) (HB3.out.bx.l0 (y : Int)))
            have HB5 := hide ((HB4.out.set 1 (.int .i64 (s'.k - 2)) (HB4.out.bx.l1 (s'.k - 2))).more (N' := N + 5 + 10 * q.length + 10) (by omega))
            clear HB3 HB4
            go_wp2_with fail
            go_meet
            exact ⟨⟨(y : Int), s'.k - 2, s'.tx⟩, rfl, hst, HB5⟩
        case rest =>
        rename World => w14
        clear hst hs0 hs1 HB12
        obtain ⟨s2, rfl, hst, HB14⟩ := hcut
        obtain ⟨⟨d0, d1, d2⟩, -⟩ := HB14.out.bx.trp
        have HD14 := hide HB14.out.d
        clear HB14
        go_wp2_with (at_builtin; have hal3 := (Below.refl w14.heap.size w14).alloc (Nat.le_refl _) (.cells #[.int .i64 s2.kind, .int .i64 s2.k, .string s2.tx] 36); have HP4 := hide (HD14.out.down hal3); have HU3 := hide (newT3 w14 (.int .i64 s2.kind) (.int .i64 s2.k) (.string s2.tx) 36); refine wpList_appL _ rfl _ _ rfl w.heap.size q s2 _ rfl HP4.out.o _ 1 rfl HU3.out (by omega) HP4.out.b.size ?_; intro a4 n4 c4 w15 hO4 hg4 hy4; have HP5 := hide ((HP4.out.app hg4 hO4 (HP4.out.s.snoc hst)).more (N' := N + 5 + 10 * (q ++ [s2]).length) (by simp; omega)); clear hO4 hg4 hy4 HP4 HU3 hal3 HD14)
        go_roundw
        case rel => exact ⟨j - 1, m', n4, c4, a4, q ++ [s2], by rw [HJ.out], rfl, rfl, by simp; omega, by simp; omega, HP5⟩
        case measure => simp [intOf]; omega
      · have hp3 : ¬ (0 : Int) < (j : Int) := by omega
        have HZ := hide (HS.out.more (N' := N + 2100) (by omega))
        clear HS
        go_wp2
        go_ret
        exact ⟨⟨_, rfl, q, HZ.out.o, by omega, HZ.out.s⟩, HZ.out.c, HZ.out.b⟩
end Go.Proofs.Ytfjdbenbiakbbaa

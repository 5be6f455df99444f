/-
  Domains that are drawn.
-/
import Derived.Test.YtgccoognklolbaaDmI
import Derived.Test.YtgccoognklolbaaCw
namespace Go.Proofs.Ytgccoognklolbaa
open Go.RowKit M
namespace M
def tvS (f : Nat → ByteArray) : Nat → Value := fun i => .string (f i)
def n5 : Nat → ByteArray := fun i => if i = 0 then ⟨#[97]⟩ else if i = 1 then ⟨#[98]⟩ else if i = 2 then ⟨#[99]⟩ else if i = 3 then ⟨#[100, 49]⟩ else ⟨#[112, 97, 121]⟩
def t3 : Nat → ByteArray := fun i => if i = 0 then ⟨#[]⟩ else if i = 1 then ⟨#[120]⟩ else ⟨#[121]⟩
def m3 : Nat → ByteArray := fun i => if i = 0 then ⟨#[]⟩ else if i = 1 then ⟨#[122, 122]⟩ else ⟨#[65]⟩
def x4 : Nat → ByteArray := fun i => if i = 0 then ⟨#[97]⟩ else if i = 1 then ⟨#[98]⟩ else if i = 2 then ⟨#[99]⟩ else ⟨#[120]⟩
theorem n5_size (i : Nat) : (n5 i).size ≤ 20 := by
  unfold n5; repeat' split
  all_goals decide
theorem t3_size (i : Nat) : (t3 i).size ≤ 20 := by
  unfold t3; repeat' split
  all_goals decide
theorem m3_size (i : Nat) : (m3 i).size ≤ 20 := by
  unfold m3; repeat' split
  all_goals decide
theorem x4_size (i : Nat) : (x4 i).size ≤ 20 := by
  unfold x4; repeat' split
  all_goals decide
/-- Small texts. -/
def Sm (q : Dms) : Prop := ∀ d ∈ q, d.nm.size ≤ 20 ∧ d.nt.size ≤ 20
theorem Sm.nil : Sm [] := fun d h => by simp at h
theorem Sm.snoc {q : Dms} {d : Dm} (h : Sm q) (h1 : d.nm.size ≤ 20) (h2 : d.nt.size ≤ 20) : Sm (q ++ [d]) := fun e he => by
  rcases List.mem_append.1 he with k | k
  · exact h e k
  · simp at k; subst k; exact ⟨h1, h2⟩
theorem Sm.len {q : Dms} (h : Sm q) (hl : q.length ≤ 1000) : LenD q := ⟨by unfold maxLen; omega, fun d hd => by
  have := h d hd
  unfold maxLen
  exact ⟨by omega, by omega⟩⟩
/-- While domains are drawn: the reader, what is gathered, the names. -/
structure DS (w W : World) (B cb N : Nat) (v : Value) (q : Dms) : Prop where
  c : CurAt W B cb N
  o : OwnD W (w.heap.size + 1) v q
  b : But cb w W
  l : cb < w.heap.size
  s : Sm q
  nb : Blk W w.heap.size 5 (tvS n5) 9
theorem DS.draw {w W W' : World} {B cb N N' : Nat} {v : Value} {q : Dms} (h : DS w W B cb N v q) (hc : CurAt W' B cb N') (hb : But cb W W') : DS w W' B cb N' v q :=
  have hl := h.l
  ⟨hc, hb.owns h.o (by omega), h.b.trans hb, h.l, h.s, hb.blk h.nb (by omega)⟩
theorem DS.down {w W W' : World} {B cb N : Nat} {v : Value} {q : Dms} (h : DS w W B cb N v q) (hb : Below W.heap.size W W') : DS w W' B cb N v q :=
  ⟨h.c.below hb, h.o.down hb, h.b.trans (But.of_below hb), h.l, h.s, h.nb.down hb⟩
theorem DS.more {w W : World} {B cb N N' : Nat} {v : Value} {q : Dms} (h : DS w W B cb N v q) (hN : N ≤ N') : DS w W B cb N' v q :=
  ⟨h.c.more hN, h.o, h.b, h.l, h.s, h.nb⟩
theorem DS.app {w W W' : World} {B cb N : Nat} {v v' : Value} {q q' : Dms} (h : DS w W B cb N v q) (hg : W.grownBy W' v.ownBlock) (ho : OwnD W' (w.heap.size + 1) v' q') (hs : Sm q') : DS w W' B cb N v' q' := by
  have hl := h.l
  refine ⟨h.c.grown h.o (by omega) hg, ho, h.b.grown hg (fun k hk => by have := (h.o.lt hk).1; omega), h.l, hs, ?_⟩
  unfold Blk
  rw [hg.block _ h.nb.lt (fun e => by have := (h.o.lt e.symm).1; omega)]
  exact h.nb
theorem DS.new {w : World} {B cb N : Nat} (h : CurAt w B cb N) : DS w (w.alloc (.cells #[.string ⟨#[97]⟩, .string ⟨#[98]⟩, .string ⟨#[99]⟩, .string ⟨#[100, 49]⟩, .string ⟨#[112, 97, 121]⟩] 9)) B cb N (.slice none 0 0) [] :=
  have hal := (Below.refl w.heap.size w).alloc (Nat.le_refl _) (.cells #[.string ⟨#[97]⟩, .string ⟨#[98]⟩, .string ⟨#[99]⟩, .string ⟨#[100, 49]⟩, .string ⟨#[112, 97, 121]⟩] 9)
  ⟨h.below hal, OwnD.nil _ _, But.of_below hal, h.lt, Sm.nil, Blk.fresh w _ 5 (tvS n5) 9 rfl⟩
end M
set_option maxHeartbeats 1000000 in
theorem cur_of (B cb N g k : Nat) (f : Nat → ByteArray) (w : World) (h : CurAt w B cb N) (hN : N ≤ 1000000) (hg : Blk w g k (tvS f) 9) (hne : g ≠ cb) (hk0 : 0 < k) (hk : k ≤ 200) :
    Calls Try.prog 58 #[.pointer (some ⟨cb, 0, none⟩), .slice (some ⟨g, 0, none⟩) k k] w fun e w' => (∃ x : Nat, x < k ∧ e = .returned (.string (f x))) ∧ CurAt w' B cb (N + 1) ∧ But cb w w' := by
  have HC := hide h
  have HG := hide hg
  clear h hg
  go_enter Try.func58, Try.ntmps58
  go_wp2_with fail
  refine (cur_pick B cb N k _ HC.out hN hk).mono ?_
  rintro e w1 ⟨⟨x, hx, rfl⟩, hc1, ho1⟩
  have hx2 : x < k := by omega
  have c0 : w1.cell? ⟨g, x, none⟩ = some (.string (f x)) := (ho1.blk HG.out hne).cell hx2
  have hx0 : (0 : Int) ≤ (x : Int) := by omega
  have hx1 : (x : Int) < (k : Int) := by omega
  have H1 := hide (And.intro hc1 ho1)
  clear hc1 ho1 HG HC
  go_wp2
  go_ret
  exact ⟨⟨x, hx2, rfl⟩, H1.out.1, H1.out.2⟩
set_option maxHeartbeats 1000000 in
theorem num_small (i : Nat) (w : World) (hi : i < 10) :
    Calls Try.prog 65 #[.int .i64 (i : Int)] w fun e w' => (∃ s : ByteArray, e = .returned (.string s) ∧ s.size = 1) ∧ Below w.heap.size w w' := by
  have hlt : (i : Int) < 10 := by omega
  have k1 : ∀ w : World, (convert 45 9 (.slice (some ⟨w.heap.size, 0, none⟩) 1 1)).run Try.prog (w.alloc (.cells #[.int .u8 (48 + (i : Int))] 5)) = .ok (.string (strOfNums [48 + (i : Int)])) (w.alloc (.cells #[.int .u8 (48 + (i : Int))] 5)) := fun w => convT _ _ rfl (Below.refl _ _)
  have hal := (Below.refl w.heap.size w).alloc (Nat.le_refl _) (.cells #[.int .u8 (48 + (i : Int))] 5)
  have HS := hide (show (strOfNums [48 + (i : Int)]).size = 1 from by rw [strOfNums_size]; rfl)
  go_enter Try.func65, Try.ntmps65
  go_wp2
  go_ret
  exact ⟨⟨_, rfl, HS.out⟩, hal⟩
set_option maxRecDepth 20000 in
set_option maxHeartbeats 8000000 in
theorem cur_domains (B cb N : Nat) (w : World) (h : CurAt w B cb N) (hN : N ≤ 900000) :
    Calls Try.prog 57 #[.pointer (some ⟨cb, 0, none⟩)] w fun e w' => (∃ v q, e = .returned v ∧ OwnD w' (w.heap.size + 1) v q ∧ q.length ≤ 13 ∧ Sm q) ∧ CurAt w' B cb (N + 50) ∧ But cb w w' := by
  have HD := hide (DS.new h)
  clear h
  go_enter Try.func57, Try.ntmps57
  go_wp2
  go_loopw [3, 9] (fun o i wr => ∃ (j n c : Nat) (ao : Option Addr) (q : Dms), j ≤ 5 ∧ i = .int .i64 j ∧ o = .slice ao n c ∧ q.length ≤ j ∧ Hid (DS w wr B cb (N + 3 * j) (.slice ao n c) q)) (fun _ i _ => 5 - (intOf i).toNat)
  case atStart => exact ⟨0, 0, 0, none, [], Nat.zero_le _, rfl, rfl, Nat.le_refl _, HD⟩
  case round =>
    obtain ⟨j, n, c, ao, q, hj, rfl, rfl, hq, HS⟩ := hrel
    clear HD
    by_cases hlt : j < 5
    · have c0 : wr.cell? ⟨w.heap.size, j, none⟩ = some (.string (n5 j)) := HS.out.nb.cell hlt
      have hi0 : (0 : Int) ≤ (j : Int) := by omega
      have hi1 : (j : Int) < 5 := by omega
      have h5 := n5_size j
      go_wp2_with fail
      refine (cur_one B cb (N + 3 * j) 2 _ HS.out.c (by omega) (by omega)).mono ?_
      rintro e w1 ⟨⟨b, rfl⟩, hc1, ho1⟩
      have HS1 := hide (HS.out.draw hc1 ho1)
      clear hc1 ho1 HS c0
      cases b
      · have HS2 := hide (HS1.out.more (N' := N + 3 * (j + 1)) (by omega))
        clear HS1
        go_wp2
        go_roundw
        case rel => exact ⟨j + 1, n, c, ao, q, by omega, by go_num, rfl, by omega, HS2⟩
        case measure => simp [intOf]; omega
      · generalize n5 j = nm at *
        go_wp2_with fail
        refine (cur_pick B cb (N + 3 * j + 1) 30 _ HS1.out.c (by omega) (by omega)).mono ?_
        rintro e w2 ⟨⟨x, hx, rfl⟩, hc2, ho2⟩
        have HS2 := hide (HS1.out.draw hc2 ho2)
        clear hc2 ho2 HS1
        have hal := (Below.refl w2.heap.size w2).alloc (Nat.le_refl _) (.cells #[.string ⟨#[]⟩, .string ⟨#[120]⟩, .string ⟨#[121]⟩] 9)
        have HS3 := hide (HS2.out.down hal)
        have HT := hide (Blk.fresh w2 #[.string ⟨#[]⟩, .string ⟨#[120]⟩, .string ⟨#[121]⟩] 3 (tvS t3) 9 rfl)
        have hne : w2.heap.size ≠ cb := by have := HS2.out.c.lt; omega
        clear hal HS2
        go_wp2_with fail
        refine (cur_of B cb (N + 3 * j + 1 + 1) w2.heap.size 3 t3 _ HS3.out.c (by omega) HT.out hne (by omega) (by omega)).mono ?_
        rintro e w4 ⟨⟨y, hy, rfl⟩, hc4, ho4⟩
        have ht3 := t3_size y
        have HS4 := hide (HS3.out.draw hc4 ho4)
        clear hc4 ho4 HS3 HT hne
        generalize t3 y = nt at *
        have hal := (Below.refl w4.heap.size w4).alloc (Nat.le_refl _) (.cells #[.string nm, .int .i64 (x : Int), .string nt] 58)
        have hS5 := HS4.out.down hal
        have hown := hS5.o
        have hlit := lit_dom (d := ⟨nm, (x : Int), nt⟩) (new3 w4 (.string nm) (.int .i64 (x : Int)) (.string nt) 58)
        have HS5 := hide hS5
        have hbs : w.heap.size + 1 ≤ w4.heap.size := HS4.out.nb.lt
        clear hal HS4 hS5
        go_wp2_with (at_builtin; refine wpList_appD _ rfl _ _ rfl (w.heap.size + 1) q [⟨nm, (x : Int), nt⟩] _ rfl hown _ 0 1 rfl hlit (by simp; omega) (by simp; omega) ?_)
        intro a6 n6 c6 w6 hO6 hgr _
        have HS6 := hide ((HS5.out.app hgr hO6 (HS5.out.s.snoc h5 ht3)).more (N' := N + 3 * (j + 1)) (by omega))
        clear hO6 hgr hown hlit HS5
        go_wp2
        go_roundw
        case rel => exact ⟨j + 1, n6, c6, a6, _, by omega, by go_num, rfl, by simp; omega, HS6⟩
        case measure => simp [intOf]; omega
    · have HS0 := hide (HS.out.more (N' := N + 15) (by omega))
      clear HS
      go_wp2_with fail
      refine (cur_one B cb (N + 15) 20 _ HS0.out.c (by omega) (by omega)).mono ?_
      rintro e w1 ⟨⟨b, rfl⟩, hc1, ho1⟩
      have HS1 := hide (HS0.out.draw hc1 ho1)
      clear hc1 ho1 HS0
      -- the tail
      cases b
      · have hq13 : q.length ≤ 5 := by omega
        have HNQ := hide (show n = q.length from HS1.out.o.len)
        rcases HS1.out.o.split with ⟨hv0, hq0⟩ | ⟨g, cap', hv0, hBg, hgl, hcl, -⟩
        · have HSZ := hide (HS1.out.more (N' := N + 50) (by omega))
          have hn0 : n = 0 := by rw [HNQ.out, hq0]; rfl
          subst hn0
          clear HS1 HNQ
          go_wp2
          go_ret
          exact ⟨⟨_, q, rfl, HSZ.out.o, by omega, HSZ.out.s⟩, HSZ.out.c, HSZ.out.b⟩
        · simp only [Value.slice.injEq] at hv0
          obtain ⟨rfl, -, -⟩ := hv0
          by_cases hn0 : n = 0
          · have HSZ := hide (HS1.out.more (N' := N + 50) (by omega))
            subst hn0
            clear HS1 HNQ
            go_wp2
            go_ret
            exact ⟨⟨_, q, rfl, HSZ.out.o, by omega, HSZ.out.s⟩, HSZ.out.c, HSZ.out.b⟩
          · have hp0 : decide (0 < n) = true := decide_eq_true (by omega)
            have hp1 : decide ((0 : Int) < (n : Int)) = true := decide_eq_true (by omega)
            have hp2 : decide ((n : Int) > 0) = true := decide_eq_true (by omega)
            have hp3 : (0 : Int) < (n : Int) := by omega
            go_wp2_with fail
            refine (cur_one B cb (N + 15 + 1) 30 _ HS1.out.c (by omega) (by omega)).mono ?_
            rintro e wt ⟨⟨b2, rfl⟩, hct, hot⟩
            have HST := hide (HS1.out.draw hct hot)
            clear hct hot HS1
            cases b2
            · have HSZ := hide (HST.out.more (N' := N + 50) (by omega))
              clear HST HNQ
              go_wp2
              go_ret
              exact ⟨⟨_, q, rfl, HSZ.out.o, by omega, HSZ.out.s⟩, HSZ.out.c, HSZ.out.b⟩
            · have hal := (Below.refl wt.heap.size wt).alloc (Nat.le_refl _) (.cells #[.string ⟨#[]⟩, .string ⟨#[122, 122]⟩, .string ⟨#[65]⟩] 9)
              have HSU := hide (HST.out.down hal)
              have HTT := hide (Blk.fresh wt #[.string ⟨#[]⟩, .string ⟨#[122, 122]⟩, .string ⟨#[65]⟩] 3 (tvS m3) 9 rfl)
              have hne : wt.heap.size ≠ cb := by have := HST.out.c.lt; omega
              clear hal HST
              go_wp2_with fail
              refine (cur_of B cb (N + 15 + 1 + 1) wt.heap.size 3 m3 _ HSU.out.c (by omega) HTT.out hne (by omega) (by omega)).mono ?_
              rintro e wu ⟨⟨y, hy, rfl⟩, hcu, hou⟩
              have hm3 := m3_size y
              have hSV := HSU.out.draw hcu hou
              clear hcu hou HSU HTT hne
              generalize m3 y = nz at *
              obtain ⟨d, hd⟩ : ∃ d, q[0]? = some d := ⟨q[0]'(by have := HNQ.out; omega), List.getElem?_eq_getElem _⟩
              obtain ⟨k0, -, -⟩ := hSV.o.d3 hd
              have f0 := hSV.o.thaw 0
              have hst := hSV.o.setNm hd nz
              rw [Nat.zero_mul] at k0 hst
              have HSW := hide ((hSV.app (W' := wu.setCell ⟨g, 0, none⟩ (.string nz)) (gbT_set (gbT_refl wu _)) hst (fun e he => by
                rcases List.mem_or_eq_of_mem_set he with k | k
                · exact hSV.s e k
                · subst k; exact ⟨hm3, (hSV.s d (List.mem_of_getElem? hd)).2⟩)).more (N' := N + 50) (by omega))
              clear hSV hst hd
              go_wp2
              go_ret
              exact ⟨⟨_, _, rfl, HSW.out.o, by rw [List.length_set]; omega, HSW.out.s⟩, HSW.out.c, HSW.out.b⟩
      · have HS2 := hide HS1.out
        clear HS1
        go_wp2
        go_loopw [3, 6] (fun o i wr => ∃ (k n c : Nat) (ao : Option Addr) (q : Dms), k ≤ 8 ∧ i = .int .i64 k ∧ o = .slice ao n c ∧ q.length ≤ 5 + k ∧ Hid (DS w wr B cb (N + 15 + 1) (.slice ao n c) q)) (fun _ i _ => 8 - (intOf i).toNat)
        case atStart => exact ⟨0, n, c, ao, q, Nat.zero_le _, rfl, rfl, by omega, HS2⟩
        case round =>
          clear HS2 hq
          obtain ⟨k, n, c, ao, q, hk, rfl, rfl, hq, HS3⟩ := hrel
          by_cases hlt2 : k < 8
          · go_wp2_with fail
            refine (num_small k _ (by omega)).mono ?_
            rintro e w3 ⟨⟨s, rfl, hs⟩, hb3⟩
            have HS4 := hide (HS3.out.down hb3)
            have hsz : ((⟨#[122]⟩ : ByteArray) ++ s).size ≤ 20 := by
              rw [ByteArray.size_append, hs]; decide
            have hsz2 : (⟨#[122]⟩ : ByteArray).size + s.size ≤ 20 := by rw [hs]; decide
            clear hb3 HS3
            have HSZ := hide hsz
            have hal := (Below.refl w3.heap.size w3).alloc (Nat.le_refl _) (.cells #[.string ((⟨#[122]⟩ : ByteArray) ++ s), .int .i64 (k : Int), .string ⟨#[]⟩] 58)
            have hS5 := HS4.out.down hal
            have hown := hS5.o
            have hlit := lit_dom (d := ⟨(⟨#[122]⟩ : ByteArray) ++ s, (k : Int), ⟨#[]⟩⟩) (new3 w3 (.string ((⟨#[122]⟩ : ByteArray) ++ s)) (.int .i64 (k : Int)) (.string ⟨#[]⟩) 58)
            have HS5 := hide hS5
            have hbs : w.heap.size + 1 ≤ w3.heap.size := HS4.out.nb.lt
            clear hal HS4 hS5 hsz
            go_wp2_with (at_builtin; refine wpList_appD _ rfl _ _ rfl (w.heap.size + 1) q [⟨(⟨#[122]⟩ : ByteArray) ++ s, (k : Int), ⟨#[]⟩⟩] _ rfl hown _ 0 1 rfl hlit (by simp; omega) (by simp; omega) ?_)
            intro a6 n6 c6 w6 hO6 hgr _
            have HS6 := hide (HS5.out.app hgr hO6 (HS5.out.s.snoc HSZ.out (show (⟨#[]⟩ : ByteArray).size ≤ 20 from by decide)))
            clear hO6 hgr hown hlit HS5
            go_wp2
            go_roundw
            case rel => exact ⟨k + 1, n6, c6, a6, _, by omega, by go_num, rfl, by simp; omega, HS6⟩
            case measure => simp [intOf]; omega
          · have hq13 : q.length ≤ 13 := by omega
            have HNQ := hide (show n = q.length from HS3.out.o.len)
            rcases HS3.out.o.split with ⟨hv0, hq0⟩ | ⟨g, cap', hv0, hBg, hgl, hcl, -⟩
            · have HSZ := hide (HS3.out.more (N' := N + 50) (by omega))
              have hn0 : n = 0 := by rw [HNQ.out, hq0]; rfl
              subst hn0
              clear HS3 HNQ
              go_wp2
              go_ret
              exact ⟨⟨_, q, rfl, HSZ.out.o, by omega, HSZ.out.s⟩, HSZ.out.c, HSZ.out.b⟩
            · simp only [Value.slice.injEq] at hv0
              obtain ⟨rfl, -, -⟩ := hv0
              by_cases hn0 : n = 0
              · have HSZ := hide (HS3.out.more (N' := N + 50) (by omega))
                subst hn0
                clear HS3 HNQ
                go_wp2
                go_ret
                exact ⟨⟨_, q, rfl, HSZ.out.o, by omega, HSZ.out.s⟩, HSZ.out.c, HSZ.out.b⟩
              · have hp0 : decide (0 < n) = true := decide_eq_true (by omega)
                have hp1 : decide ((0 : Int) < (n : Int)) = true := decide_eq_true (by omega)
                have hp2 : decide ((n : Int) > 0) = true := decide_eq_true (by omega)
                have hp3 : (0 : Int) < (n : Int) := by omega
                go_wp2_with fail
                refine (cur_one B cb (N + 15 + 1) 30 _ HS3.out.c (by omega) (by omega)).mono ?_
                rintro e wt ⟨⟨b2, rfl⟩, hct, hot⟩
                have HST := hide (HS3.out.draw hct hot)
                clear hct hot HS3
                cases b2
                · have HSZ := hide (HST.out.more (N' := N + 50) (by omega))
                  clear HST HNQ
                  go_wp2
                  go_ret
                  exact ⟨⟨_, q, rfl, HSZ.out.o, by omega, HSZ.out.s⟩, HSZ.out.c, HSZ.out.b⟩
                · have hal := (Below.refl wt.heap.size wt).alloc (Nat.le_refl _) (.cells #[.string ⟨#[]⟩, .string ⟨#[122, 122]⟩, .string ⟨#[65]⟩] 9)
                  have HSU := hide (HST.out.down hal)
                  have HTT := hide (Blk.fresh wt #[.string ⟨#[]⟩, .string ⟨#[122, 122]⟩, .string ⟨#[65]⟩] 3 (tvS m3) 9 rfl)
                  have hne : wt.heap.size ≠ cb := by have := HST.out.c.lt; omega
                  clear hal HST
                  go_wp2_with fail
                  refine (cur_of B cb (N + 15 + 1 + 1) wt.heap.size 3 m3 _ HSU.out.c (by omega) HTT.out hne (by omega) (by omega)).mono ?_
                  rintro e wu ⟨⟨y, hy, rfl⟩, hcu, hou⟩
                  have hm3 := m3_size y
                  have hSV := HSU.out.draw hcu hou
                  clear hcu hou HSU HTT hne
                  generalize m3 y = nz at *
                  obtain ⟨d, hd⟩ : ∃ d, q[0]? = some d := ⟨q[0]'(by have := HNQ.out; omega), List.getElem?_eq_getElem _⟩
                  obtain ⟨k0, -, -⟩ := hSV.o.d3 hd
                  have f0 := hSV.o.thaw 0
                  have hst := hSV.o.setNm hd nz
                  rw [Nat.zero_mul] at k0 hst
                  have HSW := hide ((hSV.app (W' := wu.setCell ⟨g, 0, none⟩ (.string nz)) (gbT_set (gbT_refl wu _)) hst (fun e he => by
                    rcases List.mem_or_eq_of_mem_set he with k | k
                    · exact hSV.s e k
                    · subst k; exact ⟨hm3, (hSV.s d (List.mem_of_getElem? hd)).2⟩)).more (N' := N + 50) (by omega))
                  clear hSV hst hd
                  go_wp2
                  go_ret
                  exact ⟨⟨_, _, rfl, HSW.out.o, by rw [List.length_set]; omega, HSW.out.s⟩, HSW.out.c, HSW.out.b⟩
end Go.Proofs.Ytgccoognklolbaa

/-
  Texts that are drawn: some bytes, and what a text may be.
-/
import Derived.Test.YtoelclgpmjecmaaFrM
import Derived.Test.YtoelclgpmjecmaaCu
import Derived.Lib.ConvBytes
namespace Go.Proofs.Ytoelclgpmjecmaa
open Go.RowKit M
namespace M
theorem But.grown {cb : Nat} {w w1 w2 : World} {row : Option Nat} (h : But cb w w1) (hg : w1.grownBy w2 row) (hr : ∀ k, row = some k → w.heap.size ≤ k) : But cb w w2 :=
  ⟨hg.os.trans h.os, hg.tape.trans h.tape, hg.output.trans h.output, Nat.le_trans h.size hg.size, fun k hk hne => by
    rw [hg.block k (Nat.lt_of_lt_of_le hk h.size) (fun e => by have := hr k e.symm; omega)]; exact h.block k hk hne⟩
theorem CurAt.grown {w w' : World} {B cb N B' e s m : Nat} {v : Value} {xs : List Value} (h : CurAt w B cb N) (hown : w.ownsRow B' e s v m xs) (hlt : cb < B') (hg : w.grownBy w' v.ownBlock) : CurAt w' B cb N := by
  obtain ⟨v', n, f, t, s', ht, hn, hBc, hk, w0, h0, h1, hb0⟩ := h
  have hne : ∀ k, k < B' → some k ≠ v.ownBlock := fun k hk' e => by have := (hown.lt k e.symm).1; omega
  refine ⟨v', n, f, t, s', ht, hn, hBc, ?_, w0, h0, h1, hb0.trans ⟨hg.os, hg.tape, hg.output, hg.size, fun k hk' => ?_⟩⟩
  · unfold Blk; rw [hg.block cb hk.lt (hne cb hlt)]; exact hk
  · exact hg.block k (by have := hk.lt; omega) (hne k (by omega))
theorem own_form {w : World} {B e s n : Nat} {v : Value} {xs : List Value} (h : w.ownsRow B e s v n xs) : ∃ a cap, v = .slice a n cap := by
  rcases h.2 with ⟨rfl, rfl⟩ | ⟨g, cap, cur, rfl, _⟩
  · exact ⟨_, _, rfl⟩
  · exact ⟨_, _, rfl⟩
theorem news1 (w : World) (c : Value) (t : TypeId) : ∀ (j : Nat) u, [c][j]? = some u → (w.alloc (.cells #[c] t)).cell? ((⟨w.heap.size, 0, none⟩ : Addr).add j) = some u := by
  intro j u hj
  match j, hj with
  | 0, hj => simp at hj; subst hj; simp [Addr.add]
theorem cur_new {w : World} {a : Option Addr} {n cap : Nat} {f : Nat → Nat} (hv : OctetsOf w (.slice a n cap) n f) (hn : n ≤ 1048576) : CurAt (w.alloc (.cells #[.slice a n cap, .int .i64 0, .int .u64 0] 38)) w.heap.size w.heap.size 0 := by
  have hb := Blk.fresh w #[.slice a n cap, .int .i64 0, .int .u64 0] 3 (cu (.slice a n cap) (0 : Nat) 0) 38 rfl
  exact ⟨_, n, f, 0, 0, Nat.le_refl _, hn, Nat.le_refl _, hb, w, rfl, hv, (Below.refl _ w).alloc (Nat.le_refl _) _⟩
def ov (l : List UInt8) : List Value := l.map (fun b => Value.int .u8 (b.toNat : Int))
theorem ov_snoc (l : List UInt8) (x : Nat) (h : x ≤ 255) : ov (l ++ [UInt8.ofNat x]) = ov l ++ [.int .u8 (x : Int)] := by
  unfold ov
  rw [List.map_append]
  simp only [List.map_cons, List.map_nil]
  rw [u8_of x (by omega)]
end M
theorem conv_own (w : World) (base : Nat) (v : Value) (n : Nat) (l : List UInt8) (h : w.ownsRow base 5 1 v n (ov l)) :
    (convert 28 9 v).run Try.prog w = .ok (.string ⟨l.toArray⟩) w := by
  by_cases hn : n = 0
  · have hl : l.length = n := by simpa [ov] using h.1
    obtain rfl : l = [] := List.eq_nil_of_length_eq_zero (by omega)
    rcases h.2 with ⟨rfl, _⟩ | ⟨g, cap, cur, rfl, _⟩
    · exact run_convert_bytes_nil _ 28 5 Try.underlying28 Try.underlying5 _ _ 9 Try.underlying9
    · subst hn
      exact run_convert_bytes_back w 28 9 5 ⟨g, 0, none⟩ cap [] Try.underlying28 Try.underlying5 Try.underlying9 (fun j hj => absurd hj (by simp))
  · exact conv_owned w base v n l h hn
set_option maxHeartbeats 4000000 in
theorem cur_bytes (B cb N m : Nat) (w : World) (h : CurAt w B cb N) (hN : N ≤ 800000) (hm : m ≤ 10) :
    Calls Try.prog 23 #[.pointer (some ⟨cb, 0, none⟩), .int .i64 (m : Int)] w fun e w' => (∃ r, e = .returned r ∧ ∃ l : List UInt8, l.length ≤ 10 ∧ w'.ownsRow w.heap.size 5 1 r l.length (ov l)) ∧ CurAt w' B cb (N + 20) ∧ But cb w w' := by
  obtain ⟨i0, hi, hz0, hz1, hz2⟩ := info_parts info_u8
  have hcl := h.lt
  have HC := hide h
  clear h
  go_enter Try.func23, Try.ntmps23
  go_wp2_with fail
  try rw [show (m : Int) + 1 = ((m + 1 : Nat) : Int) by omega]
  refine (cur_pick B cb N (m + 1) _ HC.out (by omega) (by omega)).mono ?_
  rintro e w1 ⟨⟨x, hx, rfl⟩, hc1, ho1⟩
  have hx4 : x ≤ 10 := by omega
  have HC1 := hide hc1
  have HB1 := hide ho1
  clear hc1 HC hx ho1
  go_wp2
  go_loopw [5, 6] (fun p r wr => ∃ (xs : List UInt8) (n : Nat) (ao : Option Addr) (c cnt : Nat), Hid (n = xs.length) ∧ n + cnt ≤ 10 ∧ p = .slice ao n c ∧ r = .int .i64 (cnt : Int) ∧ Hid (wr.ownsRow w.heap.size 5 1 (.slice ao n c) n (ov xs)) ∧ Hid (CurAt wr B cb (N + 20 - cnt)) ∧ Hid (But cb w wr)) (fun _ r _ => (intOf r).toNat)
  case atStart => exact ⟨[], 0, none, 0, x, hide rfl, by omega, rfl, rfl, hide (World.ownsRow_nil _ _ _ _), hide (HC1.out.more (by omega)), HB1⟩
  case round =>
    rename World => wr
    obtain ⟨xs, n, ao, c, cnt, hn, hnc, rfl, rfl, HO, HCr, HBr⟩ := hrel
    by_cases hcn : 0 < cnt
    · obtain ⟨cn, rfl⟩ : ∃ cn, cnt = cn + 1 := ⟨cnt - 1, by omega⟩
      have hgt : ((cn + 1 : Nat) : Int) > 0 := by omega
      go_wp2_with fail
      refine (cur_next B cb _ _ HCr.out (by omega)).mono ?_
      rintro e w6 ⟨⟨z, hz, rfl⟩, hc6, ho6⟩
      have hown := ho6.but.owns HO.out hcl
      have hcu := hc6.more (show _ ≤ N + 20 - cn by omega)
      have hbt := HBr.out.trans ho6.but
      have hsz := hbt.size
      clear HO HCr HBr hc6 ho6
      have HCu := hide hcu
      have HBt := hide hbt
      clear hcu hbt
      go_wp2_with (at_builtin; refine wpList_append_own _ rfl _ _ 28 rfl w.heap.size 5 i0 (.int .u8 0) 1 1 Try.underlying28 hi hz0 hz1 hz2 rfl (by decide) _ n _ rfl (hown.alloc _) ⟨w6.heap.size, 0, none⟩ 1 1 [.int .u8 (z : Int)] rfl rfl ?c1 ?c2 ?c3 ?c4 ?c5 ?_)
      try (case c1 => exact news1 w6 _ _)
      case c2 => first | rfl | (intro u hu; simp at hu; subst hu; rfl)
      case c3 => unfold maxLen; omega
      case c4 => omega
      case c5 => simp; omega
      intro v' w5 hown5 hgrow _
      have hbt5 : But cb w w5 := (HBt.out.trans (But.of_below ((Below.refl _ _).alloc (Nat.le_refl _) _))).grown hgrow (fun k hk => (hown.lt k hk).1)
      have HC5 := hide ((HCu.out.below ((Below.refl _ _).alloc (Nat.le_refl _) _)).grown (hown.alloc _) hcl hgrow)
      obtain ⟨a5, c5, rfl⟩ := own_form hown5
      have HO5 := hide (show w5.ownsRow w.heap.size 5 1 (.slice a5 (n + 1) c5) (n + 1) (ov (xs ++ [UInt8.ofNat z])) by rw [ov_snoc _ _ hz]; exact hown5)
      have HB5 := hide hbt5
      clear hown5 hgrow hown HCu HBt hbt5
      go_wp2
      exact ⟨⟨xs ++ [UInt8.ofNat z], n + 1, a5, c5, cn, hide (by simp [hn.out]), by omega, rfl, by go_num, HO5, HC5, HB5⟩, by simp [intOf]⟩
    · obtain rfl : cnt = 0 := by omega
      go_wp2
      go_ret
      exact ⟨⟨_, rfl, xs, by rw [← hn.out]; omega, by rw [← hn.out]; exact HO.out⟩, HCr.out.more (by omega), HBr.out⟩
theorem make_u8s (n : Nat) (h : n ≤ 1048576) (w : World) : (Instr.makeSlice 28 (.int .i64 (n : Int)) (.int .i64 (n : Int))).run Try.prog w = .ok (.slice (some ⟨w.heap.size, 0, none⟩) n n) (w.alloc (.cells (M.cf n (fun _ => .int .u8 0)) 5)) := by
  obtain ⟨i, hi, hz0, hz1, hz2⟩ := info_parts info_u8
  have hr := run_make (P := Try.prog) w 28 5 i _ Try.underlying28 hi hz0 .i64 .i64 (n : Int) (n : Int) (by omega) (Int.le_refl _) (by rw [hz2]; omega) (by omega)
  rw [hr, hz1]
  simp only [Int.toNat_natCast, Nat.mul_one]
  rw [← show madeCells #[(.int .u8 0 : Value)] n = M.cf n (fun _ => .int .u8 0) from M.cf_made _ n]
  rfl
theorem conv_zero (w : World) (n : Nat) : (convert 28 9 (.slice (some ⟨w.heap.size, 0, none⟩) n n)).run Try.prog (w.alloc (.cells (M.cf n (fun _ => .int .u8 0)) 5)) = .ok (.string ⟨(List.replicate n (0 : UInt8)).toArray⟩) (w.alloc (.cells (M.cf n (fun _ => .int .u8 0)) 5)) := by
  have hb := Blk.new w n (fun _ => .int .u8 0) 5
  have h := run_convert_bytes_back (P := Try.prog) (w.alloc (.cells (M.cf n (fun _ => .int .u8 0)) 5)) 28 9 5 ⟨w.heap.size, 0, none⟩ n (List.replicate n (0 : UInt8)) Try.underlying28 Try.underlying5 Try.underlying9 (fun j hj => by
    have hj' : j < n := by simpa using hj
    rw [show (⟨w.heap.size, 0, none⟩ : Addr).add j = ⟨w.heap.size, j, none⟩ by cases j <;> simp [Addr.add]]
    rw [hb.cell hj']
    simp)
  rw [List.length_replicate] at h
  exact h
set_option maxHeartbeats 2000000 in
theorem cur_raw (B cb N : Nat) (w : World) (h : CurAt w B cb N) (hN : N ≤ 700000) :
    Calls Try.prog 20 #[.pointer (some ⟨cb, 0, none⟩)] w fun e w' => (∃ s : ByteArray, e = .returned (.string s) ∧ s.size ≤ 61) ∧ CurAt w' B cb (N + 30) ∧ But cb w w' := by
  have HC := hide h
  clear h
  go_enter Try.func20, Try.ntmps20
  go_wp2_with fail
  refine (cur_one B cb N 20 _ HC.out (by omega) (by omega)).mono ?_
  rintro e w1 ⟨⟨b, rfl⟩, hc1, ho1⟩
  have H1 := hide (And.intro hc1 ho1)
  clear hc1 ho1 HC
  cases b
  · go_wp2_with fail
    refine (cur_pick B cb (N + 1) 8 _ H1.out.1 (by omega) (by omega)).mono ?_
    rintro e w2 ⟨⟨x, hx, rfl⟩, hc2, ho2⟩
    have H2 := hide (And.intro hc2 (H1.out.2.trans ho2))
    have hx8 : x ≤ 8 := by omega
    clear hc2 ho2 H1 hx
    go_wp2_with fail
    refine (cur_bytes B cb (N + 2) x _ H2.out.1 (by omega) (by omega)).mono ?_
    rintro e w3 ⟨⟨r, rfl, l, hl, hown⟩, hc3, ho3⟩
    have H3 := hide (And.intro hc3 (H2.out.2.trans ho3))
    have kc := conv_own w3 _ r _ _ hown
    clear hc3 ho3 H2 hown
    go_wp2
    go_ret
    exact ⟨⟨_, rfl, by simp [ByteArray.size]; omega⟩, H3.out.1.more (by omega), H3.out.2⟩
  · go_wp2_with fail
    refine (cur_pick B cb (N + 1) 2 _ H1.out.1 (by omega) (by omega)).mono ?_
    rintro e w2 ⟨⟨x, hx, rfl⟩, hc2, ho2⟩
    have H2 := hide (And.intro hc2 (H1.out.2.trans ho2))
    have hx8 : x ≤ 1 := by omega
    have hal := (Below.refl w2.heap.size w2).alloc (Nat.le_refl _) (.cells (M.cf (60 + x) (fun _ => .int .u8 0)) 5)
    have km := make_u8s (60 + x) (by omega) w2
    have kc := conv_zero w2 (60 + x)
    rw [show ((60 + x : Nat) : Int) = 60 + (x : Int) by omega] at km
    have H3 := hide (And.intro (H2.out.1.below hal) (H2.out.2.trans (But.of_below (cb := cb) hal)))
    clear hc2 ho2 H1 hx H2 hal
    go_wp2
    go_ret
    exact ⟨⟨_, rfl, by simp [ByteArray.size]; omega⟩, H3.out.1.more (by omega), H3.out.2⟩
set_option maxHeartbeats 1000000 in
theorem draw_sum (v : Value) (n : Nat) (f : Nat → Nat) (w : World) (hv : OctetsOf w v n f) (hn : n ≤ 1048576) :
    Calls Try.prog 19 #[v] w fun e w' => (∃ s : ByteArray, e = .returned (.string s) ∧ s.size ≤ 61) ∧ Below w.heap.size w w' := by
  obtain ⟨a, cap, rfl⟩ := hv.form
  have hal := (Below.refl w.heap.size w).alloc (Nat.le_refl _) (.cells #[.slice a n cap, .int .i64 0, .int .u64 0] 38)
  have HC := hide (cur_new hv hn)
  have HB := hide hal
  clear hv hal
  go_enter Try.func19, Try.ntmps19
  go_wp2_with fail
  refine (cur_raw w.heap.size w.heap.size 0 _ HC.out (by omega)).mono ?_
  rintro e w1 ⟨⟨x, rfl, hx0⟩, hc1, ho1⟩
  have hb1 := HB.out.trans (ho1.below (Nat.le_refl _) HB.out.size)
  clear hc1 ho1 HC HB
  go_wp2
  go_ret
  exact ⟨⟨x, rfl, hx0⟩, hb1⟩
theorem draw_frame (v : Value) (n : Nat) (f : Nat → Nat) (w : World) (hv : OctetsOf w v n f) (hn : n ≤ 1048576) :
    Calls Try.prog 13 #[v] w fun e w' => (∃ s : ByteArray, e = .returned (.string s) ∧ s.size ≤ 61) ∧ Below w.heap.size w w' := by
  obtain ⟨a, cap, rfl⟩ := hv.form
  have HV := hide hv
  clear hv
  go_enter Try.func13, Try.ntmps13
  go_wp2_with fail
  refine (draw_sum _ n f _ HV.out hn).mono ?_
  rintro e w1 ⟨⟨x, rfl, hx0⟩, hb1⟩
  go_wp2
  go_ret
  exact ⟨⟨x, rfl, hx0⟩, hb1⟩
end Go.Proofs.Ytoelclgpmjecmaa

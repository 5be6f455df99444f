/-
  Packets that go through a channel, all but one, and are taken at its other end by select: the program's carried.
-/
import Derived.Test.YtfjdbenbiakbbaaJoin5
import Derived.Test.YtfjdbenbiakbbaaJoin11
namespace Go.Proofs.Ytfjdbenbiakbbaa
open Go.RowKit M
open Go.Conc (scase rcase)
namespace M
/-- This frame and this world. -/
inductive At (a0 : Act) (w0 : World) : Act → World → Prop
  | mk : At a0 w0 a0 w0
/-- The first k of a list, without the one with number i. -/
def wo (l : Pks) (i k : Nat) : Pks := (l.take k).take i ++ (l.take k).drop (i + 1)
theorem wo_zero (l : Pks) (i : Nat) : wo l i 0 = [] := by simp [wo]
theorem wo_all (l : Pks) (i : Nat) : wo l i l.length = l.take i ++ l.drop (i + 1) := by simp [wo]
theorem wo_len (l : Pks) (i k : Nat) : (wo l i k).length ≤ k := by
  simp only [wo, List.length_append, List.length_take, List.length_drop]; omega
theorem wo_snoc {l : Pks} {i k : Nat} {x : Pk} (hx : l[k]? = some x) (hne : k ≠ i) : wo l i (k + 1) = wo l i k ++ [x] := by
  have hk : k < l.length := (List.getElem?_eq_some_iff.1 hx).1
  have hA : (l.take k).length = k := by rw [List.length_take]; omega
  unfold wo
  rw [take_snocA hx]
  rcases (show k < i ∨ i < k by omega) with h | h
  · have h1 : (l.take k ++ [x]).take i = l.take k ++ [x] := List.take_of_length_le (by simp; omega)
    have h2 : (l.take k ++ [x]).drop (i + 1) = [] := List.drop_eq_nil_of_le (by simp; omega)
    have h3 : (l.take k).take i = l.take k := List.take_of_length_le (by omega)
    have h4 : (l.take k).drop (i + 1) = [] := List.drop_eq_nil_of_le (by omega)
    rw [h1, h2, h3, h4]; simp
  · rw [List.take_append_of_le_length (by omega), List.drop_append_of_le_length (by omega), List.append_assoc]
theorem wo_same {l : Pks} {i : Nat} {x : Pk} (hx : l[i]? = some x) : wo l i (i + 1) = wo l i i := by
  have hk : i < l.length := (List.getElem?_eq_some_iff.1 hx).1
  have hA : (l.take i).length = i := by rw [List.length_take]; omega
  unfold wo
  rw [take_snocA hx, List.take_append_of_le_length (by omega), List.drop_eq_nil_of_le (by simp; omega), List.drop_eq_nil_of_le (by omega)]
/-- What holds when the channel is filled; ahead of each packet; while it is emptied. -/
def N2 (w : World) (l : Pks) (i : Nat) (a : Option Addr) (cap : Nat) (L : Array Value) (a' : Act) (wr : World) : Prop := ∃ (sN : Nat) (s6 s7 s14 s15 s16 s17 s18 s19 s20 s21 s22 s23 s13 : Value), a' = ⟨#[(.slice a l.length cap), (.int .i64 (i : Int)), undef, undef, .slice none 0 0, (.chan (some w.heap.size)), s6, s7, undef, undef, (.chan (some w.heap.size)), (.slice a l.length cap), .int .i64 (l.length : Int), s13, s14, s15, s16, s17, s18, s19, s20, s21, s22, s23, undef, undef, undef, undef, undef, undef, undef, undef, undef, undef], []⟩ ∧ wr.heap[w.heap.size]? = some (.chan 40 L false sN 0 false) ∧ Below w.heap.size w wr
def pvA (l : Pks) : Array Value := (l.map Pk.v).toArray
def I1 (w : World) (l : Pks) (i : Nat) (a : Option Addr) (cap n : Nat) (a' : Act) (wr : World) : Prop := ∃ (k sN : Nat) (z : Int) (s6 s7 s14 s15 s16 s17 s18 s19 s20 s21 s22 s23 : Value), k ≤ l.length ∧ n = l.length - k ∧ z = (k : Int) ∧ a' = ⟨#[(.slice a l.length cap), (.int .i64 (i : Int)), undef, undef, .slice none 0 0, (.chan (some w.heap.size)), s6, s7, undef, undef, (.chan (some w.heap.size)), (.slice a l.length cap), .int .i64 (l.length : Int), .int .i64 z, s14, s15, s16, s17, s18, s19, s20, s21, s22, s23, undef, undef, undef, undef, undef, undef, undef, undef, undef, undef], []⟩ ∧ wr.heap[w.heap.size]? = some (.chan 40 (pvA (wo l i k)) false sN 0 false) ∧ Below w.heap.size w wr
def I2 (w : World) (l : Pks) (i : Nat) (a : Option Addr) (cap : Nat) (L : Pks) (sN : Nat) (s6 s7 s14 s15 s16 s17 s18 s19 s20 s21 s22 s23 s13 : Value) (n : Nat) (a' : Act) (wr : World) : Prop := ∃ (j sr no co : Nat) (ao : Option Addr) (s9 s24 s25 s26 s27 s28 s29 s30 s31 s32 s33 : Value), j ≤ L.length ∧ n = L.length - j ∧ a' = ⟨#[(.slice a l.length cap), (.int .i64 (i : Int)), undef, undef, .slice none 0 0, (.chan (some w.heap.size)), s6, s7, .slice ao no co, s9, (.chan (some w.heap.size)), (.slice a l.length cap), .int .i64 (l.length : Int), s13, s14, s15, s16, s17, s18, s19, s20, s21, s22, s23, s24, s25, s26, s27, s28, s29, s30, s31, s32, s33], []⟩ ∧ OwnP wr (w.heap.size + 1) (.slice ao no co) (L.take j) ∧ wr.heap[w.heap.size]? = some (.chan 40 (pvA (L.drop j)) false sN sr false) ∧ Below w.heap.size w wr
theorem pvA_push (l : Pks) (x : Pk) : (pvA l).push x.v = pvA (l ++ [x]) := by simp [pvA]
theorem pvA_size (l : Pks) : (pvA l).size = l.length := by simp [pvA]
theorem pvA_cons (x : Pk) (l : Pks) : (pvA (x :: l)).getD 0 undef = x.v ∧ (pvA (x :: l)).extract 1 (pvA (x :: l)).size = pvA l := by
  constructor
  · simp [pvA]
  · unfold pvA
    rw [List.size_toArray, List.extract_toArray, List.map_cons, List.extract_eq_take_drop]
    simp only [List.drop_succ_cons, List.drop_zero, List.length_cons, Nat.add_sub_cancel]
    rw [List.take_length]
theorem heap_chan_alloc {w : World} {c : Nat} {o : Obj} (h : w.heap[c]? = some o) (o2 : Obj) : (w.alloc o2).heap[c]? = some o := by
  have hc : c < w.heap.size := (Array.getElem?_eq_some_iff.1 h).1
  have := ((Below.refl w.heap.size w).alloc (Nat.le_refl _) o2).block c hc
  rw [this]; exact h
theorem OwnP.chan {w : World} {B c : Nat} {v : Value} {l : Pks} (h : OwnP w B v l) (hc : c < B) (cap : Nat) (buf : Array Value) (cl : Bool) (s r : Nat) (tm : Bool) : OwnP (w.setChan c cap buf cl s r tm) B v l := by
  refine ⟨h.1, ?_⟩
  rcases h.2 with h0 | ⟨g, cp, cur, hv, hBg, hb, r⟩
  · exact .inl h0
  · refine .inr ⟨g, cp, cur, hv, hBg, ?_, r⟩
    simp only [World.setChan]
    rw [Array.getElem?_setIfInBounds_ne (by omega)]
    exact hb
end M
theorem make_chan (w : World) : (Instr.makeChan 117 (.int .i64 40)).run Try.prog w = .ok (.chan (some w.heap.size)) (w.alloc (.chan 40 #[] false 0 0 false)) := by
  obtain ⟨i, hi, hz0, hz1, hz2⟩ := info_parts info_pk
  have := Go.Conc.run_makeChan (P := Try.prog) (w := w) Try.underlying117 hi .i64 40 (by omega) (by rw [hz2]; omega)
  simpa using this
set_option maxRecDepth 100000 in
set_option maxHeartbeats 4000000 in
theorem carried_pks (v : Value) (l : Pks) (i : Nat) (w : World) (hv : PksOf w v l) (hl : l.length ≤ 40) (hi : i < l.length) :
    Calls Try.prog 91 #[v, .int .i64 (i : Int)] w fun e w' => (∃ a n c, e = .returned (.slice a n c) ∧ OwnP w' w.heap.size (.slice a n c) (l.take i ++ l.drop (i + 1))) ∧ Below w.heap.size w w' := by
  obtain ⟨a, cap, rfl, hr⟩ := hv
  have HR := hide hr
  clear hr
  have hmc := make_chan
  refine calls_cn Try.func91 rfl ?_ (by rintro w ⟨⟨_, _, _, h, _⟩, _⟩; cases h)
  simp only [Try.ntmps91, List.size_toArray, List.length_cons, List.length_nil, Nat.reduceAdd, Nat.reduceSub, Array.replicate_succ, Array.replicate_zero, List.push_toArray, List.append_toArray, List.nil_append, List.cons_append]
  refine cn_seq (At ⟨#[(.slice a l.length cap), (.int .i64 (i : Int)), undef, undef, .slice none 0 0, undef, undef, undef, undef, undef, undef, undef, undef, undef, undef, undef, undef, undef, undef, undef, undef, undef, undef, undef, undef, undef, undef, undef, undef, undef, undef, undef, undef, undef], []⟩ (w)) (cn_wp ?_) ?_
  · go_wp2
    exact .mk
  rintro _ _ ⟨⟩
  refine cn_seq (At ⟨#[(.slice a l.length cap), (.int .i64 (i : Int)), undef, undef, .slice none 0 0, (.chan (some w.heap.size)), undef, undef, undef, undef, (.chan (some w.heap.size)), undef, undef, undef, undef, undef, undef, undef, undef, undef, undef, undef, undef, undef, undef, undef, undef, undef, undef, undef, undef, undef, undef, undef], []⟩ ((w.alloc (.chan 40 #[] false 0 0 false)))) (cn_wp ?_) ?_
  · go_wp2
    exact .mk
  rintro _ _ ⟨⟩
  clear hmc
  refine cn_seq (N2 w l i a cap (pvA (l.take i ++ l.drop (i + 1)))) ?_ ?_
  · refine cn_seq (At ⟨#[(.slice a l.length cap), (.int .i64 (i : Int)), undef, undef, .slice none 0 0, (.chan (some w.heap.size)), undef, undef, undef, undef, (.chan (some w.heap.size)), (.slice a l.length cap), .int .i64 (l.length : Int), .int .i64 0, undef, undef, undef, undef, undef, undef, undef, undef, undef, undef, undef, undef, undef, undef, undef, undef, undef, undef, undef, undef], []⟩ ((w.alloc (.chan 40 #[] false 0 0 false)))) (cn_wp ?_) ?_
    · go_wp2
      exact .mk
    rintro _ _ ⟨⟩
    refine cn_block ?_
    refine cn_loop (I1 w l i a cap) (n := l.length) ⟨0, 0, 0, undef, undef, undef, undef, undef, undef, undef, undef, undef, undef, undef, undef, Nat.zero_le _, rfl, rfl, rfl, ?_, (Below.refl _ w).alloc (Nat.le_refl _) _⟩ ?_
    · rw [wo_zero]; exact heap_alloc_new _ _
    intro n a' wr hN
    obtain ⟨k, sN, z, s6, s7, s14, s15, s16, s17, s18, s19, s20, s21, s22, s23, hk, rfl, hz, rfl, hch, hbw⟩ := hN
    have HCH := hide hch
    clear hch
    by_cases hlt : k < l.length
    case neg =>
      have hz2 : ¬ (z < (l.length : Int)) := by omega
      have HZ := hide hz
      clear hz
      refine cn_wp ?_
      go_wp2
      have hkk : k = l.length := by omega
      have hch := HCH.out
      rw [hkk, wo_all] at hch
      exact ⟨sN, _, _, _, _, _, _, _, _, _, _, _, _, _, rfl, hch, hbw⟩
    have hz2 : z < (l.length : Int) := by omega
    have hz0 : 0 ≤ z := by omega
    obtain ⟨b, off, rfl, hb, hrow⟩ := HR.out (by omega)
    obtain ⟨x, hx⟩ : ∃ x, l[k]? = some x := ⟨l[k], List.getElem?_eq_getElem hlt⟩
    obtain ⟨c0, c1, c2⟩ := (hrow k x hx).below hbw hb
    have HX := hide hx
    clear hrow hx HR
    have hzk : z.toNat = k := by omega
    have HZ := hide hz
    clear hz
    have hbw2 := hbw.alloc hbw.size (.cells #[.bool x.ack, .int .i64 x.no, .string x.tx] 88)
    by_cases hki : k = i
    · subst hki
      obtain rfl : z = (k : Int) := HZ.out
      clear HZ hz2 hz0 hzk
      have hz2 : (k : Int) < (l.length : Int) := by omega
      have hch := heap_chan_alloc HCH.out (.cells #[.bool x.ack, .int .i64 x.no, .string x.tx] 88)
      rw [← wo_same HX.out] at hch
      have HCH2 := hide hch
      clear HCH hch
      refine cn_wp ?_
      go_wp2
      exact ⟨_, (by omega : l.length - (k + 1) < l.length - k), ⟨k + 1, sN, (k : Int) + 1, _, _, _, _, _, _, _, _, _, _, _, _, by omega, rfl, by omega, rfl, HCH2.out, hbw2⟩⟩
    · have hzi : (z != (i : Int)) = true := by simp only [bne_iff_ne, ne_eq]; have := HZ.out; omega
      refine cn_seq (At ⟨#[(.slice (some ⟨b, off, none⟩) l.length cap), (.int .i64 (i : Int)), undef, undef, .slice none 0 0, (.chan (some w.heap.size)), s6, s7, undef, undef, (.chan (some w.heap.size)), (.slice (some ⟨b, off, none⟩) l.length cap), .int .i64 (l.length : Int), .int .i64 z, .bool true, s15, s16, s17, s18, s19, s20, s21, s22, s23, undef, undef, undef, undef, undef, undef, undef, undef, undef, undef], []⟩ (wr)) (cn_wp ?_) ?_
      · go_wp2
        exact .mk
      rintro _ _ ⟨⟩
      refine cn_seq (At ⟨#[(.slice (some ⟨b, off, none⟩) l.length cap), (.int .i64 (i : Int)), undef, undef, .slice none 0 0, (.chan (some w.heap.size)), s6, s7, undef, undef, (.chan (some w.heap.size)), (.slice (some ⟨b, off, none⟩) l.length cap), .int .i64 (l.length : Int), .int .i64 z, .bool true, s15, s16, s17, s18, s19, s20, s21, s22, s23, undef, undef, undef, undef, undef, undef, undef, undef, undef, undef], []⟩ (wr)) (cn_wp ?_) ?_
      · go_wp2
        exact .mk
      rintro _ _ ⟨⟩
      refine cn_seq (At ⟨#[(.slice (some ⟨b, off, none⟩) l.length cap), (.int .i64 (i : Int)), undef, undef, .slice none 0 0, (.chan (some w.heap.size)), .int .i64 z, .pointer (some ⟨wr.heap.size, 0, none⟩), undef, undef, (.chan (some w.heap.size)), (.slice (some ⟨b, off, none⟩) l.length cap), .int .i64 (l.length : Int), .int .i64 z, .bool true, .int .i64 z, .pointer (some ⟨b, off + k * 3, none⟩), x.v, .int .i64 z, .int .i64 (i : Int), .bool true, (.chan (some w.heap.size)), x.v, s23, undef, undef, undef, undef, undef, undef, undef, undef, undef, undef], []⟩ (((wr.alloc (.cells #[.bool x.ack, .int .i64 x.no, .string x.tx] 88)).setChan w.heap.size 40 ((pvA (wo l i k)).push x.v) false (sN + 1) 0 false))) ?_ ?_
      · refine cn_block ?_
        refine cn_seq (At ⟨#[(.slice (some ⟨b, off, none⟩) l.length cap), (.int .i64 (i : Int)), undef, undef, .slice none 0 0, (.chan (some w.heap.size)), .int .i64 z, .pointer (some ⟨wr.heap.size, 0, none⟩), undef, undef, (.chan (some w.heap.size)), (.slice (some ⟨b, off, none⟩) l.length cap), .int .i64 (l.length : Int), .int .i64 z, .bool true, .int .i64 z, .pointer (some ⟨b, off + k * 3, none⟩), x.v, s18, s19, s20, s21, s22, s23, undef, undef, undef, undef, undef, undef, undef, undef, undef, undef], []⟩ ((wr.alloc (.cells #[.bool x.ack, .int .i64 x.no, .string x.tx] 88)))) (cn_wp ?_) ?_
        · go_wp2
          exact .mk
        rintro _ _ ⟨⟩
        refine cn_seq (At ⟨#[(.slice (some ⟨b, off, none⟩) l.length cap), (.int .i64 (i : Int)), undef, undef, .slice none 0 0, (.chan (some w.heap.size)), .int .i64 z, .pointer (some ⟨wr.heap.size, 0, none⟩), undef, undef, (.chan (some w.heap.size)), (.slice (some ⟨b, off, none⟩) l.length cap), .int .i64 (l.length : Int), .int .i64 z, .bool true, .int .i64 z, .pointer (some ⟨b, off + k * 3, none⟩), x.v, .int .i64 z, .int .i64 (i : Int), .bool true, s21, s22, s23, undef, undef, undef, undef, undef, undef, undef, undef, undef, undef], []⟩ ((wr.alloc (.cells #[.bool x.ack, .int .i64 x.no, .string x.tx] 88)))) (cn_wp ?_) ?_
        · go_wp2
          exact .mk
        rintro _ _ ⟨⟩
        refine cn_cond (t := true) rfl ?_
        refine cn_region ?_
        refine on_value (v := (.chan (some w.heap.size))) (w' := (wr.alloc (.cells #[.bool x.ack, .int .i64 x.no, .string x.tx] 88))) rfl rfl (by simp [go_sem, execOp, Act.eval]) ?_
        refine on_value (v := x.v) (w' := (wr.alloc (.cells #[.bool x.ack, .int .i64 x.no, .string x.tx] 88))) rfl rfl (by go_simp) ?_
        refine on_send (c := w.heap.size) (v := x.v) rfl rfl (w' := (wr.alloc (.cells #[.bool x.ack, .int .i64 x.no, .string x.tx] 88))) (z := .tuple #[]) (by simp [execOp, scase, Act.eval, Act.put]) (heap_chan_alloc HCH.out _) (by rw [pvA_size]; have := wo_len l i k; omega) ?_
        exact on_end .mk
      rintro _ _ ⟨⟩
      have HCH2 := hide (show ((wr.alloc (.cells #[.bool x.ack, .int .i64 x.no, .string x.tx] 88)).setChan w.heap.size 40 ((pvA (wo l i k)).push x.v) false (sN + 1) 0 false).heap[w.heap.size]? = some (.chan 40 (pvA (wo l i (k + 1))) false (sN + 1) 0 false) from by
        rw [wo_snoc HX.out hki, ← pvA_push]
        exact Go.Conc.heap_setChan _ _ _ _ _ _ _ _ (by have := (Array.getElem?_eq_some_iff.1 HCH.out).1; simp; omega))
      have hbw3 := Go.Conc.below_setChan hbw2 (Nat.le_refl w.heap.size) 40 ((pvA (wo l i k)).push x.v) false (sN + 1) 0 false
      generalize ((wr.alloc (.cells #[.bool x.ack, .int .i64 x.no, .string x.tx] 88)).setChan w.heap.size 40 ((pvA (wo l i k)).push x.v) false (sN + 1) 0 false) = wz at *
      refine cn_wp ?_
      clear HCH c0 c1 c2
      go_wp2
      exact ⟨_, (by omega : l.length - (k + 1) < l.length - k), ⟨k + 1, sN + 1, z + 1, _, _, _, _, _, _, _, _, _, _, _, _, by omega, rfl, by have := HZ.out; omega, rfl, HCH2.out, hbw3⟩⟩
  intro a' wq hN
  obtain ⟨sN, s6, s7, s14, s15, s16, s17, s18, s19, s20, s21, s22, s23, s13, rfl, hch, hbq⟩ := hN
  refine cn_seq (At ⟨#[(.slice a l.length cap), (.int .i64 (i : Int)), undef, undef, .slice none 0 0, (.chan (some w.heap.size)), s6, s7, .slice none 0 0, undef, (.chan (some w.heap.size)), (.slice a l.length cap), .int .i64 (l.length : Int), s13, s14, s15, s16, s17, s18, s19, s20, s21, s22, s23, undef, undef, undef, undef, undef, undef, undef, undef, undef, undef], []⟩ (wq)) (cn_wp ?_) ?_
  · clear hch
    go_wp2
    exact .mk
  rintro _ _ ⟨⟩
  have hLen : (l.take i ++ l.drop (i + 1)).length ≤ 40 := by simp only [List.length_append, List.length_take, List.length_drop]; omega
  generalize (l.take i ++ l.drop (i + 1)) = L at *
  clear HR hi hl
  have hcs := (Array.getElem?_eq_some_iff.1 hch).1
  refine cn_block ?_
  refine cn_loop (I2 w l i a cap L sN s6 s7 s14 s15 s16 s17 s18 s19 s20 s21 s22 s23 s13) (n := L.length) ⟨0, 0, 0, 0, none, undef, undef, undef, undef, undef, undef, undef, undef, undef, undef, undef, Nat.zero_le _, rfl, rfl, OwnP.nil _ _, hch, hbq⟩ ?_
  intro n a' wr hN
  obtain ⟨j, sr, no, co, ao, s9, s24, s25, s26, s27, s28, s29, s30, s31, s32, s33, hj, rfl, rfl, hO, hch2, hbw⟩ := hN
  clear hch hbq hcs
  refine cn_block ?_
  have HO := hide hO
  have HCH := hide hch2
  clear hO hch2
  refine cn_seq (At ⟨#[(.slice a l.length cap), (.int .i64 (i : Int)), undef, undef, .slice none 0 0, (.chan (some w.heap.size)), s6, s7, .slice ao no co, s9, (.chan (some w.heap.size)), (.slice a l.length cap), .int .i64 (l.length : Int), s13, s14, s15, s16, s17, s18, s19, s20, s21, s22, s23, (.chan (some w.heap.size)), s25, s26, s27, s28, s29, s30, s31, s32, s33], []⟩ (wr)) (cn_wp ?_) ?_
  · go_wp2
    exact .mk
  rintro _ _ ⟨⟩
  by_cases hlt : j < L.length
  · obtain ⟨x, hx⟩ : ∃ x, L[j]? = some x := ⟨L[j], List.getElem?_eq_getElem hlt⟩
    have hd : L.drop j = x :: L.drop (j + 1) := by
      rw [List.drop_eq_getElem_cons hlt]
      rw [List.getElem?_eq_getElem hlt] at hx
      simp at hx; rw [hx]
    have hch := HCH.out
    rw [hd] at hch
    have HX := hide hx
    clear hx hd HCH
    have hcl := (Array.getElem?_eq_some_iff.1 hch).1
    refine cn_seq (At ⟨#[(.slice a l.length cap), (.int .i64 (i : Int)), undef, undef, .slice none 0 0, (.chan (some w.heap.size)), s6, s7, .slice ao no co, s9, (.chan (some w.heap.size)), (.slice a l.length cap), .int .i64 (l.length : Int), s13, s14, s15, s16, s17, s18, s19, s20, s21, s22, s23, (.chan (some w.heap.size)), .tuple #[goInt 0, .bool true, x.v], goInt 0, .bool true, s28, s29, s30, s31, s32, s33], []⟩ (wr.setChan w.heap.size 40 (pvA (L.drop (j + 1))) false sN (sr + 1) false)) ?_ ?_
    · refine cn_region ?_
      refine on_took (c := w.heap.size) (z := .agg #[.bool false, .int .i64 0, .string ⟨#[]⟩]) (w' := wr) rfl rfl (by simp [go_sem, execOp, rcase, Act.eval]) hch (by rw [pvA_size]; simp) ?_
      rw [(pvA_cons x (L.drop (j + 1))).1, (pvA_cons x (L.drop (j + 1))).2]
      refine on_value (v := goInt 0) (w' := wr.setChan w.heap.size 40 (pvA (L.drop (j + 1))) false sN (sr + 1) false) rfl rfl (by simp [go_sem, execOp, Act.eval, Act.put]) ?_
      refine on_value (v := .bool true) (w' := wr.setChan w.heap.size 40 (pvA (L.drop (j + 1))) false sN (sr + 1) false) rfl rfl (by simp [go_sem, execOp, Act.eval, Act.put]) ?_
      exact on_end .mk
    rintro _ _ ⟨⟩
    have hown := HO.out.chan (c := w.heap.size) (by omega) 40 (pvA (L.drop (j + 1))) false sN (sr + 1) false
    have hbw2 := Go.Conc.below_setChan hbw (Nat.le_refl w.heap.size) 40 (pvA (L.drop (j + 1))) false sN (sr + 1) false
    have hch2 := Go.Conc.heap_setChan wr w.heap.size 40 (pvA (L.drop (j + 1))) false sN (sr + 1) false hcl
    generalize wr.setChan w.heap.size 40 (pvA (L.drop (j + 1))) false sN (sr + 1) false = wz at *
    clear HO hch hcl hbw
    have hcl := (Array.getElem?_eq_some_iff.1 hch2).1
    have hown3 := (hown.alloc (.cells #[.bool x.ack, .int .i64 x.no, .string x.tx] 88)).alloc (.cells #[.bool x.ack, .int .i64 x.no, .string x.tx] 88)
    have hlit := lit_pk (p := x) (newT3 (wz.alloc (.cells #[.bool x.ack, .int .i64 x.no, .string x.tx] 88)) (.bool x.ack) (.int .i64 x.no) (.string x.tx) 88)
    rw [World.size_alloc] at hlit
    have hch3 := heap_chan_alloc (heap_chan_alloc hch2 (.cells #[.bool x.ack, .int .i64 x.no, .string x.tx] 88)) (.cells #[.bool x.ack, .int .i64 x.no, .string x.tx] 88)
    have hbw3 := (hbw2.alloc hbw2.size (.cells #[.bool x.ack, .int .i64 x.no, .string x.tx] 88)).alloc (by have := hbw2.size; simp; omega) (.cells #[.bool x.ack, .int .i64 x.no, .string x.tx] 88)
    have HCH3 := hide hch3
    have hsz : w.heap.size + 1 ≤ wz.heap.size := by omega
    clear hch3 hch2 hown
    refine cn_wp ?_
    go_wp2_with (at_builtin; refine wpList_appP _ rfl _ _ rfl (w.heap.size + 1) (L.take j) [x] _ _ rfl hown3 rfl hlit (by rw [List.length_take]; simp; omega) (by simp; omega) ?_)
    intro a4 n4 c4 w4 hO4 hgr _
    have hbw4 : Below w.heap.size w w4 := hbw3.grown hgr (by have := hbw2.size; simp; omega) (fun j hj => by have := (hown3.lt hj).1; omega)
    have hch4 : w4.heap[w.heap.size]? = some (.chan 40 (pvA (L.drop (j + 1))) false sN (sr + 1) false) := by
      rw [hgr.block w.heap.size (by simp; omega) (fun e => by have := (hown3.lt e.symm).1; omega)]
      exact HCH3.out
    have HO4 := hide (show OwnP w4 (w.heap.size + 1) (.slice a4 n4 c4) (L.take (j + 1)) from by rw [take_snocA HX.out]; exact hO4)
    have HC4 := hide hch4
    clear hO4 hgr hown3 hlit hbw2 hbw3 HCH3 hch4
    go_wp2
    exact ⟨_, (by omega : L.length - (j + 1) < L.length - j), ⟨j + 1, sr + 1, n4, c4, a4, _, _, _, _, _, _, _, _, _, _, _, by omega, rfl, rfl, HO4.out, HC4.out, hbw4⟩⟩
  · have hjj : j = L.length := by omega
    have hch := HCH.out
    have hO := HO.out
    rw [hjj, List.drop_length] at hch
    rw [hjj, List.take_length] at hO
    have HO2 := hide (OwnP.mono hO (Nat.le_succ w.heap.size))
    clear HO HCH hO
    refine cn_seq (At ⟨#[(.slice a l.length cap), (.int .i64 (i : Int)), undef, undef, .slice none 0 0, (.chan (some w.heap.size)), s6, s7, .slice ao no co, s9, (.chan (some w.heap.size)), (.slice a l.length cap), .int .i64 (l.length : Int), s13, s14, s15, s16, s17, s18, s19, s20, s21, s22, s23, (.chan (some w.heap.size)), .tuple #[goInt (-1), .bool false, .agg #[.bool false, .int .i64 0, .string ⟨#[]⟩]], goInt (-1), .bool false, s28, s29, s30, s31, s32, s33], []⟩ (wr)) ?_ ?_
    · refine cn_region ?_
      refine on_none (c := w.heap.size) (z := .agg #[.bool false, .int .i64 0, .string ⟨#[]⟩]) (w' := wr) rfl rfl (by simp [go_sem, execOp, rcase, Act.eval]) hch ?_
      refine on_value (v := goInt (-1)) (w' := wr) rfl rfl (by simp [go_sem, execOp, Act.eval, Act.put]) ?_
      refine on_value (v := .bool false) (w' := wr) rfl rfl (by simp [go_sem, execOp, Act.eval, Act.put]) ?_
      exact on_end .mk
    rintro _ _ ⟨⟩
    refine cn_wp ?_
    clear hch
    go_wp2
    exact bodyPost_ret (v := .slice ao no co) (by simp [results, Try.results91, go_sem]) rfl ⟨⟨_, _, _, rfl, HO2.out⟩, hbw⟩
end Go.Proofs.Ytfjdbenbiakbbaa

/-
  slices.Repeat of one number; stores in a row.
-/
import Derived.Test.YtkfnfgencaplfaaPlanL
import Derived.Test.YtkfnfgencaplfaaShelf
import Derived.Deep.RegionLaw
import Derived.Laws.IdiomCopy
namespace Go.Proofs.Ytkfnfgencaplfaa
open Go.RowKit M
open Clk (upd upd_same upd_other)
namespace M
/-- What a row of stores leaves. -/
def put (h : Nat → Value) (o : Nat) (vs : List Value) : Nat → Value := fun i => if o ≤ i then (vs[i - o]?).getD (h i) else h i
theorem put_nil (h : Nat → Value) (o : Nat) : put h o [] = h := by funext i; unfold put; split <;> simp
theorem put_cons (h : Nat → Value) (o : Nat) (v : Value) (vs : List Value) : put (upd h o v) (o + 1) vs = put h o (v :: vs) := by
  funext i
  unfold put upd
  by_cases h1 : i = o
  · subst h1
    rw [if_neg (by omega), if_pos rfl, if_pos (Nat.le_refl _)]; simp
  · by_cases h2 : o ≤ i
    · rw [if_pos (by omega), if_pos h2, if_neg h1, show i - o = (i - (o + 1)) + 1 by omega]; simp
    · rw [if_neg (by omega), if_neg h2, if_neg h1]
theorem Blk.setCells {g n : Nat} {t : TypeId} : ∀ (vs : List Value) (o : Nat) (h : Nat → Value) (w : World), Blk w g n h t → Blk (w.setCells g o vs) g n (put h o vs) t
  | [], o, h, w, hb => by rw [put_nil]; exact hb
  | v :: vs, o, h, w, hb => by
    rw [World.setCells, ← put_cons]
    exact Blk.setCells vs (o + 1) _ _ (hb.set o v)
theorem below_setCells {B g : Nat} (hg : B ≤ g) {a : World} : ∀ (vs : List Value) (o : Nat) (w : World), Below B a w → Below B a (w.setCells g o vs)
  | [], _, _, hb => hb
  | v :: vs, o, w, hb => by rw [World.setCells]; exact below_setCells hg vs (o + 1) _ (hb.setCell hg v)
def fil (m : Nat) : Nat → Value := fun i => if i < m then .int .i64 3001 else .int .i64 0
theorem fil_put (m j : Nat) : put (fil m) m (List.replicate j (.int .i64 3001)) = fil (m + j) := by
  funext i
  unfold put fil
  by_cases h1 : m ≤ i
  · rw [if_pos h1, if_neg (by omega)]
    by_cases h2 : i < m + j
    · rw [if_pos h2, List.getElem?_replicate, if_pos (by omega)]; rfl
    · rw [if_neg h2, List.getElem?_replicate, if_neg (by omega)]; rfl
  · rw [if_neg h1, if_pos (by omega), if_pos (by omega)]
theorem rep_one (j : Nat) : ∀ v ∈ List.replicate j (Value.int .i64 3001), v.oneCell' = true := by
  intro v hv
  rw [List.eq_of_mem_replicate hv]; rfl
theorem rep_src {w : World} {g n m j : Nat} {t : TypeId} (h : Blk w g n (fil m) t) (hm : m ≤ n) (hj : j ≤ m) : ∀ i v, (List.replicate j (Value.int .i64 3001))[i]? = some v → w.cell? ((⟨g, 0, none⟩ : Addr).add i) = some v := by
  intro i v hv
  rw [List.getElem?_replicate] at hv
  split at hv
  · rename_i hi
    simp only [Option.some.injEq] at hv
    subst hv
    rw [Addr.add_lit, Nat.zero_add, h.cell (by omega)]
    unfold fil; rw [if_pos (by omega)]
  · cases hv
end M
theorem wpList_copy_c {P : Program} {w : World} {ops : Array Oper} {rest : List Oper} {o : Oper} {a : Act} {Q : Exit → Act → World → Prop} (hgd : o.guard = none) (d s : Operand) (dT sT : TypeId)
    (ho : o.op = .call { callee := .builtin .copy, args := #[d, s], argTypes := #[dT, sT] }) (elem : TypeId) (hu : P.underlying dT = some (.slice elem)) (hsz : (P.info? elem).map (·.size) = some 1)
    (b off dLen dCap : Nat) (ad : Addr) (sLen sCap : Nat) (hd : a.eval d = .slice (some ⟨b, off, none⟩) dLen dCap) (hs : a.eval s = .slice (some ad) sLen sCap) (cs : List Value) (hn : cs.length = Nat.min sLen dLen)
    (hsrc : ∀ j v, cs[j]? = some v → w.cell? (ad.add j) = some v) (hc : ∀ j, j < cs.length → (w.cell? ⟨b, off + j, none⟩).isSome = true) (hf : ∀ j, j < cs.length → w.frozen? ⟨b, off + j, none⟩ = false) (h1 : ∀ v ∈ cs, v.oneCell' = true)
    (h : wpList P ops Q rest (a.put o.dst (goInt cs.length)) (w.setCells b off cs)) : wpList P ops Q (o :: rest) a w := by
  refine wpList_plain hgd fun K hK => ?_
  have hrun := run_copy_cells (P := P) w dT sT o.type elem b off dLen dCap ad sLen sCap cs hu hsz hn hsrc hc hf h1
  unfold Oper.wp
  simp [execOp, ho, resolve, invoke, builtin, hd, hs, hrun, Result.andThen]
  exact hK _ _ h
theorem step_copy {P : Program} {ops : Array Oper} {o : Oper} {a : Act} {w : World} {K : Act → World → Prop} {Q : Exit → Act → World → Prop} {E : Prop}
    (hgd : o.guard = none) (d s : Operand) (dT sT : TypeId) (ho : o.op = .call { callee := .builtin .copy, args := #[d, s], argTypes := #[dT, sT] }) (elem : TypeId) (hu : P.underlying dT = some (.slice elem)) (hsz : (P.info? elem).map (·.size) = some 1)
    (b off dLen dCap : Nat) (ad : Addr) (sLen sCap : Nat) (hd : a.eval d = .slice (some ⟨b, off, none⟩) dLen dCap) (hs : a.eval s = .slice (some ad) sLen sCap) (cs : List Value) (hn : cs.length = Nat.min sLen dLen)
    (hsrc : ∀ j v, cs[j]? = some v → w.cell? (ad.add j) = some v) (hc : ∀ j, j < cs.length → (w.cell? ⟨b, off + j, none⟩).isSome = true) (hf : ∀ j, j < cs.length → w.frozen? ⟨b, off + j, none⟩ = false) (h1 : ∀ v ∈ cs, v.oneCell' = true)
    (hK : K (a.put o.dst (goInt cs.length)) (w.setCells b off cs)) :
    if Region.wanted o (yielded ops a.tmps) = true then Oper.wp P o a w K Q else E := by
  have hw : Region.wanted o (yielded ops a.tmps) = true := by simp [Region.wanted, hgd]
  rw [if_pos hw]
  have hrun := run_copy_cells (P := P) w dT sT o.type elem b off dLen dCap ad sLen sCap cs hu hsz hn hsrc hc hf h1
  unfold Oper.wp
  simp [execOp, ho, resolve, invoke, builtin, hd, hs, hrun, Result.andThen]
  exact hK
theorem mul_one_n (n : Nat) (hn : n ≤ 30) (w : World) :
    Calls Try.prog 85 #[.int .u64 1, .int .u64 (n : Int)] w fun e w' => e = .returned (.tuple #[.int .u64 0, .int .u64 (n : Int)]) ∧ w' = w := by
  have h := Try.bits_Mul 1 n (by omega) (by omega) w
  rw [Nat.one_mul, Nat.div_eq_of_lt (by omega), Nat.mod_eq_of_lt (by omega)] at h
  exact h
set_option maxRecDepth 20000 in
set_option maxHeartbeats 1000000 in
theorem repeat_is (b n : Nat) (w : World) (hb : w.cell? ⟨b, 0, none⟩ = some (.int .i64 3001)) (hn : n ≤ 30) :
    Calls Try.prog 67 #[.slice (some ⟨b, 0, none⟩) 1 1, .int .i64 (n : Int)] w fun e w' => (e = .returned (.slice (some ⟨w.heap.size, 0, none⟩) n n) ∧ Blk w' w.heap.size n (fil n) 3) ∧ Below w.heap.size w w' := by
  have hmk := make_ints n (by omega)
  have hbl := World.block_lt_of_cell? _ _ hb
  have h0 : Blk (w.alloc (.cells (cf n (iv fun _ => 0)) 3)) w.heap.size n (fil 0) 3 := (Blk.new w n (iv fun _ => 0) 3).ext fun i _ => by unfold iv fil; rw [if_neg (by omega)]
  have hbA := (Below.refl w.heap.size w).alloc (Nat.le_refl _) (.cells (cf n (iv fun _ => 0)) 3)
  have hbc := (hbA.cell (p := ⟨b, 0, none⟩) hbl).trans hb
  have HB1 := hide (show Blk ((w.alloc (.cells (cf n (iv fun _ => 0)) 3)).setCells w.heap.size 0 (List.replicate (min 1 n) (.int .i64 3001))) w.heap.size n (fil (min 1 n)) 3 from by
    have := Blk.setCells (List.replicate (min 1 n) (.int .i64 3001)) 0 (fil 0) _ h0
    rw [fil_put, Nat.zero_add] at this; exact this)
  have hbB := below_setCells (Nat.le_refl w.heap.size) (List.replicate (min 1 n) (Value.int .i64 3001)) 0 _ hbA
  have hn0 : ¬ ((n : Int) < 0) := by omega
  have hbig : decide ((9223372036854775807 : Int) < (n : Int)) = false := by rw [decide_eq_false_iff_not]; omega
  have hc1 : (List.replicate (min 1 n) (Value.int .i64 3001)).length = Nat.min 1 n := by rw [List.length_replicate]
  have hc2 : ∀ j v, (List.replicate (min 1 n) (Value.int .i64 3001))[j]? = some v → (w.alloc (.cells (cf n (iv fun _ => 0)) 3)).cell? ((⟨b, 0, none⟩ : Addr).add j) = some v := fun j v hv => by
    rw [List.getElem?_replicate] at hv
    split at hv
    · rename_i hj
      obtain rfl : j = 0 := by omega
      simp only [Option.some.injEq] at hv
      subst hv
      rw [Addr.add_lit]; exact hbc
    · cases hv
  have hc3 : ∀ j, j < (List.replicate (min 1 n) (Value.int .i64 3001)).length → ((w.alloc (.cells (cf n (iv fun _ => 0)) 3)).cell? ⟨w.heap.size, 0 + j, none⟩).isSome = true := fun j hj => by
    rw [List.length_replicate] at hj
    rw [Nat.zero_add, h0.cell (by omega)]; rfl
  have hc4 : ∀ j, j < (List.replicate (min 1 n) (Value.int .i64 3001)).length → (w.alloc (.cells (cf n (iv fun _ => 0)) 3)).frozen? ⟨w.heap.size, 0 + j, none⟩ = false := fun j _ => h0.thaw _
  have HC := hide (And.intro hc1 (And.intro hc2 (And.intro hc3 hc4)))
  clear hc1 hc2 hc3 hc4
  go_enter Try.func67, Try.ntmps67
  go_wp2_with fail
  refine (mul_one_n n hn _).mono ?_
  rintro e w1 ⟨rfl, rfl⟩
  clear h0 hbA hbc hb
  go_wp2_with (refine wpList_copy_c rfl _ _ 29 29 rfl 3 Try.underlying29 (by kernel_rfl) w1.heap.size 0 n n ⟨b, 0, none⟩ 1 1 rfl rfl (List.replicate (min 1 n) (.int .i64 3001)) HC.out.1 HC.out.2.1 HC.out.2.2.1 HC.out.2.2.2 (rep_one _) ?_)
  generalize hW : World.setCells _ _ _ _ = w3 at *
  clear hW HC hmk
  go_loopw [8] (fun x wr => ∃ m : Nat, x = .int .i64 (m : Int) ∧ m ≤ n ∧ (0 < n → 0 < m) ∧ Hid (Blk wr w1.heap.size n (fil m) 3) ∧ Below w1.heap.size w1 wr) (fun x _ => n - (intOf x).toNat)
  case atStart => exact ⟨min 1 n, by first | rfl | simp, by omega, by omega, HB1, hbB⟩
  case round =>
    rename World => wo
    obtain ⟨m, rfl, hmn, hm0, HB, hbw⟩ := hrel
    by_cases hlt : m < n
    · have hm1 := hm0 (by omega)
      have hne : ¬ n = m := by omega
      have hi0 : (0 : Int) ≤ (m : Int) := by omega
      have hi1 : (m : Int) ≤ (n : Int) := by omega
      have hi2 : (m : Int) < (n : Int) := by omega
      have hb2 := HB.out
      have HC := hide (show (List.replicate (min m (n - m)) (Value.int .i64 3001)).length = Nat.min m (n - m) ∧ (∀ j v, (List.replicate (min m (n - m)) (Value.int .i64 3001))[j]? = some v → wo.drew.cell? ((⟨w1.heap.size, 0, none⟩ : Addr).add j) = some v) ∧ (∀ j, j < (List.replicate (min m (n - m)) (Value.int .i64 3001)).length → (wo.drew.cell? ⟨w1.heap.size, m + j, none⟩).isSome = true) ∧ (∀ j, j < (List.replicate (min m (n - m)) (Value.int .i64 3001)).length → wo.drew.frozen? ⟨w1.heap.size, m + j, none⟩ = false) from
        ⟨by rw [List.length_replicate], rep_src hb2.drew hmn (by omega), fun j hj => by rw [List.length_replicate] at hj; rw [hb2.drew.cell (by omega)]; rfl, fun j _ => hb2.drew.thaw _⟩)
      have HB2 := hide (show Blk (wo.drew.setCells w1.heap.size m (List.replicate (min m (n - m)) (.int .i64 3001))) w1.heap.size n (fil (m + min m (n - m))) 3 from by
        have := Blk.setCells (List.replicate (min m (n - m)) (.int .i64 3001)) m (fil m) _ hb2.drew
        rw [fil_put] at this; exact this)
      have hbw2 := below_setCells (Nat.le_refl w1.heap.size) (List.replicate (min m (n - m)) (Value.int .i64 3001)) m _ hbw.drew
      have ht' : Try.prog.underlying 29 = some (.slice (Try.prog.elem 29)) := by kernel_rfl
      have hsz1 : ∀ W : World, (sizeOf (Try.prog.elem 29)).run Try.prog W = .ok 1 W := fun W => rfl
      have hsl1 : ∀ W, (Instr.slice 29 (.slice (some ⟨w1.heap.size, 0, none⟩) n n) (some (.int .i64 (m : Int))) none none).run Try.prog W = .ok (.slice (some ⟨w1.heap.size, m, none⟩) (n - m) (n - m)) W := fun W => by
        have hr := run_slice_l (P := Try.prog) W 29 (some ⟨w1.heap.size, 0, none⟩) n n ht' .i64 (m : Int) hi0 hi1
        rw [hsz1] at hr
        rw [hr]
        simp [sliced, hne, Addr.add_lit]
      have hsl2 : ∀ W, (Instr.slice 29 (.slice (some ⟨w1.heap.size, 0, none⟩) n n) none (some (.int .i64 (m : Int))) none).run Try.prog W = .ok (.slice (some ⟨w1.heap.size, 0, none⟩) m n) W := fun W => by
        have hr := run_slice_h (P := Try.prog) W 29 (some ⟨w1.heap.size, 0, none⟩) n n ht' .i64 (m : Int) hi0 hi1
        rw [hsz1] at hr
        rw [hr]
        simp [sliced, Addr.add_lit]
      clear hb2 HB ht' hsz1
      go_wp2_with fail
      go_region_law (refine step_copy rfl _ _ 29 29 rfl 3 Try.underlying29 (by kernel_rfl) w1.heap.size m (n - m) (n - m) ⟨w1.heap.size, 0, none⟩ m n (by go_simp) (by go_simp) (List.replicate (min m (n - m)) (.int .i64 3001)) HC.out.1 HC.out.2.1 HC.out.2.2.1 HC.out.2.2.2 (rep_one _) ?_)
      all_goals
        have hmin : min m (n - m) ≤ 30 := by omega
        have hpos : 0 < min m (n - m) := by omega
        clear HC hsl1 hsl2
        generalize hq : min m (n - m) = q at *
        go_simp
        try go_bits
        go_wp2
        exact ⟨⟨m + q, by go_num, by omega, by omega, HB2, hbw2⟩, by simp [intOf]; omega⟩
    · obtain rfl : m = n := by omega
      go_wp2
      go_ret
      exact ⟨⟨rfl, HB.out⟩, hbw⟩
end Go.Proofs.Ytkfnfgencaplfaa

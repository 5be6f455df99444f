/-
  WhyOf of the program, where the goal follows.
-/
import Derived.Test.YtpabnncfcklnpaaHoWS
import Derived.Test.YtpabnncfcklnpaaRangeH
import Derived.Test.YtpabnncfcklnpaaHoRv
namespace Go.Proofs.Ytpabnncfcklnpaa
open Go.RowKit M
open Clk (upd upd_same upd_other)
open Go.Sort (grow)
open Ho
attribute [local go_sem] Oper.semAt_some
namespace M
theorem Kept.of_down {S : Nat → Prop} {A B : World} (hb : Below A.heap.size A B) : Kept S A B := ⟨hb.os, hb.tape, hb.output, hb.size, fun k hk _ => hb.block k hk⟩
theorem Blk.kept {S : Nat → Prop} {A B : World} {g n : Nat} {f : Nat → Value} {t : TypeId} (h : Blk A g n f t) (hk : Kept S A B) (hne : ¬ S g) : Blk B g n f t := by
  unfold Blk; rw [hk.block g h.lt hne]; exact h
theorem owns_kept {S : Nat → Prop} {A B : World} {b e s n : Nat} {v : Value} {xs : List Value} (h : A.ownsRow b e s v n xs) (hk : Kept S A B) (hne : ∀ g, v.ownBlock = some g → ¬ S g) : B.ownsRow b e s v n xs := by
  refine ⟨h.1, ?_⟩
  rcases h.2 with h0 | ⟨g, cap, cur, hv, hB, hg, r⟩
  · exact .inl h0
  · exact .inr ⟨g, cap, cur, hv, hB, (hk.block g (Array.getElem?_eq_some_iff.1 hg).1 (hne g (by rw [hv]; rfl))).trans hg, r⟩
theorem IntsOf.kept {S : Nat → Prop} {A B : World} {a : Option Addr} {n cap : Nat} {f : Nat → Int} (h : IntsOf A (.slice a n cap) n f) (hk : Kept S A B) (hne : ∀ p, a = some p → ¬ S p.block) : IntsOf B (.slice a n cap) n f := by
  obtain ⟨a', cap', e, hr⟩ := h
  cases e
  refine ⟨a, cap, rfl, fun hn => ?_⟩
  obtain ⟨b, off, rfl, hb, hrow⟩ := hr hn
  refine ⟨b, off, rfl, Nat.lt_of_lt_of_le hb hk.size, fun i hi => ?_⟩
  rw [← hrow i hi]
  exact World.cell?_of_block (a := ⟨b, off + i, none⟩) (hk.block b hb (hne _ rfl))
theorem BackC.kept {S : Nat → Prop} {A B : World} {bl : Nat} {a : Option Addr} {n cap : Nat} {xs : List Nat} (h : BackC bl (.slice a n cap) n xs A) (hk : Kept S A B) (h1 : ¬ S bl) (hne : ∀ p, a = some p → ¬ S p.block) : BackC bl (.slice a n cap) n xs B :=
  ⟨(World.cell?_of_block (a := ⟨bl, 0, none⟩) (hk.block bl (World.block_lt_of_cell? _ _ h.1) h1)).trans h.1, h.2.kept hk hne⟩
theorem cell1 (w : World) (v : Value) (t : TypeId) : (w.alloc (.cells #[v] t)).cell? ⟨w.heap.size, 0, none⟩ = some v := (Blk.fresh w #[v] 1 (fun _ => v) t rfl).cell (show 0 < 1 by omega)
theorem wpListIn_load_row {F : Fence} {n : Nat} {P : Program} {ops : Array Oper} {rest : List Oper} {o : Oper} {a : Act} {w : World} {Q : Exit → Act → World → Prop} (hgd : o.guard = none) (ty : TypeId) (x : Operand) (ho : o.op = .load ty x)
    (g : Nat) (hx : a.eval x = .pointer (some ⟨g, 0, none⟩)) (t : TypeId) (cs : Array Value) (fr : Nat × Nat) (d : TypeDesc) (hg : w.heap[g]? = some (.cells cs t fr))
    (hu : P.underlying ty = some d) (hd : (match d with | .struct _ | .array _ _ => true | _ => false) = true) (hi : (P.info? ty).map (·.size) = some cs.size)
    (h : wpListIn F n P ops Q rest (a.put o.dst (.agg cs)) w) : wpListIn F n P ops Q (o :: rest) a w := by
  refine wpListIn_plain hgd fun K hK' => ?_
  unfold Oper.wpIn
  refine ⟨by simp [Oper.about, ho], ?_⟩
  rw [Oper.semAt_plain F _ _ (by rw [ho]; intro c hc'; cases hc')]
  simp only [execOp, ho, hx, Instr.loadAt, Instr.sureAddr, Sem.run_bind, Sem.run_pure, Result.andThen_ok, run_loadVar_row w g t ty cs fr d hg hu hd hi]
  exact hK' _ _ h
theorem wpListIn_store_row {F : Fence} {n : Nat} {P : Program} {ops : Array Oper} {rest : List Oper} {o : Oper} {a : Act} {w : World} {Q : Exit → Act → World → Prop} (hgd : o.guard = none) (ty : TypeId) (x y : Operand) (ho : o.op = .store ty x y)
    (g : Nat) (cells : Array Value) (hx : a.eval x = .pointer (some ⟨g, 0, none⟩)) (hy : a.eval y = .agg cells)
    (t : TypeId) (old : Array Value) (hg : w.heap[g]? = some (.cells old t (0, 0))) (hi : (P.info? ty).map (·.size) = some cells.size)
    (hold : old.size = cells.size) (h1 : cells.all (·.oneCell') = true)
    (h : wpListIn F n P ops Q rest (a.put o.dst undef) (w.setRow g cells)) : wpListIn F n P ops Q (o :: rest) a w := by
  refine wpListIn_plain hgd fun K hK' => ?_
  unfold Oper.wpIn
  refine ⟨by simp [Oper.about, ho], ?_⟩
  rw [Oper.semAt_plain F _ _ (by rw [ho]; intro c hc'; cases hc')]
  simp only [execOp, ho, hx, hy, Instr.storeAt, Instr.sureAddr, Sem.run_bind, Sem.run_pure, Result.andThen_ok, run_storeVar_row w g t ty old cells hg hi hold h1]
  exact hK' _ _ h
theorem stop_in {F : Fence} {n : Nat} {P : Program} {ops : Array Oper} {Q : Exit → Act → World → Prop} {o : Oper} {rest : List Oper} {a : Act} {w : World} (d : Option Nat) (_ : o.dst = d) (R : World → Prop) (hw : Hid (R w)) (h : ∀ w', R w' → wpListIn F n P ops Q (o :: rest) a w') : wpListIn F n P ops Q (o :: rest) a w := h w hw.out
/-- What the loop keeps: the rules' box, the facts, the rules so far, what is needed. -/
def WI (w : World) (v : Value) (gv gw gn Bz : Nat) (g N : Nat → Bool) (wv : Value) (wl : List Nat) (W : World) : Prop :=
  Blk W w.heap.size 1 (fun _ => v) 25 ∧ Blk W gv 40 (bv g) 63 ∧ Blk W gw 1 (fun _ => wv) 29 ∧ Blk W gn 40 (bv N) 63 ∧ W.ownsRow Bz 3 1 wv wl.length (wl.map nv) ∧ Below w.heap.size w W
theorem WI.kept {S : Nat → Prop} {w A B : World} {v wv : Value} {gv gw gn Bz : Nat} {g N : Nat → Bool} {wl : List Nat} (h : WI w v gv gw gn Bz g N wv wl A) (hk : Kept S A B) (h1 : w.heap.size < gv) (h2 : gv < gw) (h3 : gw < gn) (hS : ∀ q, S q → gn < q ∧ q < Bz) : WI w v gv gw gn Bz g N wv wl B := by
  obtain ⟨a1, a2, a3, a4, a5, a6⟩ := h
  exact ⟨a1.kept hk (fun h => by have := hS _ h; omega), a2.kept hk (fun h => by have := hS _ h; omega), a3.kept hk (fun h => by have := hS _ h; omega), a4.kept hk (fun h => by have := hS _ h; omega), owns_kept a5 hk (fun q hq h => by have := hS _ h; have := (a5.lt q hq).1; omega), hk.below a6 a6.size (fun q hq => by have := hS _ hq; omega)⟩
end M
theorem backward_is (a : Option Addr) (n cap : Nat) (w : World) :
    Calls Try.prog 53 #[.slice a n cap] w fun e w' => e = .returned (.func (.func 64) #[] #[.pointer (some ⟨w.heap.size, 0, none⟩)]) ∧ w' = w.alloc (.cells #[.slice a n cap] 29) := by
  go_enter Try.func53, Try.ntmps53
  go_wp2
  go_ret
  exact ⟨rfl, rfl⟩
set_option maxRecDepth 20000 in
set_option maxHeartbeats 8000000 in
theorem impl_why (v u : Value) (k n : Nat) (ts : Nat → Tk) (f : Nat → Int) (x : Nat) (w : World) (hv : TasksOf w v k ts) (hs : Short k ts) (hu : IntsOf w u n f) (hn : n ≤ 1048576) (hO : Okay k n ts f) (hx : x < 40) (hin : (fin (rls ts) k (nf f) n).inn x = true) :
    Calls Try.prog 28 #[v, u, .int .i64 (x : Int)] w fun e w' => (∃ r, e = .returned (.tuple #[r, .bool true]) ∧ AnsC w' w.heap.size r (whyL k n ts f x).length (at' (whyL k n ts f x))) ∧ Below w.heap.size w w' := by
  obtain ⟨i0, hi, hz0, hz1, hz2⟩ := info_parts info_int
  have HV := hide hv
  obtain ⟨a, cap, rfl, hrw⟩ := hv
  have HR := hide hrw
  have HU := hide hu
  obtain ⟨au, cu, rfl⟩ := hu.form
  have HSh := hide hs
  have HO := hide hO
  have HG := hide hO.1
  have HIn := Bx.mk hin
  have hk := hO.1.1
  have HInv := Bx.mk (fin_inv hO.1.gr (f := nf f) (n := n) (fun i hi => hO.2.nf_lt hi)).1
  have hbA := (Below.refl w.heap.size w).alloc (Nat.le_refl _) (.cells #[.slice a k cap] 25)
  have hx0 : Blk (w.alloc (.cells #[.slice a k cap] 25)) w.heap.size 1 (fun _ => .slice a k cap) 25 := Blk.fresh w _ 1 _ 25 rfl
  have HWhy := Bx.mk (why_is HInv.out x)
  clear hu hs hO hin hrw
  have HX := hide (show decide ((0 : Int) ≤ (x : Int) ∧ (x : Int) ≤ 39) = true by simp; omega)
  refine (callsIn_wide (n := 3)).1 ?_
  refine callsIn_of_wp_marks Try.func28 rfl trivial ?_ rfl
  simp only [Try.ntmps28, List.size_toArray, List.length_cons, List.length_nil, Nat.reduceAdd, Nat.reduceSub, Array.replicate_succ, Array.replicate_zero, List.push_toArray, List.append_toArray, List.nil_append, List.cons_append]
  have hc0 : (w.alloc (.cells #[.slice a k cap] 25)).cell? ⟨w.heap.size, 0, none⟩ = some (.slice a k cap) := hx0.cell (show 0 < 1 by omega)
  gi_wp2
  refine ⟨trivial, ?_⟩
  gi_at_call 46
  refine (callsIn_wide.2 (set_for _ _ k n ts f _ (HV.out.below hbA) HSh.out (HU.out.below hbA) hn HO.out)).mono ?_
  rintro e w1 ⟨rfl, hb⟩
  have hx1 := hx0.down hb
  have hb1 := hbA.trans (hb.mono hbA.size)
  have hl1 := hx1.lt
  have HX1 := hide hx1
  clear hx0 hb hbA hx1 hc0
  generalize hgg : sof f n = g at *
  have HGg := Bx.mk hgg
  clear hgg
  gi_wp2_with (refine wpListIn_store_row rfl 63 _ _ rfl w1.heap.size _ rfl rfl 63 _ (heap_alloc_new _ _) (by rw [cf_size]; exact info_fs) (by rw [cf_size]; rfl) (all_one _) ?_)
  generalize hW : (w1.alloc _).setRow _ _ = w2
  obtain ⟨h2, hb⟩ := set_new w1 g _ rfl w2 hW.symm
  have hb2 := hb1.trans (hb.mono hb1.size)
  have HX2 := hide (HX1.out.down hb)
  have hl2 := h2.lt
  clear hb hW HX1
  have hc2 : w2.cell? ⟨w.heap.size, 0, none⟩ = some (.slice a k cap) := HX2.out.cell (show 0 < 1 by omega)
  generalize hgv : w1.heap.size = gv at *
  refine ⟨trivial, ?_⟩
  gi_at_call 41
  refine (callsIn_wide.2 (isfact_to _ true _ HX.out)).mono ?_
  rintro e w2' ⟨rfl, rfl⟩
  gi_wp2_with (refine wpListIn_load_row rfl 63 _ rfl gv rfl 63 _ (0, 0) _ h2 Try.underlying63 rfl info_fs ?_)
  refine ⟨trivial, ?_⟩
  gi_at_call 47
  have HRk := impl_reckon (.slice a k cap) k n ts f w2' (HV.out.below hb2) HO.out
  rw [HGg.out] at HRk
  refine (callsIn_wide.2 HRk).mono ?_
  rintro e w3 ⟨⟨wb, gR, vc, vf, gc, wt, rfl, hwb, hI⟩, hb⟩
  have hb3 := hb2.trans (hb.mono hb2.size)
  have HX3 := hide (HX2.out.down hb)
  have H3 := hide (h2.down hb)
  have c0 := rk_cell_in hI.2.hr hx
  rw [HIn.out] at c0
  have c42 := (rk_cells hI.2.hr).2.2.1
  have HFr := hide hI.2.fr
  have hl3 := hb.size
  clear hI hb h2 HX2 HRk hc2 HIn
  have hfl : (fst (fin (rls ts) k (nf f) n).q).length ≤ 40 := by have := fst_len (fin (rls ts) k (nf f) n).q; have := HInv.out.len; omega
  have HLt := hide (show ∀ i ∈ fst (fin (rls ts) k (nf f) n).q, i < k from fun i hi => by
    unfold Ho.fst at hi
    rw [List.mem_filterMap] at hi
    obtain ⟨e, he, h2⟩ := hi
    exact (HInv.out.som e he i h2).1)
  have HWL := Bx.mk (show (whyL k n ts f x) = why (rls ts) g x (fin (rls ts) k (nf f) n).q from by rw [← HGg.out])
  rw [show (ofl (nf f) n) = g from HGg.out] at HWhy
  generalize hF1 : fst (fin (rls ts) k (nf f) n).q = F1 at *
  generalize why (rls ts) g x (fin (rls ts) k (nf f) n).q = WL at *
  obtain ⟨av, cv, rfl⟩ := own_form HFr.out
  have hxx0 : (0 : Int) ≤ (x : Int) := by omega
  have hxx1 : (x : Int) < 40 := by omega
  clear hF1 HInv
  generalize hmf : F1.length = mf1 at *
  have HB4 := hide (((Below.refl w3.heap.size w3).alloc (Nat.le_refl _) (.cells #[.slice none 0 0] 29)).alloc (by simp) (.cells #[.int .i64 (x : Int)] 3))
  have hIx : IntsOf ((w3.alloc (.cells #[.slice none 0 0] 29)).alloc (.cells #[.int .i64 (x : Int)] 3)) (.slice (some ⟨w3.heap.size + 1, 0, none⟩) 1 1) 1 (fun _ => (x : Int)) := by
    have := Blk.fresh (w3.alloc (.cells #[.slice none 0 0] 29)) #[.int .i64 (x : Int)] 1 (iv fun _ => (x : Int)) 3 rfl
    rw [World.size_alloc] at this
    exact this.ints (cap := 1)
  have hRx : Ris 1 (fun _ => (x : Int)) := fun i hi => ⟨⟨(show (0 : Int) ≤ (x : Int) by omega), (show (x : Int) ≤ 39 by omega)⟩, fun h => absurd h (by omega)⟩
  have HSx := hide (show ofl (nf fun _ => (x : Int)) 1 = upd (fun _ => false) x true from by
    show upd (fun _ => false) ((x : Int).toNat) true = _; rw [Int.toNat_natCast])
  have HW4 := hide (show Blk ((w3.alloc (.cells #[.slice none 0 0] 29)).alloc (.cells #[.int .i64 (x : Int)] 3)) w3.heap.size 1 (fun _ => .slice none 0 0) 29 from (Blk.fresh w3 _ 1 _ _ rfl).alloc _)
  have HFs := hide (fact_set_of _ 1 _ _ hIx hRx)
  clear hIx hRx
  gi_wp2
  refine ⟨trivial, ?_⟩
  gi_at_call 52
  refine (callsIn_wide.2 HFs.out).mono ?_
  rintro e w5 ⟨rfl, hb⟩
  rw [HSx.out]
  have hb5 : Below w3.heap.size w3 w5 := HB4.out.trans (hb.mono HB4.out.size)
  have H5w := hide (HW4.out.down hb)
  have hl5 := hb5.size
  clear hb HB4 HW4 HFs HSx c0
  generalize hN0 : upd (fun _ => false) x true = N0 at *
  clear hN0
  have HST := hide (set_new w5 N0)
  have h42 : ∀ W, Below w5.heap.size w5 W → W.cell? ⟨gR, 42, none⟩ = some (.slice av mf1 cv) := fun W hW => ((hb5.trans (hW.mono hb5.size)).cell (p := ⟨gR, 42, none⟩) (block_lt_of_cell c42)).trans c42
  have H42 := hide h42
  clear h42 c42
  gi_wp2_with (first | refine wpListIn_store_row rfl 63 _ _ rfl w5.heap.size _ rfl rfl 63 _ (heap_alloc_new _ _) (by rw [cf_size]; exact info_fs) (by rw [cf_size]; rfl) (all_one _) ?_ | refine stop_in (some 46) rfl (fun W => Blk W w5.heap.size 40 (bv N0) 63 ∧ Below w5.heap.size w5 W) ?hR ?_)
  case hR => exact hide (HST.out _ rfl _ rfl)
  rintro w6 ⟨h6, hb6⟩
  have c42 := H42.out w6 hb6
  have hl6 := h6.lt
  clear HST H42
  gi_wp2
  refine ⟨trivial, ?_⟩
  gi_at_call 53
  refine (callsIn_wide.2 (backward_is av mf1 cv w6)).mono ?_
  rintro e w' ⟨rfl, rfl⟩
  have hb36 : Below w3.heap.size w3 w6 := hb5.trans (hb6.mono hb5.size)
  have hdn := (Below.refl w6.heap.size w6).alloc (Nat.le_refl _) (.cells #[.slice av mf1 cv] 29)
  have hb3A := hb36.trans (hdn.mono hb36.size)
  have hadr : ∀ p, av = some p → p.block < w3.heap.size := fun p hp => by
    subst hp
    rcases HFr.out.2 with ⟨e, _⟩ | ⟨g', c', cur, e, _, hg', _⟩
    · cases e
    · cases e; exact (Array.getElem?_eq_some_iff.1 hg').1
  have HI0 := hide (show WI w (.slice a k cap) gv w3.heap.size w5.heap.size (w6.heap.size + 3) g N0 (.slice none 0 0) [] (w6.alloc (.cells #[.slice av mf1 cv] 29)) ∧ BackC w6.heap.size (.slice av mf1 cv) mf1 F1.reverse (w6.alloc (.cells #[.slice av mf1 cv] 29)) from by
    refine ⟨⟨HX3.out.down hb3A, H3.out.down hb3A, (H5w.out.down hb6).down hdn, h6.down hdn, World.ownsRow_nil _ _ _ _, hb3.trans (hb3A.mono hb3.size)⟩, cell1 w6 _ _, ?_⟩
    have hI1 : IntsOf w3 (.slice av mf1 cv) mf1 (at' F1) := by
      have h1 := HFr.out
      rw [nv_range, hmf] at h1
      exact own_ints h1
    obtain ⟨_, _, e, hr⟩ := hI1.below hb3A
    cases e
    refine ⟨_, _, rfl, fun h => ?_⟩
    obtain ⟨b, off, e1, e2, hrow⟩ := hr h
    refine ⟨b, off, e1, e2, fun i hi => ?_⟩
    rw [hrow i hi]
    show some (Value.int .i64 (((F1.getD i 0 : Nat)) : Int)) = some (Value.int .i64 ((F1.reverse.getD (mf1 - 1 - i) 0 : Nat) : Int))
    rw [List.getD_eq_getElem?_getD, List.getD_eq_getElem?_getD, List.getElem?_reverse (by omega)]
    rw [show F1.length - 1 - (mf1 - 1 - i) = i by omega])
  obtain ⟨A, hA⟩ : ∃ A, w6.alloc (.cells #[.slice av mf1 cv] 29) = A := ⟨_, rfl⟩
  have hsA : A.heap.size = w6.heap.size + 1 := by rw [← hA]; simp
  rw [hA] at HI0 ⊢
  have hl35 : w3.heap.size < w5.heap.size := by have := H5w.out.lt; omega
  generalize hgw : w3.heap.size = gw at *
  generalize hgn : w5.heap.size = gn at *
  generalize hB : w6.heap.size = B at *
  have hgvw : gv < gw := by omega
  clear hA HFr hdn hb3A hb36 hb6 h6 H5w H3 HX3 hb5 hl5 hB hgw hgn c42 hgv
  have hS := backward_seq B av mf1 cv F1.reverse (by rw [List.length_reverse]; exact hmf) (by omega)
  have HOl := hide (show ∀ i ∈ F1.reverse, i < k from fun i hi => HLt.out i (List.mem_reverse.1 hi))
  have hrl : F1.reverse.length = mf1 := by rw [List.length_reverse]; exact hmf
  generalize hxs : F1.reverse = xs at *
  clear hxs hmf HLt
  gi_wp2
  refine wp_rangeB (gf := 64) (lb := #[.pointer (some ⟨B, 0, none⟩)]) rfl (enters_of Try.func64 (by kernel_rfl) rfl) hS (fun _ _ => rfl) (fun pre W => (∃ wv, WI w (.slice a k cap) gv gw gn (B + 3) g (wfo (rls ts) g N0 pre).1 wv (wfo (rls ts) g N0 pre).2 W) ∧ BackC B (.slice av mf1 cv) mf1 xs W) (fun pre A B h hk => ?hI) (fun pre A h => h.2) (fun A hA hs => ?h0)
    (fun nn y => { tmps := #[.slice a k cap, .slice au n cu, .int .i64 (x : Int), .pointer (some ⟨w.heap.size, 0, none⟩), undef, undef, .slice none 0 0, .bool false, .pointer (some ⟨gv, 0, none⟩), .bool true, .pointer (some ⟨gR, 0, none⟩), .pointer (some ⟨gw, 0, none⟩), .pointer (some ⟨gn, 0, none⟩), undef, .int .i64 (y : Int), undef, undef, undef, .tuple #[fs g, .bool true], .slice a k cap, .slice au n cu, .tuple #[fs g, .bool true], fs g, .bool true, .bool true, .bool false, .bool false, .int .i64 (x : Int), .bool true, .bool false, .bool false, .slice a k cap, .agg (cf 40 (bv g)), .pointer (some ⟨gR, 0, none⟩), .pointer (some ⟨gR, 0, none⟩), .int .i64 (x : Int), .pointer (some ⟨gR, 0, none⟩), .pointer (some ⟨gR, 1, none⟩), .pointer (some ⟨gR, 1 + x, none⟩), .bool true, .bool false, .int .i64 (x : Int), .slice (some ⟨gw + 1, 0, none⟩) 1 1, fs N0, .pointer (some ⟨gR, 0, none⟩), .pointer (some ⟨gR, 0, none⟩), .pointer (some ⟨gR, 42, none⟩), .slice av mf1 cv, .func (.func 64) #[] #[.pointer (some ⟨B, 0, none⟩)], .int .i64 ((mf1 : Int) - 1 - nn), .int .i64 (y : Int), undef, undef, undef, undef, undef, undef, undef, undef, undef, undef, undef, undef, undef, undef, undef, undef, undef, undef, undef, undef, undef, undef, undef, undef, undef, undef, undef, undef, undef, undef, undef, undef], defers := [] }) ?assign ?body ?done
  case hI =>
    rw [hsA] at hk
    obtain ⟨⟨wv, h1⟩, h2⟩ := h
    exact ⟨⟨wv, h1.kept hk (by omega) hgvw hl35 (fun q hq => by omega)⟩, h2.kept hk (by omega) (fun p hp => by have := hadr p hp; omega)⟩
  case h0 =>
    refine ⟨⟨_, HI0.out.1.kept (S := fun _ => False) (Kept.of_down hA) (by omega) hgvw hl35 (fun q hq => hq.elim)⟩, HI0.out.2.kept (S := fun _ => False) (Kept.of_down hA) (fun h => h) (fun _ _ h => h)⟩
  case assign =>
    intro l nn y W K hK
    gi_wp2
    exact hK
  case body =>
    rintro l pre y W ⟨⟨wv, hF⟩, hBk⟩ hlt hpx
    rw [hsA] at hlt
    have hyk : y < k := HOl.out y (hpx.subset (by simp))
    have hpl : pre.length + 1 ≤ 40 := by have := hpx.length_le; simp at this; omega
    have HEs := hide (wfo_snoc (rls ts) g N0 pre y)
    have hwl : (wfo (rls ts) g N0 pre).2.length ≤ 40 := by have := wfo_len (rls ts) g N0 pre; omega
    generalize hs' : wfo (rls ts) g N0 (pre ++ [y]) = s' at *
    generalize hs0 : wfo (rls ts) g N0 pre = s at *
    obtain ⟨i1, i2, i3, i4, i5, i6⟩ := hF
    obtain ⟨bb, off, rfl, hbb, hrow⟩ := HR.out (by omega)
    obtain ⟨yv, q1, q2, j1⟩ := hrow y hyk
    obtain ⟨ay, cy, rfl, hry⟩ := j1
    have c0 : W.cell? ⟨w.heap.size, 0, none⟩ = some (.slice (some ⟨bb, off, none⟩) k cap) := i1.cell (show 0 < 1 by omega)
    have c1 := (i6.cell (p := ⟨bb, off + y * 2, none⟩) hbb).trans q1
    have c2 := (i6.cell (p := ⟨bb, off + y * 2 + 1, none⟩) hbb).trans q2
    have hgj := HG.out.2 y hyk
    rw [hgj.hd.1] at c1
    have hh := hgj.hd.2
    have HRj := hide hgj.2
    have hnb := hgj.2.len
    have HY := hide hry
    have hyi : (y : Int) < (k : Int) := by omega
    have HEnd := hide (show ∀ (wq : World) (a' : Act) (wv' : Value), Blk wq gn 40 (bv s'.1) 63 → Blk wq gw 1 (fun _ => wv') 29 → wq.ownsRow (B + 3) 3 1 wv' s'.2.length (s'.2.map nv) → Kept (fun q => q = gn ∨ q = gw ∨ B + 3 ≤ q) W wq → RoundB (fun pre W => (∃ wv, WI w (.slice (some ⟨bb, off, none⟩) k cap) gv gw gn (B + 3) g (wfo (rls ts) g N0 pre).1 wv (wfo (rls ts) g N0 pre).2 W) ∧ BackC B (.slice av mf1 cv) mf1 xs W) (B + 1) (pre ++ [y]) W .normal a' wq from fun wq _ wv' e1 e2 e3 hk =>
      RoundB.intro ⟨⟨wv', by rw [hs']; exact ⟨i1.kept hk (by omega), i2.kept hk (by omega), e2, e1, e3, hk.below i6 i6.size (fun q hq => by omega)⟩⟩, hBk.kept hk (by omega) (fun p hp => by have := hadr p hp; omega)⟩ (hk.block _ (by omega) (by omega)) (hk.block _ (by omega) (by omega)))
    have d3 := fun o : Obj => (i4.alloc o).cell_bv hh
    have d4 := fun o : Obj => (i2.alloc o).cell_bv hh
    have HI := hide (And.intro i3 (And.intro i4 i5))
    have hxx0 : (0 : Int) ≤ (((rl (ts y)).hd : Nat) : Int) := by omega
    have hxx1 : (((rl (ts y)).hd : Nat) : Int) < 40 := by omega
    have HSt := hide (show (s.1 (rl (ts y)).hd = false → s' = s) ∧ (g (rl (ts y)).hd = true → s' = s) ∧ (s.1 (rl (ts y)).hd = true → g (rl (ts y)).hd = false → s' = (adb s.1 (nf (ts y).fn) (ts y).nn, s.2 ++ [y])) from by
      rw [HEs.out]
      unfold wst
      refine ⟨fun h => ?_, fun h => ?_, fun h h2 => ?_⟩
      · rw [show s.1 (rls ts y).hd = false from h]; rfl
      · rw [show g (rls ts y).hd = true from h]; simp
      · rw [show s.1 (rls ts y).hd = true from h, show g (rls ts y).hd = false from h2]; rfl)
    have hWl := i4.lt
    clear hrow q1 q2 hry i2 i4 hpx hS HI0 hBk hadr HOl hs' hs0 HEs hgj HV HU HSh HO HX
    generalize hhd : (rl (ts y)).hd = hd at *
    have c0a : ∀ o : Obj, (W.alloc o).cell? ⟨w.heap.size, 0, none⟩ = some (.slice (some ⟨bb, off, none⟩) k cap) := fun o => (((Below.refl _ W).alloc (Nat.le_refl _) o).cell (p := ⟨w.heap.size, 0, none⟩) (block_lt_of_cell c0)).trans c0
    rcases hN : s.1 hd with _ | _
    · have HE := hide (HSt.out.1 hN)
      rw [hN] at d3
      clear HSt hN HY
      gi_wp2
      rw [hsA]
      exact HEnd.out _ _ wv (by rw [HE.out]; exact HI.out.2.1.alloc _) (HI.out.1.alloc _) (by rw [HE.out]; exact HI.out.2.2.alloc _) (Kept.of_down ((Below.refl _ _).alloc (Nat.le_refl _) _))
    · rw [hN] at d3
      rcases hgg : g hd with _ | _
      · have HE := hide (HSt.out.2.2 hN hgg)
        rw [hgg] at d4
        clear HSt hN hgg
        have hwf := own_form HI.out.2.2
        obtain ⟨aw, cw, rfl⟩ := hwf
        have d5 : ∀ o : Obj, (W.alloc o).cell? ⟨gw, 0, none⟩ = some (.slice aw s.2.length cw) := fun o => (HI.out.1.alloc o).cell (show 0 < 1 by omega)
        have hrE := owns_below HI.out.2.2 (((Below.refl W.heap.size W).alloc (Nat.le_refl _) (.cells #[.int .i64 (hd : Int), .slice ay (ts y).nn cy] 48)).alloc (by simp) (.cells #[.int .i64 (y : Int)] 3))
        have HRc := hide ((Blk.fresh W #[.int .i64 (hd : Int), .slice ay (ts y).nn cy] 2 (p2 (.int .i64 (hd : Int)) (.slice ay (ts y).nn cy)) 48 rfl).alloc (.cells #[.int .i64 (y : Int)] 3))
        have hns : ∀ (jj : Nat) u, [(.int .i64 (y : Int) : Value)][jj]? = some u → ((W.alloc (.cells #[.int .i64 (hd : Int), .slice ay (ts y).nn cy] 48)).alloc (.cells #[.int .i64 (y : Int)] 3)).cell? ((⟨W.heap.size + 1, 0, none⟩ : Addr).add jj) = some u := by
          have := news1 (W.alloc (.cells #[.int .i64 (hd : Int), .slice ay (ts y).nn cy] 48)) (.int .i64 (y : Int)) 3
          rw [World.size_alloc] at this; exact this
        generalize hm2 : s.2.length = m2 at *
        gi_wp2_with (gi_at_builtin; refine wpListIn_append_own _ rfl _ _ 29 rfl (B + 3) 3 i0 _ 1 8 Try.underlying29 hi hz0 hz1 hz2 rfl (by decide) _ m2 _ rfl hrE ⟨W.heap.size + 1, 0, none⟩ 1 1 [.int .i64 (y : Int)] rfl rfl hns (by intro u hu; simp at hu; subst hu; rfl) (by unfold maxLen; omega) (by omega) (by simp; omega) ?_)
        intro v7 w7 hown7 hgrow7 _
        have g3 := ((HI.out.1.alloc (.cells #[.int .i64 (hd : Int), .slice ay (ts y).nn cy] 48)).alloc (.cells #[.int .i64 (y : Int)] 3)).grown hrE (by decide) hgrow7
        have g4 := ((HI.out.2.1.alloc (.cells #[.int .i64 (hd : Int), .slice ay (ts y).nn cy] 48)).alloc (.cells #[.int .i64 (y : Int)] 3)).grown hrE (by decide) hgrow7
        have g5 := HRc.out.grown hrE (by decide) hgrow7
        have e3 : w7.cell? ⟨gw, 0, none⟩ = some (.slice aw m2 cw) := g3.cell (show 0 < 1 by omega)
        have t3 := g3.thaw 0
        obtain ⟨a7, c7, rfl⟩ := own_form hown7
        have HZ := hide (show ∃ v7, Blk (w7.setCell ⟨gw, 0, none⟩ (.slice a7 (m2 + 1) c7)) gw 1 (fun _ => v7) 29 ∧ (w7.setCell ⟨gw, 0, none⟩ (.slice a7 (m2 + 1) c7)).ownsRow (B + 3) 3 1 v7 (s.2 ++ [y]).length ((s.2 ++ [y]).map nv) ∧ Blk (w7.setCell ⟨gw, 0, none⟩ (.slice a7 (m2 + 1) c7)) gn 40 (bv (adb s.1 (nf (ts y).fn) 0)) 63 ∧ Blk (w7.setCell ⟨gw, 0, none⟩ (.slice a7 (m2 + 1) c7)) W.heap.size 2 (p2 (.int .i64 (hd : Int)) (.slice ay (ts y).nn cy)) 48 ∧ Kept (fun q => q = gn ∨ q = gw ∨ B + 3 ≤ q) W (w7.setCell ⟨gw, 0, none⟩ (.slice a7 (m2 + 1) c7)) from by
          refine ⟨.slice a7 (m2 + 1) c7, (g3.set 0 _).ext (fun i hi => by rw [show i = 0 by omega, upd_same]), ?_, g4.set_other (by omega) _ _, g5.set_other (by omega) _ _, ?_⟩
          · rw [List.length_append, List.map_append, hm2]
            exact own_keep hown7 g3 (by decide) _ _
          · refine ⟨hgrow7.os, hgrow7.tape, hgrow7.output, ?_, fun q hq hS => ?_⟩
            · rw [World.size_setCell]; have := hgrow7.size; rw [World.size_alloc, World.size_alloc] at this; omega
            · rw [Go.heap_setCell_other _ _ _ _ (show q ≠ gw from fun e => hS (.inr (.inl e))), hgrow7.block q (by rw [World.size_alloc, World.size_alloc]; omega) (fun e => hS (.inr (.inr (hrE.lt q e.symm).1))), heap_alloc_old _ _ (by rw [World.size_alloc]; omega), heap_alloc_old _ _ hq])
        clear hown7 hgrow7 g3 g4 g5 hrE HRc hns d3 d4 d5 HI
        gi_wp2_with (refine stop_in (some 70) rfl (fun W' => ∃ v7, Blk W' gw 1 (fun _ => v7) 29 ∧ W'.ownsRow (B + 3) 3 1 v7 (s.2 ++ [y]).length ((s.2 ++ [y]).map nv) ∧ Blk W' gn 40 (bv (adb s.1 (nf (ts y).fn) 0)) 63 ∧ Blk W' W.heap.size 2 (p2 (.int .i64 (hd : Int)) (.slice ay (ts y).nn cy)) 48 ∧ Kept (fun q => q = gn ∨ q = gw ∨ B + 3 ≤ q) W W') ?hR ?_)
        case hR => exact HZ
        clear HZ e3 t3
        rintro W8 ⟨v8, z1, z2, z3, z4, z5⟩
        have e4 := (z4.pair).2.1
        have HZ := hide (And.intro z1 (And.intro z2 (And.intro z3 z5)))
        clear z1 z2 z3 z4 z5 c0a c0 c1 c2
        gi_wp2
        gi_loopw [73] (fun z wr => ∃ p : Nat, p ≤ (ts y).nn ∧ z = .int .i64 p ∧ Hid (Blk wr gw 1 (fun _ => v8) 29 ∧ wr.ownsRow (B + 3) 3 1 v8 (s.2 ++ [y]).length ((s.2 ++ [y]).map nv) ∧ Blk wr gn 40 (bv (adb s.1 (nf (ts y).fn) p)) 63 ∧ Kept (fun q => q = gn ∨ q = gw ∨ B + 3 ≤ q) W wr)) (fun z _ => (ts y).nn - (intOf z).toNat)
        case atStart => exact ⟨0, Nat.zero_le _, rfl, HZ⟩
        case round =>
          rename World => wq
          clear HZ e4
          obtain ⟨p, hp, rfl, HP⟩ := hrel
          by_cases hpl2 : p < (ts y).nn
          · obtain ⟨by_, oy, rfl, hby, hrowy⟩ := HY.out (by omega)
            have hbq := HP.out.2.2.2.below i6 i6.size (fun q hq => by omega)
            have e0 := (hbq.cell (p := ⟨by_, oy + p, none⟩) hby).trans (hrowy p hpl2)
            rw [HRj.out.nf_eq hpl2] at e0
            have hz := HRj.out.nf_lt hpl2
            have e2 := HP.out.2.2.1.cell_bv hz
            have t0 := HP.out.2.2.1.thaw (nf (ts y).fn p)
            have HP2 := hide (show Blk (wq.setCell ⟨gn, nf (ts y).fn p, none⟩ (.bool true)) gw 1 (fun _ => v8) 29 ∧ (wq.setCell ⟨gn, nf (ts y).fn p, none⟩ (.bool true)).ownsRow (B + 3) 3 1 v8 (s.2 ++ [y]).length ((s.2 ++ [y]).map nv) ∧ Blk (wq.setCell ⟨gn, nf (ts y).fn p, none⟩ (.bool true)) gn 40 (bv (adb s.1 (nf (ts y).fn) (p + 1))) 63 ∧ Kept (fun q => q = gn ∨ q = gw ∨ B + 3 ≤ q) W (wq.setCell ⟨gn, nf (ts y).fn p, none⟩ (.bool true)) from by
              refine ⟨HP.out.1.set_other (by omega) _ _, own_keep HP.out.2.1 HP.out.2.2.1 (by decide) _ _, HP.out.2.2.1.set_bv _, ?_⟩
              have hk := HP.out.2.2.2
              exact ⟨hk.os, hk.tape, hk.output, by rw [World.size_setCell]; exact hk.size, fun q hq hS => (Go.heap_setCell_other _ _ _ _ (show q ≠ gn from fun e => hS (.inl e))).trans (hk.block q hq hS)⟩)
            clear HP hrowy hbq HEnd HE HRj HY
            generalize nf (ts y).fn p = zz at *
            have hz0' : (0 : Int) ≤ (zz : Int) := by omega
            have hz1' : (zz : Int) < 40 := by omega
            have hpi : (p : Int) < ((ts y).nn : Int) := by omega
            gi_wp2
            exact ⟨⟨p + 1, by omega, by go_num, HP2⟩, by simp [intOf]; omega⟩
          · obtain rfl : p = (ts y).nn := by omega
            have HFn := hide (show ∀ a' : Act, _ from fun a' => HEnd.out wq a' v8 (by rw [HE.out]; exact HP.out.2.2.1) HP.out.1 (by rw [HE.out]; exact HP.out.2.1) HP.out.2.2.2)
            clear HP HEnd HE HRj HY
            gi_wp2
            rw [hsA]
            exact HFn.out _
      · have HE := hide (HSt.out.2.1 hgg)
        rw [hgg] at d4
        clear HSt hN hgg HY
        gi_wp2
        rw [hsA]
        exact HEnd.out _ _ wv (by rw [HE.out]; exact HI.out.2.1.alloc _) (HI.out.1.alloc _) (by rw [HE.out]; exact HI.out.2.2.alloc _) (Kept.of_down ((Below.refl _ _).alloc (Nat.le_refl _) _))
  case done =>
    rintro W ⟨⟨wv, hF⟩, -⟩ hK
    rw [hsA] at hK ⊢
    obtain ⟨i1, i2, i3, i4, i5, i6⟩ := hF
    have hwf := own_form i5
    obtain ⟨aw, cw, rfl⟩ := hwf
    have c0 : W.cell? ⟨gw, 0, none⟩ = some (.slice aw (wfo (rls ts) g N0 xs).2.length cw) := i3.cell (show 0 < 1 by omega)
    have hwl : (wfo (rls ts) g N0 xs).2.length ≤ 40 := by have := wfo_len (rls ts) g N0 xs; omega
    have hWs := i6.size
    have H3 := hide i3
    have H5 := hide i5
    have hKl := (Array.getElem?_eq_some_iff.1 hK).1
    have HWy := Bx.mk HWhy.out
    clear i1 i2 i3 i4 i5 hS HI0 HV HOl hadr HWhy hsA
    generalize (wfo (rls ts) g N0 xs).2 = wl at *
    gi_wp2
    refine ⟨trivial, ?_⟩
    gi_at_call 54
    have HRv := reverse_own (B + 3) (.slice aw wl.length cw) wl W H5.out (by omega)
    refine (callsIn_wide.2 HRv).mono ?_
    clear HRv
    rintro e W2 ⟨rfl, hAn, hb2⟩
    have c2 : W2.cell? ⟨gw, 0, none⟩ = some (.slice aw wl.length cw) := (H3.out.below hb2 (by omega)).cell (show 0 < 1 by omega)
    have hK2 : W2.heap[B + 1]? = some (.deferred (some [])) := (hb2.block _ (by omega)).trans hK
    have hkp : Kept (fun q => q = B + 1) W2 (W2.putObj (B + 1) (.deferred none)) := Kept.of_put _ rfl
    have hbf := hkp.below (i6.trans (hb2.mono (by omega))) (by have := hb2.size; omega) (fun q hq => by omega)
    have HA := hide (show AnsC (W2.putObj (B + 1) (.deferred none)) w.heap.size (.slice aw wl.length cw) (whyL k n ts f x).length (at' (whyL k n ts f x)) from by
      rw [HWL.out]
      have e1 : wl.reverse = WL := by rw [HWy.out, List.reverse_reverse]
      have e2 : wl.length = WL.length := by rw [HWy.out, List.length_reverse]
      rw [e1] at hAn
      rw [← e2]
      rcases hAn with h | ⟨b, cap', hr, hB, hc, kk, hbk, hkk⟩
      · exact .inl h
      · exact .inr ⟨b, cap', hr, by omega, hc, kk, hbk.kept hkp (by omega), hkk⟩)
    clear hAn hb2 H3 H5 hkp c0
    gi_wp2
    refine ⟨by simp, .inl ⟨_, _, rfl, run_takeDeferred hK2, ?_⟩⟩
    exact ⟨_, results_tmp2 rfl _ _ _, ⟨_, rfl, HA.out⟩, hbf⟩
end Go.Proofs.Ytpabnncfcklnpaa

/-
  Texts that follow one another, joined: BrF, BrG0.
-/
import Derived.Test.YtcbkeabfnldmhaaGreatDoorJoin25
import Derived.Test.YtcbkeabfnldmhaaGreatDoorJoin11
import Derived.Maps.AppendAt
import Derived.Lib.AppendZeros
/-
  Which histories may be told, and whether one is a beginning of another one, in both texts. Condition of the program's: the table knownKinds reads as its text lays it.
-/
namespace Go.Proofs.YtcbkeabfnldmhaaGreatDoor
open Go.RowKit M
open Go.Sort (grow)
namespace M
def eqE (x y : Ev) : Bool := x.id == y.id && (x.ver == y.ver && (x.kind == y.kind && x.name.toList == y.name.toList))
theorem Ev.eqv {x y : Ev} (h1 : x.id = y.id) (h2 : x.ver = y.ver) (h3 : x.kind = y.kind) (h4 : x.name = y.name) : x = y := by cases x; cases y; simp_all
theorem eqE_iff (x y : Ev) : eqE x y = true ↔ x = y := by
  unfold eqE
  rw [eqS]
  simp only [Bool.and_eq_true, decide_eq_true_eq, beq_iff_eq]
  constructor
  · rintro ⟨h1, h2, h3, h4⟩; exact Ev.eqv h1 h2 h3 h4
  · intro h; subst h; exact ⟨rfl, rfl, rfl, rfl⟩
/-- Where Ids are places the same place holds the same event just where they are alike. -/
theorem eqE_cE {a b : Evs} (ha : Pl a) (hb : Pl b) {i : Nat} {x y : Ev} (hx : a[i]? = some x) (hy : b[i]? = some y) : eqE x y = true ↔ cE x y = 0 := by
  rw [eqE_iff]
  constructor
  · intro h; subst h; exact cE_self x
  · intro h
    obtain ⟨h1, h2, h3⟩ := cE_zero h
    exact Ev.eqv (by rw [ha i x hx, hb i y hy]) h1 h2 h3
theorem Tl.pl {es : Evs} (h : Tl es) : Pl es := Hist.pl h.2
theorem Tl.short {es : Evs} (h : Tl es) : es.length ≤ 60 := h.2.1
theorem Tl.pos {es : Evs} (h : Tl es) : 0 < es.length := List.length_pos_iff.2 h.1
theorem tl_nil : ¬ Tl [] := fun h => h.1 rfl
end M
theorem eql_ev (x y : Ev) (w : World) : (binOp .eql 68 (.agg #[.int .i64 x.id, .int .i64 x.ver, .int .i64 x.kind, .string x.name]) (.agg #[.int .i64 y.id, .int .i64 y.ver, .int .i64 y.kind, .string y.name])).run Tryz.prog w = .ok (.bool (eqE x y)) w := by
  have u9 := Tryz.underlying9
  have a9 := Tryz.isAgg9
  have z9 := Tryz.sizeOf9
  have u3 := Tryz.underlying3
  have a3 := Tryz.isAgg3
  have z3 := Tryz.sizeOf3
  have hS : Tryz.prog.underlying 68 = some (.struct (Tryz.prog.fieldsOf 68)) := by kernel_rfl
  have hp : Tryz.prog.stoodInHeld 68 = false := by kernel_rfl
  unfold eqE
  rw [run_eql_struct, show (10000 : Nat) = 9999 + 1 from rfl, run_equalIn_agg w 9999 68 _ _ hS hp]
  simp only [Program.fieldsOf, Tryz.underlying68]
  go_simp
  cases h1 : (x.id == y.id) <;> cases h2 : (x.ver == y.ver) <;> cases h3 : (x.kind == y.kind) <;> cases h4 : (x.name.toList == y.name.toList) <;> simp_all
theorem guard_ev (op : BinOp) (a b : Operand) (x y : Ev) (w : World) : (eqGuard op 68 a b (.agg #[.int .i64 x.id, .int .i64 x.ver, .int .i64 x.kind, .string x.name]) (.agg #[.int .i64 y.id, .int .i64 y.ver, .int .i64 y.kind, .string y.name])).run Tryz.prog w = .ok () w := run_eqGuard_agg w op 68 a b _ _ (by kernel_rfl)
set_option maxHeartbeats 1000000 in
theorem spec_tl (v : Value) (es : Evs) (b : Bool) (w : World) (hv : SliceOf w v es) (hlen : es.length ≤ 1048576) (hnm : ∀ e ∈ es, e.name.size ≤ maxLen) (hb : BP b (Tl es)) :
    Calls Tryz.prog 45 #[v] w fun e w' => e = .returned (.bool b) ∧ Below w.heap.size w w' := by
  have HV := hide hv
  have HNM := hide hnm
  obtain ⟨a, cap, rfl⟩ := hv.form
  clear hnm hv
  by_cases h0 : es = []
  · have HF := hide (hb.no (fun h => h.1 h0))
    subst h0
    clear hb HV HNM hlen
    go_enter Tryz.func45, Tryz.ntmps45
    go_wp2
    go_ret
    exact ⟨ret_bool HF.out.symm, Below.refl _ _⟩
  · have hpos : 0 < es.length := List.length_pos_iff.2 h0
    have hpI : (0 : Int) < (es.length : Int) := by omega
    have hpG : (es.length : Int) > 0 := by omega
    have HB := hide (show BP b (Hist es) from ⟨fun h => (hb.1 h).2, fun h => hb.2 ⟨h0, h⟩⟩)
    clear hb h0
    go_enter Tryz.func45, Tryz.ntmps45
    go_wp2_with fail
    refine (spec_hist _ es b _ HV.out hlen HNM.out HB.out).mono ?_
    rintro e w2 ⟨rfl, hb2⟩
    go_wp2
    go_ret
    exact ⟨rfl, hb2⟩
set_option maxHeartbeats 1000000 in
theorem impl_tl (v : Value) (es : Evs) (b : Bool) (w : World) (hv : SliceOf w v es) (hlen : es.length ≤ 1048576) (hnm : ∀ e ∈ es, e.name.size ≤ maxLen) (hkk : KK w) (hb : BP b (Tl es)) :
    Calls Tryz.prog 50 #[v] w fun e w' => e = .returned (.bool b) ∧ Below w.heap.size w w' := by
  have HV := hide hv
  have HNM := hide hnm
  have HK := hide hkk
  obtain ⟨a, cap, rfl⟩ := hv.form
  clear hnm hv hkk
  by_cases h0 : es = []
  · have HF := hide (hb.no (fun h => h.1 h0))
    subst h0
    clear hb HV HNM hlen
    go_enter Tryz.func50, Tryz.ntmps50
    go_wp2
    go_ret
    exact ⟨ret_bool HF.out.symm, Below.refl _ _⟩
  · have hpos : 0 < es.length := List.length_pos_iff.2 h0
    have hpI : (0 : Int) < (es.length : Int) := by omega
    have hpG : (es.length : Int) > 0 := by omega
    have HB := hide (show BP b (Hist es) from ⟨fun h => (hb.1 h).2, fun h => hb.2 ⟨h0, h⟩⟩)
    clear hb h0
    go_enter Tryz.func50, Tryz.ntmps50
    go_wp2_with fail
    refine (impl_hist _ es b _ HV.out hlen HNM.out HK.out HB.out).mono ?_
    rintro e w2 ⟨rfl, hb2⟩
    go_wp2
    go_ret
    exact ⟨rfl, hb2⟩
set_option maxRecDepth 20000 in
set_option maxHeartbeats 2000000 in
theorem impl_com (v u : Value) (a b : Evs) (w : World) (hv : SliceOf w v a) (hu : SliceOf w u b) (ha : a.length ≤ 1048576) (hb : b.length ≤ 1048576) (pa : Pl a) (pb : Pl b) :
    Calls Tryz.prog 70 #[v, u] w fun e w' => e = .returned (.int .i64 ((com a b : Nat) : Int)) ∧ Below w.heap.size w w' := by
  obtain ⟨a1, cap1, rfl, hr1⟩ := hv
  obtain ⟨a2, cap2, rfl, hr2⟩ := hu
  have H1 := hide hr1
  have H2 := hide hr2
  have HPA := hide pa
  have HPB := hide pb
  obtain ⟨n, hn, hna, hnb, hnd⟩ : ∃ n : Nat, (if b.length < a.length then (b.length : Int) else (a.length : Int)) = (n : Int) ∧ n ≤ a.length ∧ n ≤ b.length ∧ (n = a.length ∨ n = b.length) := by
    by_cases h : b.length < a.length
    · exact ⟨b.length, if_pos h, by omega, Nat.le_refl _, .inr rfl⟩
    · exact ⟨a.length, if_neg h, Nat.le_refl _, by omega, .inl rfl⟩
  have hmn : min (a.length : Int) (b.length : Int) = (n : Int) := by omega
  have HND := hide hnd
  clear hr1 hr2 pa pb hnd
  go_enter Tryz.func70, Tryz.ntmps70
  go_wp2
  go_loopw [5] (fun i wr => ∃ k : Nat, i = .int .i64 k ∧ k ≤ n ∧ Hid (Al a b k) ∧ Below w.heap.size w wr) (fun i _ => n - (intOf i).toNat)
  case atStart => exact ⟨0, rfl, Nat.zero_le _, hide (Al.zero a b), Below.refl _ _⟩
  case round =>
    obtain ⟨k, rfl, hk, HA, hbw⟩ := hrel
    by_cases hlt : k < n
    · obtain ⟨x, hx⟩ : ∃ x, a[k]? = some x := ⟨a[k], List.getElem?_eq_getElem (by omega)⟩
      obtain ⟨b1, o1, rfl, hl1, hrow1⟩ := H1.out (by intro h; subst h; simp at hna; omega)
      obtain ⟨c0, c1, c2, c3⟩ := (hrow1 k x hx).below hbw hl1
      obtain ⟨y, hy⟩ : ∃ y, b[k]? = some y := ⟨b[k], List.getElem?_eq_getElem (by omega)⟩
      obtain ⟨b2, o2, rfl, hl2, hrow2⟩ := H2.out (by intro h; subst h; simp at hnb; omega)
      obtain ⟨d0, d1, d2, d3⟩ := (hrow2 k y hy).below hbw hl2
      have HX := hide hx
      have HY := hide hy
      have hla : k < a.length := by omega
      have hlb : k < b.length := by omega
      have hdd : decide (k < n) = true := decide_eq_true hlt
      have hdI : decide ((k : Int) < (n : Int)) = true := decide_eq_true (by omega)
      have hi0 : (0 : Int) ≤ (k : Int) := by omega
      have hi1 : (k : Int) < (a.length : Int) := by omega
      have hi2 : (k : Int) < (b.length : Int) := by omega
      have hee := fun W => eql_ev x y W
      have hgd := fun op p q W => guard_ev op p q x y W
      have hiff := eqE_cE HPA.out HPB.out hx hy
      clear hrow1 hrow2 H1 H2 hx hy
      cases hz : eqE x y
      · have HN := hide (HA.out.parts HX.out HY.out (fun h => by rw [hiff.2 h] at hz; cases hz)).2
        rw [hz] at hee
        clear hiff hz HA
        go_wp2
        go_big_quiet (fail)
        have hbw2 : Below w.heap.size w (wr.drewN nq) := ⟨hbw.os, hbw.tape, hbw.output, hbw.size, hbw.block⟩
        go_wp2
        go_ret
        exact ⟨ret_int (by rw [HN.out]), hbw2⟩
      · have HN := hide (HA.out.succ HX.out HY.out (hiff.1 hz))
        rw [hz] at hee
        clear hiff hz HA
        go_wp2
        go_big_quiet (fail)
        have hbw2 : Below w.heap.size w (wr.drewN nq) := ⟨hbw.os, hbw.tape, hbw.output, hbw.size, hbw.block⟩
        go_wp2
        go_roundw
        case rel => exact ⟨k + 1, by go_num, by omega, HN, hbw2⟩
        case measure => simp [intOf]; omega
    · have HN := hide (HA.out.short (by have := HND.out; omega))
      have hdd : decide (k < n) = false := decide_eq_false hlt
      have hdI : decide ((k : Int) < (n : Int)) = false := decide_eq_false (by omega)
      clear H1 H2 HA
      go_wp2
      go_big_quiet (fail)
      have hbw2 : Below w.heap.size w (wr.drewN nq) := ⟨hbw.os, hbw.tape, hbw.output, hbw.size, hbw.block⟩
      go_wp2
      go_ret
      exact ⟨ret_int (by rw [HN.out]), hbw2⟩
set_option maxHeartbeats 1000000 in
theorem impl_beg (v u : Value) (a b : Evs) (w : World) (hv : SliceOf w v a) (hu : SliceOf w u b) (ha : a.length ≤ 1048576) (hb : b.length ≤ 1048576) (pa : Pl a) (pb : Pl b) :
    Calls Tryz.prog 64 #[v, u] w fun e w' => e = .returned (.bool (com a b == a.length)) ∧ Below w.heap.size w w' := by
  have HV := hide hv
  have HU := hide hu
  have HA := hide pa
  have HB := hide pb
  obtain ⟨a1, c1, rfl⟩ := hv.form
  obtain ⟨a2, c2, rfl⟩ := hu.form
  have hz : ((com a b : Int) == (a.length : Int)) = (com a b == a.length) := by
    rw [Bool.eq_iff_iff, beq_iff_eq, beq_iff_eq]; omega
  have HZ := hide hz
  clear hv hu pa pb hz
  go_enter Tryz.func64, Tryz.ntmps64
  go_wp2_with fail
  refine (impl_com _ _ a b _ HV.out HU.out ha hb HA.out HB.out).mono ?_
  rintro e w2 ⟨rfl, hb2⟩
  go_wp2
  go_ret
  exact ⟨by first | rfl | exact ret_bool HZ.out, hb2⟩
set_option maxHeartbeats 1000000 in
theorem spec_beg (v u : Value) (l first : Evs) (w : World) (hv : SliceOf w v l) (hu : SliceOf w u first) (ha : l.length ≤ 1048576) (hb : first.length ≤ 1048576) :
    Calls Tryz.prog 68 #[v, u] w fun e w' => e = .returned (.bool (com first l == first.length)) ∧ Below w.heap.size w w' := by
  have HV := hide hv
  have HU := hide hu
  obtain ⟨a1, c1, rfl⟩ := hv.form
  obtain ⟨a2, c2, rfl⟩ := hu.form
  have hz : ((com l first : Int) == (first.length : Int)) = (com first l == first.length) := by
    rw [com_comm first l, Bool.eq_iff_iff, beq_iff_eq, beq_iff_eq]; omega
  have hz2 : (com l first == first.length) = (com first l == first.length) := by rw [com_comm first l]
  have HZ := hide hz
  have HZ2 := hide hz2
  clear hv hu hz hz2
  go_enter Tryz.func68, Tryz.ntmps68
  go_wp2_with fail
  refine (spec_cmp _ _ l first _ HV.out HU.out ha hb).mono ?_
  rintro e w2 ⟨rfl, hb2⟩
  go_wp2
  go_ret
  exact ⟨by first | exact ret_bool HZ.out | exact ret_bool HZ2.out, hb2⟩
end Go.Proofs.YtcbkeabfnldmhaaGreatDoor

/-
  Rows of one cell an element: one put behind; branches of a length that the law lets through; events in a block that is known.
-/
namespace Go.Proofs.YtcbkeabfnldmhaaGreatDoor
open Go.RowKit M
open Go.Sort (grow)
namespace M
/-- One element of one cell put behind a row of a call's own. -/
theorem wpList_put1 (w : World) {ops : Array Oper} {rest : List Oper} {o : Oper} {a : Act} {Q : Exit → Act → World → Prop} (hgd : o.guard = none) (s x : Operand) (t e : TypeId) (z : Value) (bytes : Nat) (ht : Tryz.prog.underlying t = some (.slice e)) (hinfo : (Tryz.prog.info? e).map (fun i => (i.zero, i.size, i.bytes)) = some (some z, 1, bytes)) (hz1 : z.cells.size = 1) (hby : bytes ≤ 64)
    (ho : o.op = .call { callee := .builtin .append, args := #[s, x], argTypes := #[t, t] }) (B : Nat) (n : Nat) (l : List Value) (v val : Value) (hs : a.eval s = v) (hown : w.ownsRow B e 1 v n l) (b off cu : Nat)
    (hx : a.eval x = .slice (some ⟨b, off, none⟩) 1 cu) (hc : w.cell? ⟨b, off, none⟩ = some val) (h1 : val.oneCell' = true) (hl : n + 1 ≤ 2097152) (hbase : B ≤ w.heap.size)
    (h : ∀ a' c' w', w'.ownsRow B e 1 (.slice a' (n + 1) c') (n + 1) (l ++ [val]) → w.grownBy w' v.ownBlock → ((Value.slice a' (n + 1) c').ownBlock = v.ownBlock ∨ (Value.slice a' (n + 1) c').ownBlock = some w.heap.size) → wpList Tryz.prog ops Q rest (a.put o.dst (.slice a' (n + 1) c')) w') : wpList Tryz.prog ops Q (o :: rest) a w := by
  obtain ⟨i0, hi, hz0, hz2, hz3⟩ := info_parts hinfo
  obtain ⟨v', w', hr, hown', hgr, -, hblk⟩ := run_append_own_at (P := Tryz.prog) (w := w) B t o.type e i0 z 1 bytes ht hi hz0 hz2 hz3 hz1 (by decide) v n l hown ⟨b, off, none⟩ 1 cu [val] (by simp) (fun j u hj => by
      cases j with
      | zero =>
        simp only [List.getElem?_cons_zero, Option.some.injEq] at hj
        subst hj
        have : (⟨b, off, none⟩ : Addr).add 0 = ⟨b, off, none⟩ := by unfold Addr.add; split <;> simp_all
        rw [this]; exact hc
      | succ j => simp at hj) (fun u hu => by simp only [List.mem_singleton] at hu; rw [hu]; exact h1) (by unfold maxLen; omega) (by
        have : (n + 1) * bytes ≤ 2097152 * 64 := Nat.mul_le_mul hl hby
        omega) hbase
  obtain ⟨a', c', rfl⟩ : ∃ a' c', v' = .slice a' (n + 1) c' := by
    rcases hown'.2 with ⟨_, h0⟩ | ⟨g, cap, cur, rfl, _⟩
    · omega
    · exact ⟨_, _, rfl⟩
  exact Lib.wpList_append_run (P := Tryz.prog) w hgd s x t t ho _ _ hs hx _ _ hr (h _ _ w' hown' hgr hblk)
theorem own_lt {w : World} {B e s n : Nat} {v : Value} {xs : List Value} (h : w.ownsRow B e s v n xs) {g : Nat} (hg : v.ownBlock = some g) : B ≤ g ∧ g < w.heap.size := by
  rcases h.2 with ⟨rfl, _⟩ | ⟨g', cap, cur, rfl, hB, hb, _⟩
  · simp [Value.ownBlock] at hg
  · simp only [Value.ownBlock, Option.some.injEq] at hg
    subst hg
    refine ⟨hB, ?_⟩
    rcases Nat.lt_or_ge g' w.heap.size with h' | h'
    · exact h'
    · rw [Array.getElem?_eq_none h'] at hb; cases hb
theorem take_snocB {α : Type} {bs : List α} {k : Nat} {b : α} (h : bs[k]? = some b) : bs.take (k + 1) = bs.take k ++ [b] := by
  obtain ⟨hk, rfl⟩ := List.getElem?_eq_some_iff.1 h
  exact List.take_succ_eq_append_getElem hk
theorem one_new (X : World) (a : Value) (t : TypeId) : (X.alloc (.cells #[a] t)).cell? ⟨X.heap.size, 0, none⟩ = some a := by simp
def FineS (bs : Brs) : Prop := bs.length ≤ 1048576 ∧ ∀ b ∈ bs, b.length ≤ 1048576 ∧ ∀ e ∈ b, e.name.size ≤ maxLen
theorem FineS.at {bs : Brs} (h : FineS bs) {i : Nat} {b : Evs} (hb : bs[i]? = some b) : b.length ≤ 1048576 ∧ ∀ e ∈ b, e.name.size ≤ maxLen := h.2 b (List.mem_of_getElem? hb)
theorem blk_lt {w : World} {g : Nat} {o : Obj} (h : w.heap[g]? = some o) : g < w.heap.size := by
  rcases Nat.lt_or_ge g w.heap.size with h' | h'
  · exact h'
  · rw [Array.getElem?_eq_none h'] at h; cases h
theorem evs_sl {w : World} {g n : Nat} {es : List Ev} {t : TypeId} (h : w.heap[g]? = some (.cells (cellsE es).toArray t (0, 0))) (hn : n = es.length) : SliceOf w (.slice (some ⟨g, 0, none⟩) n n) es := by
  subst hn
  exact ⟨_, _, rfl, fun _ => ⟨g, 0, rfl, blk_lt h, row_of_block (rest := []) (by simpa using h)⟩⟩
theorem evs_bk {w : World} {g : Nat} {es : List Ev} {t : TypeId} (h : w.heap[g]? = some (.cells (cellsE es).toArray t (0, 0))) : ∃ f, Blk w g (es.length * 4) f t := by
  have := blk_of h
  rw [List.size_toArray, cellsE_len] at this
  exact ⟨_, this⟩
end M
end Go.Proofs.YtcbkeabfnldmhaaGreatDoor

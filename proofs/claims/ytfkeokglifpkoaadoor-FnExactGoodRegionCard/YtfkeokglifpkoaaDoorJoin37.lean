/-
  Which histories may be told, and whether one is a beginning of another one, in both texts. Condition of the program's: the table knownKinds reads as its text lays it.
-/
import Derived.Test.YtfkeokglifpkoaaDoorJoin36
namespace Go.Proofs.YtfkeokglifpkoaaDoor
open Go.RowKit M
open Go.Sort (grow)
namespace M
def eqE (x y : Ev) : Bool := x.id == y.id && (x.ver == y.ver && (x.kind == y.kind && x.name.toList == y.name.toList))
theorem Ev.eqv {x y : Ev} (h1 : x.id = y.id) (h2 : x.ver = y.ver) (h3 : x.kind = y.kind) (h4 : x.name = y.name) : x = y := by cases x; cases y; simp_all
theorem eqE_iff (x y : Ev) : eqE x y = true ↔ x = y := by
  unfold eqE
  rw [eqS]
  simp only [Bool.and_eq_true, decide_eq_true_eq, beq_iff_eq]
  constructor
  · rintro ⟨h1, h2, h3, h4⟩; exact Ev.eqv h1 h2 h3 h4
  · intro h; subst h; exact ⟨rfl, rfl, rfl, rfl⟩
/-- Where Ids are places the same place holds the same event just where they are alike. -/
theorem eqE_cE {a b : Evs} (ha : Pl a) (hb : Pl b) {i : Nat} {x y : Ev} (hx : a[i]? = some x) (hy : b[i]? = some y) : eqE x y = true ↔ cE x y = 0 := by
  rw [eqE_iff]
  constructor
  · intro h; subst h; exact cE_self x
  · intro h
    obtain ⟨h1, h2, h3⟩ := cE_zero h
    exact Ev.eqv (by rw [ha i x hx, hb i y hy]) h1 h2 h3
theorem Tl.pl {es : Evs} (h : Tl es) : Pl es := Hist.pl h.2
theorem Tl.short {es : Evs} (h : Tl es) : es.length ≤ 60 := h.2.1
theorem Tl.pos {es : Evs} (h : Tl es) : 0 < es.length := List.length_pos_iff.2 h.1
theorem tl_nil : ¬ Tl [] := fun h => h.1 rfl
end M
theorem eql_ev (x y : Ev) (w : World) : (binOp .eql 45 (.agg #[.int .i64 x.id, .int .i64 x.ver, .int .i64 x.kind, .string x.name]) (.agg #[.int .i64 y.id, .int .i64 y.ver, .int .i64 y.kind, .string y.name])).run Tryd.prog w = .ok (.bool (eqE x y)) w := by
  have u9 := Tryd.underlying9
  have a9 := Tryd.isAgg9
  have z9 := Tryd.sizeOf9
  have u3 := Tryd.underlying3
  have a3 := Tryd.isAgg3
  have z3 := Tryd.sizeOf3
  have hS : Tryd.prog.underlying 45 = some (.struct (Tryd.prog.fieldsOf 45)) := by kernel_rfl
  have hp : Tryd.prog.stoodInHeld 45 = false := by kernel_rfl
  unfold eqE
  rw [run_eql_struct, show (10000 : Nat) = 9999 + 1 from rfl, run_equalIn_agg w 9999 45 _ _ hS hp]
  simp only [Program.fieldsOf, Tryd.underlying45]
  go_simp
  cases h1 : (x.id == y.id) <;> cases h2 : (x.ver == y.ver) <;> cases h3 : (x.kind == y.kind) <;> cases h4 : (x.name.toList == y.name.toList) <;> simp_all
theorem guard_ev (op : BinOp) (a b : Operand) (x y : Ev) (w : World) : (eqGuard op 45 a b (.agg #[.int .i64 x.id, .int .i64 x.ver, .int .i64 x.kind, .string x.name]) (.agg #[.int .i64 y.id, .int .i64 y.ver, .int .i64 y.kind, .string y.name])).run Tryd.prog w = .ok () w := run_eqGuard_agg w op 45 a b _ _ (by kernel_rfl)
set_option maxHeartbeats 1000000 in
theorem spec_tl (v : Value) (es : Evs) (b : Bool) (w : World) (hv : SliceOf w v es) (hlen : es.length ≤ 1048576) (hnm : ∀ e ∈ es, e.name.size ≤ maxLen) (hb : BP b (Tl es)) :
    Calls Tryd.prog 18 #[v] w fun e w' => e = .returned (.bool b) ∧ Below w.heap.size w w' := by
  have HV := hide hv
  have HNM := hide hnm
  obtain ⟨a, cap, rfl⟩ := hv.form
  clear hnm hv
  by_cases h0 : es = []
  · have HF := hide (hb.no (fun h => h.1 h0))
    subst h0
    clear hb HV HNM hlen
    go_enter Tryd.func18, Tryd.ntmps18
    go_wp2
    go_ret
    exact ⟨ret_bool HF.out.symm, Below.refl _ _⟩
  · have hpos : 0 < es.length := List.length_pos_iff.2 h0
    have hpI : (0 : Int) < (es.length : Int) := by omega
    have hpG : (es.length : Int) > 0 := by omega
    have HB := hide (show BP b (Hist es) from ⟨fun h => (hb.1 h).2, fun h => hb.2 ⟨h0, h⟩⟩)
    clear hb h0
    go_enter Tryd.func18, Tryd.ntmps18
    go_wp2_with fail
    refine (spec_hist _ es b _ HV.out hlen HNM.out HB.out).mono ?_
    rintro e w2 ⟨rfl, hb2⟩
    go_wp2
    go_ret
    exact ⟨rfl, hb2⟩
set_option maxHeartbeats 1000000 in
theorem impl_tl (v : Value) (es : Evs) (b : Bool) (w : World) (hv : SliceOf w v es) (hlen : es.length ≤ 1048576) (hnm : ∀ e ∈ es, e.name.size ≤ maxLen) (hkk : KK w) (hb : BP b (Tl es)) :
    Calls Tryd.prog 31 #[v] w fun e w' => e = .returned (.bool b) ∧ Below w.heap.size w w' := by
  have HV := hide hv
  have HNM := hide hnm
  have HK := hide hkk
  obtain ⟨a, cap, rfl⟩ := hv.form
  clear hnm hv hkk
  by_cases h0 : es = []
  · have HF := hide (hb.no (fun h => h.1 h0))
    subst h0
    clear hb HV HNM hlen
    go_enter Tryd.func31, Tryd.ntmps31
    go_wp2
    go_ret
    exact ⟨ret_bool HF.out.symm, Below.refl _ _⟩
  · have hpos : 0 < es.length := List.length_pos_iff.2 h0
    have hpI : (0 : Int) < (es.length : Int) := by omega
    have hpG : (es.length : Int) > 0 := by omega
    have HB := hide (show BP b (Hist es) from ⟨fun h => (hb.1 h).2, fun h => hb.2 ⟨h0, h⟩⟩)
    clear hb h0
    go_enter Tryd.func31, Tryd.ntmps31
    go_wp2_with fail
    refine (impl_hist _ es b _ HV.out hlen HNM.out HK.out HB.out).mono ?_
    rintro e w2 ⟨rfl, hb2⟩
    go_wp2
    go_ret
    exact ⟨rfl, hb2⟩
set_option maxRecDepth 20000 in
set_option maxHeartbeats 2000000 in
theorem impl_com (v u : Value) (a b : Evs) (w : World) (hv : SliceOf w v a) (hu : SliceOf w u b) (ha : a.length ≤ 1048576) (hb : b.length ≤ 1048576) (pa : Pl a) (pb : Pl b) :
    Calls Tryd.prog 41 #[v, u] w fun e w' => e = .returned (.int .i64 ((com a b : Nat) : Int)) ∧ Below w.heap.size w w' := by
  obtain ⟨a1, cap1, rfl, hr1⟩ := hv
  obtain ⟨a2, cap2, rfl, hr2⟩ := hu
  have H1 := hide hr1
  have H2 := hide hr2
  have HPA := hide pa
  have HPB := hide pb
  obtain ⟨n, hn, hna, hnb, hnd⟩ : ∃ n : Nat, (if b.length < a.length then (b.length : Int) else (a.length : Int)) = (n : Int) ∧ n ≤ a.length ∧ n ≤ b.length ∧ (n = a.length ∨ n = b.length) := by
    by_cases h : b.length < a.length
    · exact ⟨b.length, if_pos h, by omega, Nat.le_refl _, .inr rfl⟩
    · exact ⟨a.length, if_neg h, Nat.le_refl _, by omega, .inl rfl⟩
  have hmn : min (a.length : Int) (b.length : Int) = (n : Int) := by omega
  have HND := hide hnd
  clear hr1 hr2 pa pb hnd
  go_enter Tryd.func41, Tryd.ntmps41
  go_wp2
  go_loopw [5] (fun i wr => ∃ k : Nat, i = .int .i64 k ∧ k ≤ n ∧ Hid (Al a b k) ∧ Below w.heap.size w wr) (fun i _ => n - (intOf i).toNat)
  case atStart => exact ⟨0, rfl, Nat.zero_le _, hide (Al.zero a b), Below.refl _ _⟩
  case round =>
    obtain ⟨k, rfl, hk, HA, hbw⟩ := hrel
    by_cases hlt : k < n
    · obtain ⟨x, hx⟩ : ∃ x, a[k]? = some x := ⟨a[k], List.getElem?_eq_getElem (by omega)⟩
      obtain ⟨b1, o1, rfl, hl1, hrow1⟩ := H1.out (by intro h; subst h; simp at hna; omega)
      obtain ⟨c0, c1, c2, c3⟩ := (hrow1 k x hx).below hbw hl1
      obtain ⟨y, hy⟩ : ∃ y, b[k]? = some y := ⟨b[k], List.getElem?_eq_getElem (by omega)⟩
      obtain ⟨b2, o2, rfl, hl2, hrow2⟩ := H2.out (by intro h; subst h; simp at hnb; omega)
      obtain ⟨d0, d1, d2, d3⟩ := (hrow2 k y hy).below hbw hl2
      have HX := hide hx
      have HY := hide hy
      have hla : k < a.length := by omega
      have hlb : k < b.length := by omega
      have hdd : decide (k < n) = true := decide_eq_true hlt
      have hdI : decide ((k : Int) < (n : Int)) = true := decide_eq_true (by omega)
      have hi0 : (0 : Int) ≤ (k : Int) := by omega
      have hi1 : (k : Int) < (a.length : Int) := by omega
      have hi2 : (k : Int) < (b.length : Int) := by omega
      have hee := fun W => eql_ev x y W
      have hgd := fun op p q W => guard_ev op p q x y W
      have hiff := eqE_cE HPA.out HPB.out hx hy
      clear hrow1 hrow2 H1 H2 hx hy
      cases hz : eqE x y
      · have HN := hide (HA.out.parts HX.out HY.out (fun h => by rw [hiff.2 h] at hz; cases hz)).2
        rw [hz] at hee
        clear hiff hz HA
        go_wp2
        go_big_quiet (fail)
        have hbw2 : Below w.heap.size w (wr.drewN nq) := ⟨hbw.os, hbw.tape, hbw.output, hbw.size, hbw.block⟩
        go_wp2
        go_ret
        exact ⟨ret_int (by rw [HN.out]), hbw2⟩
      · have HN := hide (HA.out.succ HX.out HY.out (hiff.1 hz))
        rw [hz] at hee
        clear hiff hz HA
        go_wp2
        go_big_quiet (fail)
        have hbw2 : Below w.heap.size w (wr.drewN nq) := ⟨hbw.os, hbw.tape, hbw.output, hbw.size, hbw.block⟩
        go_wp2
        go_roundw
        case rel => exact ⟨k + 1, by go_num, by omega, HN, hbw2⟩
        case measure => simp [intOf]; omega
    · have HN := hide (HA.out.short (by have := HND.out; omega))
      have hdd : decide (k < n) = false := decide_eq_false hlt
      have hdI : decide ((k : Int) < (n : Int)) = false := decide_eq_false (by omega)
      clear H1 H2 HA
      go_wp2
      go_big_quiet (fail)
      have hbw2 : Below w.heap.size w (wr.drewN nq) := ⟨hbw.os, hbw.tape, hbw.output, hbw.size, hbw.block⟩
      go_wp2
      go_ret
      exact ⟨ret_int (by rw [HN.out]), hbw2⟩
set_option maxHeartbeats 1000000 in
theorem impl_beg (v u : Value) (a b : Evs) (w : World) (hv : SliceOf w v a) (hu : SliceOf w u b) (ha : a.length ≤ 1048576) (hb : b.length ≤ 1048576) (pa : Pl a) (pb : Pl b) :
    Calls Tryd.prog 32 #[v, u] w fun e w' => e = .returned (.bool (com a b == a.length)) ∧ Below w.heap.size w w' := by
  have HV := hide hv
  have HU := hide hu
  have HA := hide pa
  have HB := hide pb
  obtain ⟨a1, c1, rfl⟩ := hv.form
  obtain ⟨a2, c2, rfl⟩ := hu.form
  have hz : ((com a b : Int) == (a.length : Int)) = (com a b == a.length) := by
    rw [Bool.eq_iff_iff, beq_iff_eq, beq_iff_eq]; omega
  have HZ := hide hz
  clear hv hu pa pb hz
  go_enter Tryd.func32, Tryd.ntmps32
  go_wp2_with fail
  refine (impl_com _ _ a b _ HV.out HU.out ha hb HA.out HB.out).mono ?_
  rintro e w2 ⟨rfl, hb2⟩
  go_wp2
  go_ret
  exact ⟨by first | rfl | exact ret_bool HZ.out, hb2⟩
set_option maxHeartbeats 1000000 in
theorem spec_beg (v u : Value) (l first : Evs) (w : World) (hv : SliceOf w v l) (hu : SliceOf w u first) (ha : l.length ≤ 1048576) (hb : first.length ≤ 1048576) :
    Calls Tryd.prog 20 #[v, u] w fun e w' => e = .returned (.bool (com first l == first.length)) ∧ Below w.heap.size w w' := by
  have HV := hide hv
  have HU := hide hu
  obtain ⟨a1, c1, rfl⟩ := hv.form
  obtain ⟨a2, c2, rfl⟩ := hu.form
  have hz : ((com l first : Int) == (first.length : Int)) = (com first l == first.length) := by
    rw [com_comm first l, Bool.eq_iff_iff, beq_iff_eq, beq_iff_eq]; omega
  have hz2 : (com l first == first.length) = (com first l == first.length) := by rw [com_comm first l]
  have HZ := hide hz
  have HZ2 := hide hz2
  clear hv hu hz hz2
  go_enter Tryd.func20, Tryd.ntmps20
  go_wp2_with fail
  refine (spec_cmp _ _ l first _ HV.out HU.out ha hb).mono ?_
  rintro e w2 ⟨rfl, hb2⟩
  go_wp2
  go_ret
  exact ⟨by first | exact ret_bool HZ.out | exact ret_bool HZ2.out, hb2⟩
end Go.Proofs.YtfkeokglifpkoaaDoor

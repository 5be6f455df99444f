/-
  Texts that follow one another, joined: Shelf, QuB.
-/
import Derived.Shelf.LaysM
import Derived.Shelf.Strconv.Clone
import Derived.Shelf.Slices.Equal
import Derived.Shelf.Slices.Empties2
import Derived.Test.YtfjdbenbiakbbaaProg
import Derived.Test.YtfjdbenbiakbbaaJoin9
import Derived.Test.YtfjdbenbiakbbaaJoin10
import Derived.Maps.AppendAt
import Derived.Lib.AppendZeros
import Derived.Laws.AppendOwnNone
import Derived.Deep.AppendLies
import Derived.Deep.RegionLaw
/-
  The library contracts that the program calls, laid at this translation: each is one application of a theorem of the given library.
-/
namespace Go.Proofs
open Go.Shelf
def Try.laysM316_ren : Go.Shelf.Ren := ⟨fun | 316 => 93 | n => n, fun | 9 => 9 | 3 => 3 | 4 => 4 | 37 => 58 | 0 => 0 | 127 => 118 | 5 => 5 | n => n, fun | n => n⟩
theorem Try.laysM316 : Go.Proofs.LaysM.n316 Try.prog Try.laysM316_ren := {
  mixed := by kernel_rfl
  f316 := Try.func93.trans (congrArg some (by kernel_rfl))
  t0 := Try.underlying0
  a0 := Try.isAgg0
  z0 := Try.sizeOf0
  v0 := Try.zeroValue0
  t3 := Try.underlying3
  a3 := Try.isAgg3
  z3 := Try.sizeOf3
  v3 := Try.zeroValue3
  t4 := Try.underlying4
  a4 := Try.isAgg4
  z4 := Try.sizeOf4
  v4 := Try.zeroValue4
  t9 := Try.underlying9
  a9 := Try.isAgg9
  z9 := Try.sizeOf9
  v9 := Try.zeroValue9
  t37 := Try.underlying58
  a37 := Try.isAgg58
  z37 := Try.sizeOf58
  v37 := Try.zeroValue58
  t127 := Try.underlying118
  a127 := Try.isAgg118
  z127 := Try.sizeOf118
  v127 := Try.zeroValue118
  t5 := Try.underlying5
  a5 := Try.isAgg5
  z5 := Try.sizeOf5
  v5 := Try.zeroValue5
  i0 := by kernel_rfl
  i3 := by kernel_rfl
  i4 := by kernel_rfl
  i5 := by kernel_rfl
  i9 := by kernel_rfl
  i37 := by kernel_rfl
  i127 := by kernel_rfl }
open Go.RowKit in
theorem Try.stringslite_Clone (s : ByteArray) (w : World) (hlim : s.size ≤ 281474976710656) :
    Calls Try.prog 93 #[.string s] w fun e w' => e = .returned (.string s) ∧ Below w.heap.size w w' := Any.stringslite_Clone Try.laysM316 s w hlim
def Try.lays193_ren : Go.Shelf.Ren := ⟨fun | 193 => 86 | n => n, fun | 31 => 22 | 9 => 9 | 4 => 4 | 3 => 3 | 0 => 0 | n => n, fun | n => n⟩
theorem Try.lays193 : Go.Proofs.Lays.n193 Try.prog Try.lays193_ren := {
  mixed := by kernel_rfl
  f193 := Try.func86.trans (congrArg some (by kernel_rfl))
  t0 := Try.underlying0
  a0 := Try.isAgg0
  z0 := Try.sizeOf0
  v0 := Try.zeroValue0
  t3 := Try.underlying3
  a3 := Try.isAgg3
  z3 := Try.sizeOf3
  v3 := Try.zeroValue3
  t4 := Try.underlying4
  a4 := Try.isAgg4
  z4 := Try.sizeOf4
  v4 := Try.zeroValue4
  t9 := Try.underlying9
  a9 := Try.isAgg9
  z9 := Try.sizeOf9
  v9 := Try.zeroValue9
  t31 := Try.underlying22
  a31 := Try.isAgg22
  z31 := Try.sizeOf22
  v31 := Try.zeroValue22 }
open Go.RowKit Go.Lib in
theorem Try.slices_Equal_string (b1 o1 n c b2 o2 m d : Nat) (xs ys : List ByteArray) (w : World) (hx : n ≤ xs.length) (hy : m ≤ ys.length) (hbig : n ≤ 9223372036854775807) (hbig2 : m ≤ 9223372036854775807) (hc1 : ∀ j, j < xs.length → w.cell? ⟨b1, o1 + j, none⟩ = some (.string (xs.getD j ByteArray.empty))) (hc2 : ∀ j, j < ys.length → w.cell? ⟨b2, o2 + j, none⟩ = some (.string (ys.getD j ByteArray.empty))) :
    Calls Try.prog 86 #[.slice (some ⟨b1, o1, none⟩) n c, .slice (some ⟨b2, o2, none⟩) m d] w fun e w' => e = .returned (.bool (decide (xs.take n = ys.take m))) ∧ ∃ q, w' = w.drewN q := Any.slices_Equal_string Try.lays193 b1 o1 n c b2 o2 m d xs ys w hx hy hbig hbig2 hc1 hc2
open Go.RowKit Go.Lib in
theorem Try.slices_Equal_string_empty (a1 a2 : Option Addr) (c m d : Nat) (w : World) (hbig2 : m ≤ 9223372036854775807) :
    Calls Try.prog 86 #[.slice a1 0 c, .slice a2 m d] w fun e w' => e = .returned (.bool (decide (m = 0))) ∧ w' = w := Any.slices_Equal_string_empty Try.lays193 a1 a2 c m d w hbig2
open Go.RowKit Go.Lib in
theorem Try.slices_Equal_string_lens (a1 a2 : Option Addr) (n c m d : Nat) (w : World) (hnm : n ≠ m) :
    Calls Try.prog 86 #[.slice a1 n c, .slice a2 m d] w fun e w' => e = .returned (.bool false) ∧ w' = w := Any.slices_Equal_string_lens Try.lays193 a1 a2 n c m d w hnm
end Go.Proofs

/-
  Rows of texts and of packets: what is appended to them; a box of three cells.
-/
namespace Go.Proofs.Ytfjdbenbiakbbaa
open Go.RowKit M
open Clk (upd upd_same upd_other)
open Go.Sort (grow)
namespace M
theorem addr_lit (b o j : Nat) : (⟨b, o, none⟩ : Addr).add j = ⟨b, o + j, none⟩ := by unfold Addr.add; split <;> simp_all
/-- A slice of texts that is read, its length within its capacity. -/
def TxC (w : World) (v : Value) (l : Txs) : Prop := TxsOf w v l ∧ ∃ a c, v = .slice a l.length c ∧ l.length ≤ c ∧ (a = none → c = 0)
theorem TxC.below {w w' : World} {v : Value} {l : Txs} (h : TxC w v l) (hb : Below w.heap.size w w') : TxC w' v l := ⟨h.1.below hb, h.2⟩
theorem OwnT.c {w : World} {B : Nat} {v : Value} {l : Txs} (h : OwnT w B v l) : TxC w v l := by
  refine ⟨h.txs, ?_⟩
  rcases h.split with ⟨rfl, rfl⟩ | ⟨g, cap, rfl, _, _, hc, _⟩
  · exact ⟨_, _, rfl, Nat.le_refl _, fun _ => rfl⟩
  · exact ⟨_, _, rfl, hc, fun h => by cases h⟩
theorem TxC.parts {w : World} {v : Value} {l : Txs} (h : TxC w v l) : ∃ a cap, v = .slice a l.length cap ∧ l.length ≤ cap ∧ (0 < l.length → ∃ b off, a = some ⟨b, off, none⟩ ∧ b < w.heap.size ∧ ∀ i x, l[i]? = some x → w.cell? ⟨b, off + i, none⟩ = some (.string x)) := by
  obtain ⟨⟨a, cap, rfl, hr⟩, a', c', hv, hc, -⟩ := h
  simp only [Value.slice.injEq, true_and] at hv
  obtain ⟨rfl, rfl⟩ := hv
  exact ⟨a, cap, rfl, hc, hr⟩
theorem TxC.nil0 {w : World} {n c : Nat} {l : Txs} (h : TxC w (.slice none n c) l) : n = 0 ∧ c = 0 ∧ l = [] := by
  obtain ⟨⟨a, cap, hv1, hr⟩, a', c', hv, hc, h0⟩ := h
  simp only [Value.slice.injEq] at hv hv1
  obtain ⟨rfl, h1, rfl⟩ := hv
  have := h0 rfl
  have h2 : l.length = 0 := by omega
  exact ⟨by omega, this, List.length_eq_zero_iff.1 h2⟩
theorem sv_one (l : Txs) : ∀ v ∈ sv l, v.oneCell' = true := fun v hv => by
  obtain ⟨x, _, rfl⟩ := List.mem_map.1 hv; rfl
theorem sv_get {l : Txs} {j : Nat} {v : Value} (h : (sv l)[j]? = some v) : ∃ x, l[j]? = some x ∧ v = .string x := by
  unfold sv at h
  rw [List.getElem?_map] at h
  cases hx : l[j]? with
  | none => rw [hx] at h; cases h
  | some x => rw [hx] at h; simp at h; exact ⟨x, rfl, h.symm⟩
theorem OwnT.alloc {w : World} {B : Nat} {v : Value} {l : Txs} (h : OwnT w B v l) (o : Obj) : OwnT (w.alloc o) B v l := h.down ((Below.refl _ w).alloc (Nat.le_refl _) o)
theorem OwnT.lit0 (w : World) : OwnT (w.alloc (.cells #[] 9)) w.heap.size (.slice (some ⟨w.heap.size, 0, none⟩) 0 0) [] :=
  World.ownsRow_lit (base := w.heap.size) (e := 9) (size := 1) w #[] 0 (Nat.le_refl _) (Nat.zero_le _) rfl
theorem lit_txc {w : World} {vb : Nat} {x : ByteArray} (h : w.heap[vb]? = some (.cells #[.string x] 9 (0, 0))) : TxC w (.slice (some ⟨vb, 0, none⟩) 1 1) [x] := by
  have hlt : vb < w.heap.size := by
    rcases Nat.lt_or_ge vb w.heap.size with h' | h'
    · exact h'
    · rw [Array.getElem?_eq_none h'] at h; cases h
  refine ⟨⟨_, _, rfl, fun _ => ⟨vb, 0, rfl, hlt, fun i y hi => ?_⟩⟩, _, _, rfl, Nat.le_refl _, fun e => by cases e⟩
  match i, hi with
  | 0, hi => simp at hi; subst hi; simp [World.cell?, h]
theorem TxsOf.src {w : World} {ad : Addr} {n cap : Nat} {l : Txs} (h : TxsOf w (.slice (some ad) n cap) l) : ∀ j u, (sv l)[j]? = some u → w.cell? (ad.add j) = some u := fun j u hj => by
  obtain ⟨y, hy, rfl⟩ := sv_get hj
  obtain ⟨a, c, hv, hr⟩ := h
  simp only [Value.slice.injEq] at hv
  obtain ⟨rfl, -, -⟩ := hv
  obtain ⟨b, off, ha, _, hc⟩ := hr (by have := lt_of_get hy; omega)
  simp only [Option.some.injEq] at ha
  subst ha
  rw [addr_lit]; exact hc j y hy
/-- Texts appended to a row of the call's own. -/
theorem wpList_app (w : World) {ops : Array Oper} {rest : List Oper} {o : Oper} {a : Act} {Q : Exit → Act → World → Prop} (hgd : o.guard = none) (s x : Operand)
    (ho : o.op = .call { callee := .builtin .append, args := #[s, x], argTypes := #[22, 22] }) (B : Nat) (l0 l : Txs) (v u : Value) (hs : a.eval s = v) (hown : OwnT w B v l0)
    (hx : a.eval x = u) (hu : TxC w u l) (hl : l0.length + l.length ≤ 2097152) (hbase : B ≤ w.heap.size)
    (h : ∀ a' n' c' w', OwnT w' B (.slice a' n' c') (l0 ++ l) → w.grownBy w' v.ownBlock → ((Value.slice a' n' c').ownBlock = v.ownBlock ∨ (Value.slice a' n' c').ownBlock = some w.heap.size) → wpList Try.prog ops Q rest (a.put o.dst (.slice a' n' c')) w') : wpList Try.prog ops Q (o :: rest) a w := by
  obtain ⟨i0, hi, hz0, hz1, hz2⟩ := info_parts info_str
  obtain ⟨au, cu, rfl, -, hrow⟩ := hu.parts
  cases au with
  | none =>
    obtain ⟨h1, rfl, rfl⟩ := hu.nil0
    have hr := run_append_owned_none (P := Try.prog) (w := w) B 22 o.type 9 i0 1 Try.underlying22 hi _ _ _ hown
    obtain ⟨a', c', rfl⟩ := hown.form
    exact Lib.wpList_append_run (P := Try.prog) w hgd s x 22 22 ho _ _ hs hx _ _ hr (h _ _ _ w (by rw [List.append_nil]; exact hown) (gbT_refl w _) (.inl rfl))
  | some ad =>
    obtain ⟨v', w', hr, hown', hgr, -, hblk⟩ := run_append_own_at (P := Try.prog) (w := w) B 22 o.type 9 i0 _ 1 16 Try.underlying22 hi hz0 hz1 hz2 rfl (by decide) v _ _ hown ad l.length cu (sv l) (by rw [sv_len]; omega) hu.1.src (sv_one l) (by unfold maxLen; omega) (by omega) hbase
    have hO : OwnT w' B v' (l0 ++ l) := by
      unfold OwnT
      rw [List.length_append, sv_app]; exact hown'
    obtain ⟨a', c', rfl⟩ := hO.form
    exact Lib.wpList_append_run (P := Try.prog) w hgd s x 22 22 ho _ _ hs hx _ _ hr (h _ _ _ w' hO hgr hblk)
/-- A slice of packets that is read, its length within its capacity. -/
def PkC (w : World) (v : Value) (l : Pks) : Prop := PksOf w v l ∧ ∃ a c, v = .slice a l.length c ∧ l.length ≤ c ∧ (a = none → c = 0)
theorem PkC.below {w w' : World} {v : Value} {l : Pks} (h : PkC w v l) (hb : Below w.heap.size w w') : PkC w' v l := ⟨h.1.below hb, h.2⟩
theorem OwnP.c {w : World} {B : Nat} {v : Value} {l : Pks} (h : OwnP w B v l) : PkC w v l := by
  refine ⟨h.pks, ?_⟩
  rcases h.split with ⟨rfl, rfl⟩ | ⟨g, cap, rfl, _, _, hc, _⟩
  · exact ⟨_, _, rfl, Nat.le_refl _, fun _ => rfl⟩
  · exact ⟨_, _, rfl, hc, fun h => by cases h⟩
theorem PkC.parts {w : World} {v : Value} {l : Pks} (h : PkC w v l) : ∃ a cap, v = .slice a l.length cap ∧ l.length ≤ cap ∧ (a = none → l = [] ∧ cap = 0) ∧ (0 < l.length → ∃ b off, a = some ⟨b, off, none⟩ ∧ b < w.heap.size ∧ ∀ i x, l[i]? = some x → P3 w b (off + i * 3) x) := by
  obtain ⟨⟨a, cap, rfl, hr⟩, a', c', hv, hc, h0⟩ := h
  simp only [Value.slice.injEq, true_and] at hv
  obtain ⟨rfl, rfl⟩ := hv
  exact ⟨a, cap, rfl, hc, fun e => ⟨List.length_eq_zero_iff.1 (by have := h0 e; omega), h0 e⟩, hr⟩
theorem OwnP.alloc {w : World} {B : Nat} {v : Value} {l : Pks} (h : OwnP w B v l) (o : Obj) : OwnP (w.alloc o) B v l := h.down ((Below.refl _ w).alloc (Nat.le_refl _) o)
theorem OwnP.lit0 (w : World) : OwnP (w.alloc (.cells #[] 88)) w.heap.size (.slice (some ⟨w.heap.size, 0, none⟩) 0 0) [] :=
  World.ownsRow_lit (base := w.heap.size) (e := 88) (size := 3) w #[] 0 (Nat.le_refl _) (Nat.zero_le _) rfl
theorem PksOf.src {w : World} {ad : Addr} {n cap : Nat} {l : Pks} (h : PksOf w (.slice (some ad) n cap) l) : ∀ j u, (cellsP l)[j]? = some u → w.cell? (ad.add j) = some u := fun j u hj => by
  have hl : j < l.length * 3 := by
    have := (List.getElem?_eq_some_iff.1 hj).1
    rwa [cellsP_len] at this
  obtain ⟨a, c, hv, hr⟩ := h
  simp only [Value.slice.injEq] at hv
  obtain ⟨rfl, -, -⟩ := hv
  obtain ⟨b', off', ha, _, hrow⟩ := hr (by omega)
  simp only [Option.some.injEq] at ha
  subst ha
  rw [addr_lit]
  have hd : l[j / 3]? = some l[j / 3] := List.getElem?_eq_getElem (by omega)
  obtain ⟨k0, k1, k2⟩ := cellsP_at l (j / 3) _ hd
  obtain ⟨r0, r1, r2⟩ := hrow _ _ hd
  rcases (show j = j / 3 * 3 ∨ j = j / 3 * 3 + 1 ∨ j = j / 3 * 3 + 2 by omega) with e | e | e
  · rw [e, k0] at hj
    rw [e, r0, hj]
  · rw [e, k1] at hj
    rw [e, ← Nat.add_assoc, r1, hj]
  · rw [e, k2] at hj
    rw [e, ← Nat.add_assoc, r2, hj]
/-- Packets appended to a row of the call's own. -/
theorem wpList_appP (w : World) {ops : Array Oper} {rest : List Oper} {o : Oper} {a : Act} {Q : Exit → Act → World → Prop} (hgd : o.guard = none) (s x : Operand)
    (ho : o.op = .call { callee := .builtin .append, args := #[s, x], argTypes := #[30, 30] }) (B : Nat) (l0 l : Pks) (v u : Value) (hs : a.eval s = v) (hown : OwnP w B v l0)
    (hx : a.eval x = u) (hu : PkC w u l) (hl : l0.length + l.length ≤ 2097152) (hbase : B ≤ w.heap.size)
    (h : ∀ a' n' c' w', OwnP w' B (.slice a' n' c') (l0 ++ l) → w.grownBy w' v.ownBlock → ((Value.slice a' n' c').ownBlock = v.ownBlock ∨ (Value.slice a' n' c').ownBlock = some w.heap.size) → wpList Try.prog ops Q rest (a.put o.dst (.slice a' n' c')) w') : wpList Try.prog ops Q (o :: rest) a w := by
  obtain ⟨i0, hi, hz0, hz1, hz2⟩ := info_parts info_pk
  obtain ⟨au, cu, rfl, -, hn, hrow⟩ := hu.parts
  cases au with
  | none =>
    obtain ⟨rfl, rfl⟩ := hn rfl
    have hr := run_append_owned_none (P := Try.prog) (w := w) B 30 o.type 88 i0 3 Try.underlying30 hi _ _ _ hown
    obtain ⟨a', c', rfl⟩ := hown.form
    exact Lib.wpList_append_run (P := Try.prog) w hgd s x 30 30 ho _ _ hs hx _ _ hr (h _ _ _ w (by rw [List.append_nil]; exact hown) (gbT_refl w _) (.inl rfl))
  | some ad =>
    obtain ⟨v', w', hr, hown', hgr, -, hblk⟩ := run_append_own_at (P := Try.prog) (w := w) B 30 o.type 88 i0 _ 3 32 Try.underlying30 hi hz0 hz1 hz2 rfl (by decide) v _ _ hown ad l.length cu (cellsP l) (cellsP_len l) hu.1.src (cellsP_one l) (by unfold maxLen; omega) (by omega) hbase
    have hO : OwnP w' B v' (l0 ++ l) := by
      unfold OwnP
      rw [List.length_append, cellsP_app]; exact hown'
    obtain ⟨a', c', rfl⟩ := hO.form
    exact Lib.wpList_append_run (P := Try.prog) w hgd s x 30 30 ho _ _ hs hx _ _ hr (h _ _ _ w' hO hgr hblk)
/-- A box of three cells. -/
def t3 (a b c : Value) : Nat → Value := fun i => if i = 0 then a else if i = 1 then b else c
theorem newT3 (w : World) (a b c : Value) (t : TypeId) : Blk (w.alloc (.cells #[a, b, c] t)) w.heap.size 3 (t3 a b c) t := Blk.fresh _ _ _ _ _ rfl
theorem Blk.trp {w : World} {g : Nat} {a b c : Value} {t : TypeId} (h : Blk w g 3 (t3 a b c) t) :
    (w.cell? ⟨g, 0, none⟩ = some a ∧ w.cell? ⟨g, 1, none⟩ = some b ∧ w.cell? ⟨g, 2, none⟩ = some c) ∧ w.frozen? ⟨g, 0, none⟩ = false ∧ w.frozen? ⟨g, 1, none⟩ = false ∧ w.frozen? ⟨g, 2, none⟩ = false :=
  ⟨⟨h.cell (i := 0) (by omega), h.cell (i := 1) (by omega), h.cell (i := 2) (by omega)⟩, h.thaw 0, h.thaw 1, h.thaw 2⟩
theorem Blk.putT3 {w : World} {g : Nat} {a b c : Value} {t : TypeId} (h : Blk w g 3 (t3 a b c) t) (x y z : Value) :
    Blk (((w.setCell ⟨g, 0, none⟩ x).setCell ⟨g, 1, none⟩ y).setCell ⟨g, 2, none⟩ z) g 3 (t3 x y z) t := by
  refine (((h.set 0 x).set 1 y).set 2 z).ext fun i hi => ?_
  rcases (show i = 0 ∨ i = 1 ∨ i = 2 by omega) with e | e | e
  · subst e; rfl
  · subst e; rfl
  · subst e; rfl
abbrev qp (p : Pk) : Nat → Value := t3 (.bool p.ack) (.int .i64 p.no) (.string p.tx)
abbrev ql (s : Lst) : Nat → Value := t3 (.int .i64 s.kind) (.int .i64 s.k) (.string s.tx)
theorem lit_pk {w : World} {vb : Nat} {p : Pk} (h : Blk w vb 3 (qp p) 88) : PkC w (.slice (some ⟨vb, 0, none⟩) 1 1) [p] := by
  refine ⟨⟨_, _, rfl, fun _ => ⟨vb, 0, rfl, h.lt, fun i y hi => ?_⟩⟩, _, _, rfl, Nat.le_refl _, fun e => by cases e⟩
  match i, hi with
  | 0, hi => simp at hi; subst hi; exact h.trp.1
theorem owns_same {w w' : World} {B e size n : Nat} {v : Value} {xs : List Value} (h : w.ownsRow B e size v n xs) (hh : w'.heap = w.heap) : w'.ownsRow B e size v n xs := ⟨h.1, by rw [hh]; exact h.2⟩
end M
theorem clone_s (s : ByteArray) (w : World) (hlim : s.size ≤ 281474976710656) :
    Calls Try.prog 88 #[.string s] w fun e w' => e = .returned (.string s) ∧ Below w.heap.size w w' := by
  go_enter Try.func88, Try.ntmps88
  go_wp2_with (go_at_call 93; refine (Try.stringslite_Clone _ _ hlim).mono ?_; rintro e w1 ⟨rfl, hb1⟩)
  go_ret
  exact ⟨rfl, hb1⟩
set_option maxHeartbeats 2000000 in
theorem copy_names (v : Value) (l : Txs) (w : World) (hv : TxsOf w v l) (hn : l.length ≤ 1048576) (hnm : ∀ x ∈ l, x.size ≤ 12) :
    Calls Try.prog 72 #[v] w fun e w' => (∃ a n c, e = .returned (.slice a n c) ∧ OwnT w' w.heap.size (.slice a n c) l) ∧ Below w.heap.size w w' := by
  obtain ⟨a, cap, rfl, hr⟩ := hv
  have HR := hide hr
  have HN := hide hnm
  clear hr hnm
  go_enter Try.func72, Try.ntmps72
  go_wp2
  go_loopw [3, 8] (fun o i wr => ∃ (k n c : Nat) (ao : Option Addr), k ≤ l.length ∧ i = .int .i64 k ∧ o = .slice ao n c ∧ Hid (OwnT wr w.heap.size (.slice ao n c) (l.take k)) ∧ Below w.heap.size w wr) (fun _ i _ => l.length - (intOf i).toNat)
  case atStart => exact ⟨0, 0, 0, none, Nat.zero_le _, rfl, rfl, hide (OwnT.nil _ _), Below.refl _ _⟩
  case round =>
    obtain ⟨k, n, c, ao, hk, rfl, rfl, HO, hbw⟩ := hrel
    by_cases hlt : k < l.length
    · obtain ⟨b, off, rfl, hb, hrow⟩ := HR.out (by omega)
      obtain ⟨x, hx⟩ : ∃ x, l[k]? = some x := ⟨l[k], List.getElem?_eq_getElem hlt⟩
      have c0 := (hbw.cell (p := ⟨b, off + k, none⟩) hb).trans (hrow k x hx)
      have hxs : x.size ≤ 281474976710656 := by have := HN.out x (List.mem_of_getElem? hx); omega
      have HX := hide hx
      clear hrow hx HR HN
      go_wp2_with fail
      refine (clone_s x _ hxs).mono ?_
      rintro e w2 ⟨rfl, hb2⟩
      have hbw2 := hbw.trans (hb2.mono hbw.size)
      have hown := (HO.out.down hb2).alloc (.cells #[.string x] 9)
      have hlit := lit_txc (w := w2.alloc (.cells #[.string x] 9)) (heap_alloc_new w2 (.cells #[.string x] 9))
      clear hb2 HO c0
      go_wp2_with (at_builtin; refine wpList_app _ rfl _ _ rfl w.heap.size (l.take k) [x] _ _ rfl hown rfl hlit (by rw [List.length_take]; simp; omega) (by have := hbw2.size; simp; omega) ?_)
      intro a4 n4 c4 w4 hO4 hgr _
      have hbw4 : Below w.heap.size w w4 := (hbw2.alloc hbw2.size _).grown hgr (by have := hbw2.size; simp; omega) (fun j hj => (hown.lt hj).1)
      have HO4 := hide (show OwnT w4 w.heap.size (.slice a4 n4 c4) (l.take (k + 1)) from by rw [take_snoc' HX.out]; exact hO4)
      clear hO4 hgr hown hlit hbw2
      go_wp2
      go_roundw
      case rel => exact ⟨k + 1, n4, c4, a4, by omega, by go_num, rfl, HO4, hbw4⟩
      case measure => simp [intOf]; omega
    · have HB := hide (show OwnT wr w.heap.size (.slice ao n c) l from by have := HO.out; rwa [List.take_of_length_le (by omega)] at this)
      clear HO HR HN
      go_wp2
      go_ret
      exact ⟨⟨_, _, _, rfl, HB.out⟩, hbw⟩
end Go.Proofs.Ytfjdbenbiakbbaa

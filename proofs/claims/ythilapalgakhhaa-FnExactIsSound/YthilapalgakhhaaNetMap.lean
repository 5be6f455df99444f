/-
  Maps keyed by markings, known entry by entry in the order in which the keys were laid: what a look-up, a store and len do.
-/
import Derived.Test.YthilapalgakhhaaNetFire
import Derived.MapKept
import Derived.ChangeMaps5
namespace Go.Proofs.Ythilapalgakhhaa
open Go.RowKit M
open Clk (upd upd_same upd_other)
open Go.MapKept Go.ChangeMaps
namespace M
def veq8 (v u : Nat → Int) : Bool := (v 0 == u 0) && ((v 1 == u 1) && ((v 2 == u 2) && ((v 3 == u 3) && ((v 4 == u 4) && ((v 5 == u 5) && ((v 6 == u 6) && (v 7 == u 7)))))))
theorem veq8_iff (v u : Nat → Int) : veq8 v u = true ↔ ∀ q, q < 8 → v q = u q := by
  unfold veq8
  simp only [Bool.and_eq_true, beq_iff_eq]
  constructor
  · rintro ⟨h0, h1, h2, h3, h4, h5, h6, h7⟩ q hq
    match q, hq with
    | 0, _ => exact h0
    | 1, _ => exact h1
    | 2, _ => exact h2
    | 3, _ => exact h3
    | 4, _ => exact h4
    | 5, _ => exact h5
    | 6, _ => exact h6
    | 7, _ => exact h7
  · intro h
    exact ⟨h 0 (by omega), h 1 (by omega), h 2 (by omega), h 3 (by omega), h 4 (by omega), h 5 (by omega), h 6 (by omega), h 7 (by omega)⟩
theorem mkV_eq {v u : Nat → Int} (h : veq8 v u = true) : mkV v = mkV u := by
  rw [veq8_iff] at h
  unfold mkV
  rw [h 0 (by omega), h 1 (by omega), h 2 (by omega), h 3 (by omega), h 4 (by omega), h 5 (by omega), h 6 (by omega), h 7 (by omega)]
/-- The entries of a map, in the order in which their keys were laid. -/
def entL (K : Nat → Nat → Int) (V : Nat → Value) : Nat → Nat → List MapEntry
  | _, 0 => []
  | i, n + 1 => ⟨mkV (K i), V i, i⟩ :: entL K V (i + 1) n
theorem entL_len (K : Nat → Nat → Int) (V : Nat → Value) : ∀ n i, (entL K V i n).length = n
  | 0, _ => rfl
  | n + 1, i => by simp [entL, entL_len K V n]
theorem entL_snoc (K : Nat → Nat → Int) (V : Nat → Value) : ∀ n i, entL K V i (n + 1) = entL K V i n ++ [⟨mkV (K (i + n)), V (i + n), i + n⟩]
  | 0, _ => rfl
  | n + 1, i => by
    rw [show entL K V i (n + 1 + 1) = ⟨mkV (K i), V i, i⟩ :: entL K V (i + 1) (n + 1) from rfl, entL_snoc K V n (i + 1)]
    simp [entL, Nat.add_assoc, Nat.add_comm 1 n]
theorem entL_get (K : Nat → Nat → Int) (V : Nat → Value) : ∀ n i j, j < n → (entL K V i n)[j]? = some ⟨mkV (K (i + j)), V (i + j), i + j⟩
  | n + 1, i, 0, _ => rfl
  | n + 1, i, j + 1, h => by
    show (entL K V (i + 1) n)[j]? = _
    rw [entL_get K V n (i + 1) j (by omega), show i + 1 + j = i + (j + 1) by omega]
theorem entL_congr {K K' : Nat → Nat → Int} {V V' : Nat → Value} : ∀ n i, (∀ j, i ≤ j → j < i + n → mkV (K j) = mkV (K' j) ∧ V j = V' j) → entL K V i n = entL K' V' i n
  | 0, _, _ => rfl
  | n + 1, i, h => by
    have h0 := h i (Nat.le_refl _) (by omega)
    simp only [entL]
    rw [h0.1, h0.2, entL_congr n (i + 1) (fun j h1 h2 => h j (by omega) (by omega))]
/-- Block b is a map of n entries: the i-th key that was laid is K i, its element V i. -/
def MapB (w : World) (b n : Nat) (K : Nat → Nat → Int) (V : Nat → Value) : Prop := w.heap[b]? = some (.map (entL K V 0 n).toArray n)
theorem MapB.lt {w : World} {b n : Nat} {K : Nat → Nat → Int} {V : Nat → Value} (h : MapB w b n K V) : b < w.heap.size := by
  rcases Nat.lt_or_ge b w.heap.size with h' | h'
  · exact h'
  · unfold MapB at h; rw [Array.getElem?_eq_none h'] at h; cases h
theorem MapB.down {w w' : World} {b n : Nat} {K : Nat → Nat → Int} {V : Nat → Value} (h : MapB w b n K V) (hb : Below w.heap.size w w') : MapB w' b n K V := by
  have := h.lt
  unfold MapB; rw [hb.block b this]; exact h
theorem MapB.made (w : World) (K : Nat → Nat → Int) (V : Nat → Value) : MapB (w.alloc (.map #[] 0)) w.heap.size 0 K V := heap_alloc_new w _
/-- No key of the first n is v. -/
def NoKey (n : Nat) (K : Nat → Nat → Int) (v : Nat → Int) : Prop := ∀ j, j < n → veq8 v (K j) = false
end M
theorem eq8 (v u : Nat → Int) (w : World) : (Op.equalIn 10000 68 (mkV v) (mkV u)).run Try.prog w = .ok (veq8 v u) w := by
  have hu : Try.prog.underlying 68 = some (.array 8 3) := Try.underlying68
  have hi : Try.prog.underlying 3 = some (.int .i64) := Try.underlying3
  have he : ∀ (a b : Int) (w : World), (Op.equalIn 9999 3 (.int .i64 a) (.int .i64 b)).run Try.prog w = .ok (a == b) w := fun a b w => run_equalIn_int w 9998 3 .i64 .i64 a b hi
  have hsz : ∀ w : World, (sizeOf 3).run Try.prog w = .ok 1 w := fun w => by obtain ⟨i, hi, hz0, hz1, hz2⟩ := info_parts info_int; simp [sizeOf, typeInfo, go_sem, hi, hz1]
  rw [Op.equalIn]
  simp only [Sem.run_bind, run_underlying hu, Result.andThen_ok, hsz]
  rw [Std.Legacy.Range.forIn_eq_forIn_range']
  simp [List.range', part, he, go_sem]
  unfold veq8
  by_cases h0 : v 0 = u 0
  · by_cases h1 : v 1 = u 1
    · by_cases h2 : v 2 = u 2
      · by_cases h3 : v 3 = u 3
        · by_cases h4 : v 4 = u 4 <;> by_cases h5 : v 5 = u 5 <;> by_cases h6 : v 6 = u 6 <;> by_cases h7 : v 7 = u 7 <;> simp [h0, h1, h2, h3, h4, h5, h6, h7]
        · simp [h0, h1, h2, h3]
      · simp [h0, h1, h2]
    · simp [h0, h1]
  · simp [h0]
theorem check8 (em : Bool) (v : Nat → Int) (w : World) : (Instr.checkKey em 10000 68 (mkV v)).run Try.prog w = .ok () w := by
  have hu : Try.prog.underlying 68 = some (.array 8 3) := Try.underlying68
  have hi : Try.prog.underlying 3 = some (.int .i64) := Try.underlying3
  have hc : ∀ (a : Int) (w : World), (Instr.checkKey em 9999 3 (.int .i64 a)).run Try.prog w = .ok () w := fun a w => by
    rw [show (9999 : Nat) = 9998 + 1 from rfl]
    exact run_checkKey (d := .int .i64) hi (by simp [IsKey]) em 9998
  have hsz : ∀ w : World, (sizeOf 3).run Try.prog w = .ok 1 w := fun w => by obtain ⟨i, hi, hz0, hz1, hz2⟩ := info_parts info_int; simp [sizeOf, typeInfo, go_sem, hi, hz1]
  rw [show (10000 : Nat) = 9999 + 1 from rfl, Instr.checkKey]
  simp only [Sem.run_bind, run_underlying hu, Result.andThen_ok]
  rw [Std.Legacy.Range.forIn_eq_forIn_range']
  simp [List.range', part, hc, go_sem, hsz]
theorem ask_no (K : Nat → Nat → Int) (V : Nat → Value) (v : Nat → Int) (w : World) : ∀ n i c, (∀ j, i ≤ j → j < i + n → veq8 v (K j) = false) → (Instr.findAsking 68 (mkV v) (entL K V i n) c).run Try.prog w = .ok none w
  | 0, i, c, _ => rfl
  | n + 1, i, c, h => by
    have h0 := h i (Nat.le_refl _) (by omega)
    simp only [entL, Instr.findAsking, Sem.run_bind, Op.equal]
    rw [show Op.maxDepth = 10000 from rfl, eq8 v (K i) w, h0]
    simp only [Result.andThen_ok]
    exact ask_no K V v w n (i + 1) (c + 1) (fun j h1 h2 => h j (by omega) (by omega))
theorem ask_yes (K : Nat → Nat → Int) (V : Nat → Value) (v : Nat → Int) (w : World) : ∀ n i c d, d < n → (∀ j, i ≤ j → j < i + d → veq8 v (K j) = false) → veq8 v (K (i + d)) = true → (Instr.findAsking 68 (mkV v) (entL K V i n) c).run Try.prog w = .ok (some (c + d, V (i + d))) w
  | 0, i, c, d, hd, _, _ => absurd hd (by omega)
  | n + 1, i, c, 0, _, _, h => by
    simp only [entL, Instr.findAsking, Sem.run_bind, Op.equal]
    rw [show Op.maxDepth = 10000 from rfl, eq8 v (K i) w, show veq8 v (K i) = true from h]
    rfl
  | n + 1, i, c, d + 1, hd, hb, h => by
    have h0 := hb i (Nat.le_refl _) (by omega)
    simp only [entL, Instr.findAsking, Sem.run_bind, Op.equal]
    rw [show Op.maxDepth = 10000 from rfl, eq8 v (K i) w, h0]
    simp only [Result.andThen_ok]
    have := ask_yes K V v w n (i + 1) (c + 1) d (by omega) (fun j h1 h2 => hb j (by omega) (by omega)) (by rw [show i + 1 + d = i + (d + 1) by omega]; exact h)
    rw [show c + 1 + d = c + (d + 1) by omega, show i + 1 + d = i + (d + 1) by omega] at this
    exact this
theorem find_no (K : Nat → Nat → Int) (V : Nat → Value) (v : Nat → Int) (w : World) (n : Nat) (h : NoKey n K v) : (Instr.findKey 68 (mkV v) (entL K V 0 n)).run Try.prog w = .ok none w := by
  have hu : Try.prog.underlying 68 = some (.array 8 3) := Try.underlying68
  simp only [Instr.findKey, Sem.run_bind, run_underlying hu, Result.andThen_ok]
  cases n with
  | zero => rfl
  | succ n => exact ask_no K V v w (n + 1) 0 0 (fun j _ hj => h j (by omega))
theorem find_yes (K : Nat → Nat → Int) (V : Nat → Value) (v : Nat → Int) (w : World) (n d : Nat) (hd : d < n) (hb : NoKey d K v) (h : veq8 v (K d) = true) : (Instr.findKey 68 (mkV v) (entL K V 0 n)).run Try.prog w = .ok (some (d, V d)) w := by
  have hu : Try.prog.underlying 68 = some (.array 8 3) := Try.underlying68
  simp only [Instr.findKey, Sem.run_bind, run_underlying hu, Result.andThen_ok]
  cases n with
  | zero => omega
  | succ n =>
    have := ask_yes K V v w (n + 1) 0 0 d hd (fun j _ hj => hb j (by omega)) (by rw [Nat.zero_add]; exact h)
    rw [Nat.zero_add] at this
    exact this
theorem look_yes {t e : TypeId} (ht : Try.prog.underlying t = some (.map 68 e)) {w : World} {b n d : Nat} {K : Nat → Nat → Int} {V : Nat → Value} (hm : MapB w b n K V) (v : Nat → Int) (hd : d < n) (hb : NoKey d K v) (h : veq8 v (K d) = true) (ok : Bool) :
    (Instr.lookup t (.map (some b)) (mkV v) ok).run Try.prog w = .ok (if ok then .tuple #[V d, .bool true] else V d) w := by
  simp only [Instr.lookup, Sem.run_bind, run_underlying ht, Result.andThen_ok, Go.MapKept.run_getObj_map hm, Sem.run_pure, check8]
  rw [find_yes K V v w n d hd hb h]
  rfl
theorem look_no {t e : TypeId} (ht : Try.prog.underlying t = some (.map 68 e)) {w : World} {b n : Nat} {K : Nat → Nat → Int} {V : Nat → Value} {z : Value} (hz : (zeroValue e).run Try.prog w = .ok z w) (hm : MapB w b n K V) (v : Nat → Int) (h : NoKey n K v) (ok : Bool) :
    (Instr.lookup t (.map (some b)) (mkV v) ok).run Try.prog w = .ok (if ok then .tuple #[z, .bool false] else z) w := by
  simp only [Instr.lookup, Sem.run_bind, run_underlying ht, Result.andThen_ok, Go.MapKept.run_getObj_map hm, Sem.run_pure, check8]
  rw [find_no K V v w n h]
  simp only [Result.andThen_ok, Sem.run_bind, hz, Sem.run_pure]
theorem store_new {t e : TypeId} (ht : Try.prog.underlying t = some (.map 68 e)) {w : World} {b n : Nat} {K : Nat → Nat → Int} {V : Nat → Value} (hm : MapB w b n K V) (v : Nat → Int) (x : Value) (h : NoKey n K v) :
    ∃ w', (Instr.mapUpdate t (.map (some b)) (mkV v) x).run Try.prog w = .ok () w' ∧ MapB w' b (n + 1) (upd K n v) (upd V n x) ∧ Only b w w' := by
  refine ⟨setBlock w b (.map ((entL K V 0 n).toArray.push ⟨mkV v, x, n⟩) (n + 1)), ?_, ?_, ?_⟩
  · simp only [Instr.mapUpdate, Sem.run_bind, run_underlying ht, Result.andThen_ok, Go.MapKept.run_getObj_map hm, check8]
    rw [find_no K V v w n h]
    simp only [Result.andThen_ok, Go.MapKept.run_setObj_map _ hm]
    rfl
  · have hl : (entL (upd K n v) (upd V n x) 0 (n + 1)).toArray = (entL K V 0 n).toArray.push ⟨mkV v, x, n⟩ := by
      rw [entL_snoc, Nat.zero_add, upd_same, upd_same, entL_congr (K := upd K n v) (V := upd V n x) (K' := K) (V' := V) n 0 (fun j _ hj => by rw [upd_other _ _ _ _ (by omega), upd_other _ _ _ _ (by omega)]; exact ⟨rfl, rfl⟩)]
      simp
    unfold MapB
    rw [hl]
    exact heap_setBlock_same hm _
  · exact ⟨rfl, rfl, rfl, by simp [setBlock], fun k hk => heap_setBlock_other hm _ hk⟩
end Go.Proofs.Ythilapalgakhhaa

/-
  A map keyed by markings whose elements are turned in place: the entry of a key, laid anew where it isn't there, and the store into it.
-/
import Derived.Test.YthilapalgakhhaaNetMap
namespace Go.Proofs.Ythilapalgakhhaa
open Go.RowKit M
open Clk (upd upd_same upd_other)
open Go.MapKept Go.ChangeMaps
theorem entry_new {t e : TypeId} (ht : Try.prog.underlying t = some (.map 68 e)) {w : World} {b n : Nat} {K : Nat → Nat → Int} {V : Nat → Value} {z : Value} (hz : (zeroValue e).run Try.prog w = .ok z w) (hm : MapB w b n K V) (v : Nat → Int) (h : NoKey n K v) :
    ∃ w', (Instr.mapEntry t (.map (some b)) (mkV v)).run Try.prog w = .ok (.tuple #[z, goInt n]) w' ∧ MapB w' b (n + 1) (upd K n v) (upd V n z) ∧ Only b w w' := by
  refine ⟨setBlock w b (.map ((entL K V 0 n).toArray.push ⟨mkV v, z, n⟩) (n + 1)), ?_, ?_, ?_⟩
  · simp only [Instr.mapEntry, Sem.run_bind, run_underlying ht, Result.andThen_ok, Go.MapKept.run_getObj_map hm, check8]
    rw [find_no K V v w n h]
    simp only [Result.andThen_ok, Sem.run_bind, hz, Go.MapKept.run_setObj_map _ hm]
    rfl
  · have hl : (entL (upd K n v) (upd V n z) 0 (n + 1)).toArray = (entL K V 0 n).toArray.push ⟨mkV v, z, n⟩ := by
      rw [entL_snoc, Nat.zero_add, upd_same, upd_same, entL_congr (K := upd K n v) (V := upd V n z) (K' := K) (V' := V) n 0 (fun j _ hj => by rw [upd_other _ _ _ _ (by omega), upd_other _ _ _ _ (by omega)]; exact ⟨rfl, rfl⟩)]
      simp
    unfold MapB
    rw [hl]
    exact heap_setBlock_same hm _
  · exact ⟨rfl, rfl, rfl, by simp [setBlock], fun k hk => heap_setBlock_other hm _ hk⟩
theorem entL_modkey (K : Nat → Nat → Int) (V : Nat → Value) : ∀ n i d, d < n → (entL K V i n).modify d (fun e => { e with key := mkV (K (i + d)) }) = entL K V i n
  | n + 1, i, 0, _ => by
    simp only [entL, List.modify_zero_cons]
    rw [Nat.add_zero]
  | n + 1, i, d + 1, h => by
    have h1 := entL_modkey K V n (i + 1) d (by omega)
    simp only [entL, List.modify_succ_cons]
    rw [show i + (d + 1) = i + 1 + d by omega, h1]
theorem same8 (x : Nat → Int) : Instr.sameBits 10000 (mkV x) (mkV x) = true := by
  unfold mkV
  simp [Instr.sameBits]
theorem entry_yes {t e : TypeId} (ht : Try.prog.underlying t = some (.map 68 e)) {w : World} {b n d : Nat} {K : Nat → Nat → Int} {V : Nat → Value} (hm : MapB w b n K V) (v : Nat → Int) (hd : d < n) (hb : NoKey d K v) (h : veq8 v (K d) = true) :
    ∃ w', (Instr.mapEntry t (.map (some b)) (mkV v)).run Try.prog w = .ok (.tuple #[V d, goInt d]) w' ∧ MapB w' b n K V ∧ Only b w w' := by
  have hg := entL_get K V n 0 d hd
  have hmo := entL_modkey K V n 0 d hd
  rw [Nat.zero_add] at hg hmo
  refine ⟨setBlock w b (.map ((entL K V 0 n).toArray.modify d fun e => { e with key := mkV (K d) }) n), ?_, ?_, ?_⟩
  · simp only [Instr.mapEntry, Sem.run_bind, run_underlying ht, Result.andThen_ok, Go.MapKept.run_getObj_map hm, check8]
    rw [find_yes K V v w n d hd hb h]
    simp only [Result.andThen_ok, Sem.run_bind, List.getElem?_toArray, hg, Option.map_some, Option.getD_some, Instr.keyThatStays, mkV_eq h, same8, if_true, Sem.run_pure, Go.MapKept.run_setObj_map _ hm]
    rfl
  · unfold MapB
    have := heap_setBlock_same hm (.map ((entL K V 0 n).toArray.modify d fun e => { e with key := mkV (K d) }) n)
    rw [this]
    simp [hmo]
  · exact ⟨rfl, rfl, rfl, by simp [setBlock], fun k hk => heap_setBlock_other hm _ hk⟩
theorem entL_find (K : Nat → Nat → Int) (V : Nat → Value) : ∀ n i d, d < n → (entL K V i n).findIdx? (fun e => (e.born : Int) == ((i + d : Nat) : Int)) = some d
  | n + 1, i, 0, _ => by
    rw [Nat.add_zero, show entL K V i (n + 1) = ⟨mkV (K i), V i, i⟩ :: entL K V (i + 1) n from rfl, List.findIdx?_cons]
    simp
  | n + 1, i, d + 1, h => by
    have h1 := entL_find K V n (i + 1) d (by omega)
    rw [show entL K V i (n + 1) = ⟨mkV (K i), V i, i⟩ :: entL K V (i + 1) n from rfl, List.findIdx?_cons]
    rw [if_neg (by simp; omega), show i + (d + 1) = i + 1 + d by omega, h1]
    rfl
theorem entL_modify (K : Nat → Nat → Int) (V : Nat → Value) (x : Value) : ∀ n i d, d < n → (entL K V i n).modify d (fun e => { e with val := x }) = entL K (upd V (i + d) x) i n
  | n + 1, i, 0, _ => by
    simp only [entL, List.modify_zero_cons]
    simp only [Nat.add_zero]
    rw [upd_same, entL_congr (K := K) (V := V) (K' := K) (V' := upd V i x) n (i + 1) (fun j h1 h2 => ⟨rfl, (upd_other _ _ _ _ (by omega)).symm⟩)]
  | n + 1, i, d + 1, h => by
    have h1 := entL_modify K V x n (i + 1) d (by omega)
    simp only [entL, List.modify_succ_cons]
    rw [h1, upd_other _ _ _ _ (by omega), show i + 1 + d = i + (d + 1) by omega]
theorem entry_store {t : TypeId} {w : World} {b n d : Nat} {K : Nat → Nat → Int} {V : Nat → Value} (hm : MapB w b n K V) (hd : d < n) (x : Value) :
    ∃ w', (Instr.entryStore t (.map (some b)) (goInt d) x).run Try.prog w = .ok () w' ∧ MapB w' b n K (upd V d x) ∧ Only b w w' := by
  have hf := entL_find K V n 0 d hd
  have hmo := entL_modify K V x n 0 d hd
  rw [Nat.zero_add] at hf hmo
  refine ⟨setBlock w b (.map ((entL K V 0 n).toArray.modify d fun e => { e with val := x }) n), ?_, ?_, ?_⟩
  · simp only [Instr.entryStore, Sem.run_bind, Go.MapKept.run_getObj_map hm, Result.andThen_ok, goInt, asInt, asIntOf]
    simp only [List.findIdx?_toArray, Sem.run_pure, Result.andThen_ok]
    rw [hf]
    simp only [Go.MapKept.run_setObj_map _ hm]
    rfl
  · unfold MapB
    rw [← hmo]
    have := heap_setBlock_same hm (.map ((entL K V 0 n).toArray.modify d fun e => { e with val := x }) n)
    rw [this]
    simp
  · exact ⟨rfl, rfl, rfl, by simp [setBlock], fun k hk => heap_setBlock_other hm _ hk⟩
end Go.Proofs.Ythilapalgakhhaa

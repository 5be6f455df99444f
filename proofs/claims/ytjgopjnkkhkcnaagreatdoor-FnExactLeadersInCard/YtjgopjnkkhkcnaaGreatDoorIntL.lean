/-
  Lists of numbers in memory, read or of a call's own, and the law's helpers on them: that two are told alike, and marks; one more appended.
-/
import Derived.Test.YtjgopjnkkhkcnaaGreatDoorWoX
import Derived.Lib.QuietBelow
import Derived.BigQuiet
namespace Go.Proofs.YtjgopjnkkhkcnaaGreatDoor
open Go.RowKit M
open Go.Sort (grow)
namespace M
def iL (l : List Int) : List Value := l.map (fun x => Value.int .i64 x)
theorem iL_len (l : List Int) : (iL l).length = l.length := by simp [iL]
theorem iL_at {l : List Int} {i : Nat} {x : Int} (h : l[i]? = some x) : (iL l)[i]? = some (.int .i64 x) := by unfold iL; rw [List.getElem?_map, h]; rfl
theorem iL_app (a b : List Int) : iL (a ++ b) = iL a ++ iL b := by simp [iL]
theorem iL_set (l : List Int) (i : Nat) (x : Int) : (iL l).set i (.int .i64 x) = iL (l.set i x) := by simp [iL, List.map_set]
def IL (w : World) (v : Value) (l : List Int) : Prop :=
  ∃ a cap, v = .slice a l.length cap ∧ (0 < l.length → ∃ b off, a = some ⟨b, off, none⟩ ∧ b < w.heap.size ∧ ∀ (i : Nat) x, l[i]? = some x → w.cell? ⟨b, off + i, none⟩ = some (.int .i64 x))
theorem IL.below {w w' : World} {v : Value} {l : List Int} (h : IL w v l) (hb : Below w.heap.size w w') : IL w' v l := by
  obtain ⟨a, cap, hv, hr⟩ := h
  refine ⟨a, cap, hv, fun hp => ?_⟩
  obtain ⟨b, off, ha, hlt, hrow⟩ := hr hp
  exact ⟨b, off, ha, Nat.lt_of_lt_of_le hlt hb.size, fun i x hi => (hb.cell (p := ⟨b, off + i, none⟩) hlt).trans (hrow i x hi)⟩
theorem IL.form {w : World} {v : Value} {l : List Int} (h : IL w v l) : ∃ a cap, v = .slice a l.length cap := by
  obtain ⟨a, cap, hv, _⟩ := h; exact ⟨a, cap, hv⟩
/-- A list of the call's own. -/
def OL (w : World) (B : Nat) (v : Value) (l : List Int) : Prop := w.ownsRow B 3 1 v l.length (iL l)
theorem OL.down {w w' : World} {B : Nat} {v : Value} {l : List Int} (h : OL w B v l) (hb : Below w.heap.size w w') : OL w' B v l := owns_below h hb
theorem OL.mono {w : World} {B B' : Nat} {v : Value} {l : List Int} (h : OL w B v l) (hB : B' ≤ B) : OL w B' v l := owns_mono h hB
theorem OL.nil (w : World) (B : Nat) : OL w B (.slice none 0 0) [] := ⟨rfl, .inl ⟨rfl, rfl⟩⟩
theorem OL.ints {w : World} {B : Nat} {v : Value} {l : List Int} (h : OL w B v l) : IL w v l := by
  obtain ⟨a, cap, hv, hr⟩ := own_cells h (by rw [iL_len]; omega)
  refine ⟨a, cap, hv, fun hp => ?_⟩
  obtain ⟨g, ha, _, hlt, hc⟩ := hr hp
  exact ⟨g, 0, ha, hlt, fun i x hi => by rw [Nat.zero_add]; exact hc i _ (iL_at hi)⟩
theorem OL.form {w : World} {B : Nat} {v : Value} {l : List Int} (h : OL w B v l) : ∃ a cap, v = .slice a l.length cap := h.ints.form
theorem OL.split {w : World} {B : Nat} {v : Value} {l : List Int} (h : OL w B v l) : (v = .slice none 0 0 ∧ l = []) ∨ ∃ g cap, v = .slice (some ⟨g, 0, none⟩) l.length cap ∧ B ≤ g ∧ g < w.heap.size ∧ l.length ≤ cap ∧ cap ≤ maxLen := by
  rcases h.2 with ⟨rfl, h0⟩ | ⟨g, cap, cur, rfl, hB, hg, hn, hc, hs, ht⟩
  · exact .inl ⟨rfl, List.eq_nil_of_length_eq_zero h0⟩
  · refine .inr ⟨g, cap, rfl, hB, ?_, hn, hc⟩
    rcases Nat.lt_or_ge g w.heap.size with h' | h'
    · exact h'
    · rw [Array.getElem?_eq_none h'] at hg; cases hg
theorem OL.lt {w : World} {B g : Nat} {v : Value} {l : List Int} (h : OL w B v l) (hg : v.ownBlock = some g) : B ≤ g ∧ g < w.heap.size := own_lt h hg
theorem OL.kept {lo hi : Nat} {w w' : World} {B : Nat} {v : Value} {l : List Int} (h : OL w B v l) (hk : KeptB lo hi w w') (hB : hi ≤ B) : OL w' B v l :=
  owns_kept h hk (fun _ hg => .inr (Nat.le_trans hB (h.lt hg).1))
theorem OL.low {w : World} {B g i : Nat} {v : Value} {l : List Int} (h : OL w B v l) (hg : g < B) (x : Value) : OL (w.setCell ⟨g, i, none⟩ x) B v l := own_set_low h hg x
theorem OL.set {w : World} {B g n cap : Nat} {l : List Int} (h : OL w B (.slice (some ⟨g, 0, none⟩) n cap) l) (j : Nat) (x : Int) : OL (w.setCell ⟨g, j, none⟩ (.int .i64 x)) B (.slice (some ⟨g, 0, none⟩) n cap) (l.set j x) := by
  obtain ⟨a', c, hv⟩ := h.form
  simp only [Value.slice.injEq] at hv
  obtain ⟨-, rfl, -⟩ := hv
  have := (World.ownsRow.stored h j (.int .i64 x)).1
  rw [iL_set] at this
  unfold OL
  rw [List.length_set]
  exact this
theorem OL.cell {w : World} {B g n cap : Nat} {l : List Int} (h : OL w B (.slice (some ⟨g, 0, none⟩) n cap) l) {j : Nat} {x : Int} (hj : l[j]? = some x) : w.cell? ⟨g, j, none⟩ = some (.int .i64 x) := own1_cellm h (iL_at hj)
theorem OL.thaw {w : World} {B g n cap : Nat} {l : List Int} (h : OL w B (.slice (some ⟨g, 0, none⟩) n cap) l) (j : Nat) : w.frozen? ⟨g, j, none⟩ = false := by
  obtain ⟨a', c, hv⟩ := h.form
  simp only [Value.slice.injEq] at hv
  obtain ⟨-, rfl, -⟩ := hv
  exact World.ownsRow.frozenAt h j
/-- Marks from k on. -/
def mkI (k n : Nat) : List Int := (List.range n).map (fun i => ((k + i : Nat) : Int))
theorem mkI_len (k n : Nat) : (mkI k n).length = n := by simp [mkI]
theorem mkI_at {k n i : Nat} (h : i < n) : (mkI k n)[i]? = some ((k + i : Nat) : Int) := by simp [mkI, h]
theorem take_snocI {l : List Int} {k : Nat} {y : Int} (hy : l[k]? = some y) : l.take (k + 1) = l.take k ++ [y] := take_snocB hy
theorem set_stepI {l m : List Int} {j : Nat} {x : Int} (hj : j < l.length) (hm : m[j]? = some x) : (m.take j ++ l.drop j).set j x = m.take (j + 1) ++ l.drop (j + 1) := by
  have hml := (List.getElem?_eq_some_iff.1 hm).1
  have e : (m.take j).length = j := by rw [List.length_take]; omega
  rw [List.set_append_right _ _ (by omega), e, Nat.sub_self, List.drop_eq_getElem_cons hj, List.set_cons_zero, take_snocB hm]
  simp
theorem mid_atI {l m : List Int} {j : Nat} {x : Int} (hj : l[j]? = some x) (hml : j ≤ m.length) : (m.take j ++ l.drop j)[j]? = some x := by
  rw [List.getElem?_append_right (by rw [List.length_take]; omega), List.length_take, Nat.min_eq_left hml, Nat.sub_self, List.getElem?_drop]
  simpa using hj
end M
set_option maxHeartbeats 1000000 in
theorem eq_il (v u : Value) (l : List Int) (w : World) (hv : IL w v l) (hu : IL w u l) (hn : l.length ≤ 1048576) :
    Calls Tryz.prog 44 #[v, u] w fun e w' => e = .returned (.bool true) ∧ Below w.heap.size w w' := by
  obtain ⟨a, cap, rfl, hr⟩ := hv
  obtain ⟨a2, cap2, rfl, hr2⟩ := hu
  have HR := hide hr
  have HR2 := hide hr2
  clear hr hr2
  go_enter Tryz.func44, Tryz.ntmps44
  go_wp2
  go_loopw [5] (fun i wr => ∃ k : Nat, k ≤ l.length ∧ i = .int .i64 k ∧ Below w.heap.size w wr) (fun i _ => l.length - (intOf i).toNat)
  case atStart => exact ⟨0, Nat.zero_le _, rfl, Below.refl _ _⟩
  case round =>
    obtain ⟨k, hk, rfl, hbw⟩ := hrel
    by_cases hlt : k < l.length
    · obtain ⟨b, off, rfl, hb, hrow⟩ := HR.out (by omega)
      obtain ⟨b2, off2, rfl, hb2, hrow2⟩ := HR2.out (by omega)
      obtain ⟨x, hx⟩ : ∃ x, l[k]? = some x := ⟨l[k], List.getElem?_eq_getElem hlt⟩
      have k0 := cell_regrown ((hbw.cell (p := ⟨b, off + k, none⟩) hb).trans (hrow k x hx))
      have k1 := cell_regrown ((hbw.cell (p := ⟨b2, off2 + k, none⟩) hb2).trans (hrow2 k x hx))
      have hi0 : (0 : Int) ≤ (k : Int) := by omega
      have hi1 : (k : Int) < (l.length : Int) := by omega
      have hxx : (x != x) = false := by simp
      clear hrow hrow2 HR HR2 hx
      go_wp2
      refine wp_region_quiet_below (by kernel_rfl) (by kernel_rfl) ?_
      repeat (go_big_quiet_step (fail))
      refine wpQuiet_nil ?_
      intro _ hw'
      obtain ⟨⟨dq, osq⟩, hw''⟩ := hw'
      subst hw''
      have hbw2 := hbw.trans ((below_regrown wr dq osq).mono hbw.size)
      clear k0 k1
      go_wp2
      go_roundw
      case rel => exact ⟨k + 1, by omega, by go_num, hbw2⟩
      case measure => simp [intOf]; omega
    · clear HR HR2
      go_wp2
      go_ret
      exact ⟨rfl, hbw⟩
set_option maxHeartbeats 1000000 in
theorem mark_il (B k0 : Nat) (v : Value) (l : List Int) (w : World) (h : OL w B v l) (hn : l.length ≤ 1048576) (hk0 : k0 ≤ 1000000000) :
    Calls Tryz.prog 47 #[v, .int .i64 (k0 : Nat)] w fun e w' => e = .returned (.int .i64 ((k0 + l.length : Nat) : Int)) ∧ OL w' B v (mkI k0 l.length) ∧ w.grownBy w' v.ownBlock := by
  have HP := hide h
  rcases h.split with ⟨rfl, rfl⟩ | ⟨g, cap, rfl, hB, hgl, -⟩
  · clear h
    go_enter Tryz.func47, Tryz.ntmps47
    go_wp2
    refine wp_loop_rounds 1 ?_; rw [rounds_succ]
    go_wp2
    go_ret
    exact ⟨rfl, OL.nil _ _, gbT_refl _ _⟩
  clear h
  go_enter Tryz.func47, Tryz.ntmps47
  go_wp2
  go_loopw [1, 5] (fun x i wr => ∃ k : Nat, k ≤ l.length ∧ i = .int .i64 k ∧ x = .int .i64 ((k0 + k : Nat) : Int) ∧ Hid (OL wr B (.slice (some ⟨g, 0, none⟩) l.length cap) ((mkI k0 l.length).take k ++ l.drop k)) ∧ Hid (w.grownBy wr (some g))) (fun _ i _ => l.length - (intOf i).toNat)
  case atStart => exact ⟨0, Nat.zero_le _, rfl, rfl, hide (by simpa using HP.out), hide (gbT_refl _ _)⟩
  case round =>
    obtain ⟨k, hk, rfl, rfl, HA, HG⟩ := hrel
    by_cases hlt : k < l.length
    · obtain ⟨x, hx⟩ : ∃ x, l[k]? = some x := ⟨l[k], List.getElem?_eq_getElem hlt⟩
      have c1 := HA.out.cell (mid_atI (m := mkI k0 l.length) hx (by rw [mkI_len]; omega))
      have f1 := HA.out.thaw k
      have h2 := HA.out.set k ((k0 + k : Nat) : Int)
      rw [set_stepI hlt (mkI_at hlt)] at h2
      have HA2 := hide h2
      have HG2 := hide (gbT_set (o := k) (v := .int .i64 ((k0 + k : Nat) : Int)) HG.out)
      clear h2 HA HG hx
      go_wp2
      exact ⟨⟨k + 1, by omega, by go_num, by go_num, HA2, HG2⟩, by simp [intOf]; omega⟩
    · obtain rfl : k = l.length := by omega
      have hA := HA.out
      rw [List.drop_length, List.append_nil, List.take_of_length_le (by rw [mkI_len]; omega)] at hA
      have HB := hide hA
      clear HA hA
      go_wp2
      go_ret
      exact ⟨rfl, HB.out, HG.out⟩
set_option maxHeartbeats 1000000 in
theorem held_il (v : Value) (n k0 : Nat) (w : World) (hv : IL w v (mkI k0 n)) (hn : n ≤ 1048576) (hk0 : k0 ≤ 1000000000) :
    Calls Tryz.prog 48 #[v, .int .i64 (k0 : Nat)] w fun e w' => e = .returned (.int .i64 ((k0 + n : Nat) : Int)) ∧ w' = w := by
  obtain ⟨a, cap, rfl, hr⟩ := hv
  have HR := hide hr
  clear hr
  rw [mkI_len] at HR ⊢
  go_enter Tryz.func48, Tryz.ntmps48
  go_wp2
  go_loop [1, 5] (fun x i => ∃ k : Nat, k ≤ n ∧ i = .int .i64 k ∧ x = .int .i64 ((k0 + k : Nat) : Int)) (fun _ i => n - (intOf i).toNat)
  case atStart => exact ⟨0, Nat.zero_le _, rfl, rfl⟩
  case round =>
    obtain ⟨k, hk, rfl, rfl⟩ := hrel
    by_cases hlt : k < n
    · obtain ⟨b, off, rfl, hb, hrow⟩ := HR.out (by omega)
      have c0 := hrow k _ (mkI_at hlt)
      clear HR hrow
      go_wp2
      go_round
      case rel => exact ⟨k + 1, by omega, by go_num, by go_num⟩
      case measure => simp [intOf]; omega
    · obtain rfl : k = n := by omega
      clear HR
      go_wp2
      go_ret
      exact ⟨rfl, rfl⟩
theorem info_intL : (Tryz.prog.info? 3).map (fun i => (i.zero, i.size, i.bytes)) = some (some (.int .i64 0), 1, 8) := by kernel_rfl
/-- One more number behind a list of the call's own. -/
theorem wpList_appI (w : World) {ops : Array Oper} {rest : List Oper} {o : Oper} {a : Act} {Q : Exit → Act → World → Prop} (hgd : o.guard = none) (s x : Operand)
    (ho : o.op = .call { callee := .builtin .append, args := #[s, x], argTypes := #[74, 74] }) (B : Nat) (l : List Int) (i : Int) (v : Value) (hs : a.eval s = v) (hown : OL w B v l)
    (b cu : Nat) (hx : a.eval x = .slice (some ⟨b, 0, none⟩) 1 cu) (hu : w.cell? ⟨b, 0, none⟩ = some (.int .i64 i)) (hl : l.length ≤ 1048576) (hbase : B ≤ w.heap.size)
    (h : ∀ a' n' c' w', OL w' B (.slice a' n' c') (l ++ [i]) → w.grownBy w' v.ownBlock → wpList Tryz.prog ops Q rest (a.put o.dst (.slice a' n' c')) w') : wpList Tryz.prog ops Q (o :: rest) a w := by
  obtain ⟨i0, hi, hz0, hz1, hz2⟩ := info_parts info_intL
  have hsrc : ∀ j u, (iL [i])[j]? = some u → w.cell? ((⟨b, 0, none⟩ : Addr).add j) = some u := fun j u hj => by
    rw [add_litT, Nat.zero_add]
    match j, hj with
    | 0, hj => simp [iL] at hj; subst hj; exact hu
  obtain ⟨v', w', hrn, hown', hgr, -, -⟩ := run_append_own_at (P := Tryz.prog) (w := w) B 74 o.type 3 i0 _ 1 8 Tryz.underlying74 hi hz0 hz1 hz2 rfl (by decide) v _ _ hown ⟨b, 0, none⟩ 1 cu (iL [i]) rfl hsrc (fun v hv => by simp only [iL, List.map_cons, List.map_nil, List.mem_cons, List.not_mem_nil, or_false] at hv; subst hv; rfl) (by unfold maxLen; omega) (by omega) hbase
  have hO : OL w' B v' (l ++ [i]) := by
    unfold OL
    rw [List.length_append, iL_app]; exact hown'
  obtain ⟨a', c', rfl⟩ := hO.form
  exact Lib.wpList_append_run (P := Tryz.prog) w hgd s x 74 74 ho _ _ hs hx _ _ hrn (h _ _ _ w' hO hgr)
end Go.Proofs.YtjgopjnkkhkcnaaGreatDoor

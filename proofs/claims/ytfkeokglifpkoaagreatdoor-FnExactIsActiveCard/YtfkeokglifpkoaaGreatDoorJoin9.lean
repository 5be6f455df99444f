/-
  Texts that follow one another, joined: BrG0, BrB, RgX.
-/
import Derived.Test.YtfkeokglifpkoaaGreatDoorJoin8
import Derived.Maps.AppendAt
import Derived.Lib.AppendZeros
import Derived.Test.YtfkeokglifpkoaaGreatDoorJoin4
/-
  Rows of one cell an element: one put behind; branches of a length that the law lets through; events in a block that is known.
-/
namespace Go.Proofs.YtfkeokglifpkoaaGreatDoor
open Go.RowKit M
open Go.Sort (grow)
namespace M
/-- One element of one cell put behind a row of a call's own. -/
theorem wpList_put1 (w : World) {ops : Array Oper} {rest : List Oper} {o : Oper} {a : Act} {Q : Exit → Act → World → Prop} (hgd : o.guard = none) (s x : Operand) (t e : TypeId) (z : Value) (bytes : Nat) (ht : Tryz.prog.underlying t = some (.slice e)) (hinfo : (Tryz.prog.info? e).map (fun i => (i.zero, i.size, i.bytes)) = some (some z, 1, bytes)) (hz1 : z.cells.size = 1) (hby : bytes ≤ 64)
    (ho : o.op = .call { callee := .builtin .append, args := #[s, x], argTypes := #[t, t] }) (B : Nat) (n : Nat) (l : List Value) (v val : Value) (hs : a.eval s = v) (hown : w.ownsRow B e 1 v n l) (b off cu : Nat)
    (hx : a.eval x = .slice (some ⟨b, off, none⟩) 1 cu) (hc : w.cell? ⟨b, off, none⟩ = some val) (h1 : val.oneCell' = true) (hl : n + 1 ≤ 2097152) (hbase : B ≤ w.heap.size)
    (h : ∀ a' c' w', w'.ownsRow B e 1 (.slice a' (n + 1) c') (n + 1) (l ++ [val]) → w.grownBy w' v.ownBlock → ((Value.slice a' (n + 1) c').ownBlock = v.ownBlock ∨ (Value.slice a' (n + 1) c').ownBlock = some w.heap.size) → wpList Tryz.prog ops Q rest (a.put o.dst (.slice a' (n + 1) c')) w') : wpList Tryz.prog ops Q (o :: rest) a w := by
  obtain ⟨i0, hi, hz0, hz2, hz3⟩ := info_parts hinfo
  obtain ⟨v', w', hr, hown', hgr, -, hblk⟩ := run_append_own_at (P := Tryz.prog) (w := w) B t o.type e i0 z 1 bytes ht hi hz0 hz2 hz3 hz1 (by decide) v n l hown ⟨b, off, none⟩ 1 cu [val] (by simp) (fun j u hj => by
      cases j with
      | zero =>
        simp only [List.getElem?_cons_zero, Option.some.injEq] at hj
        subst hj
        have : (⟨b, off, none⟩ : Addr).add 0 = ⟨b, off, none⟩ := by unfold Addr.add; split <;> simp_all
        rw [this]; exact hc
      | succ j => simp at hj) (fun u hu => by simp only [List.mem_singleton] at hu; rw [hu]; exact h1) (by unfold maxLen; omega) (by
        have : (n + 1) * bytes ≤ 2097152 * 64 := Nat.mul_le_mul hl hby
        omega) hbase
  obtain ⟨a', c', rfl⟩ : ∃ a' c', v' = .slice a' (n + 1) c' := by
    rcases hown'.2 with ⟨_, h0⟩ | ⟨g, cap, cur, rfl, _⟩
    · omega
    · exact ⟨_, _, rfl⟩
  exact Lib.wpList_append_run (P := Tryz.prog) w hgd s x t t ho _ _ hs hx _ _ hr (h _ _ w' hown' hgr hblk)
theorem own_lt {w : World} {B e s n : Nat} {v : Value} {xs : List Value} (h : w.ownsRow B e s v n xs) {g : Nat} (hg : v.ownBlock = some g) : B ≤ g ∧ g < w.heap.size := by
  rcases h.2 with ⟨rfl, _⟩ | ⟨g', cap, cur, rfl, hB, hb, _⟩
  · simp [Value.ownBlock] at hg
  · simp only [Value.ownBlock, Option.some.injEq] at hg
    subst hg
    refine ⟨hB, ?_⟩
    rcases Nat.lt_or_ge g' w.heap.size with h' | h'
    · exact h'
    · rw [Array.getElem?_eq_none h'] at hb; cases hb
theorem take_snocB {α : Type} {bs : List α} {k : Nat} {b : α} (h : bs[k]? = some b) : bs.take (k + 1) = bs.take k ++ [b] := by
  obtain ⟨hk, rfl⟩ := List.getElem?_eq_some_iff.1 h
  exact List.take_succ_eq_append_getElem hk
theorem one_new (X : World) (a : Value) (t : TypeId) : (X.alloc (.cells #[a] t)).cell? ⟨X.heap.size, 0, none⟩ = some a := by simp
def FineS (bs : Brs) : Prop := bs.length ≤ 1048576 ∧ ∀ b ∈ bs, b.length ≤ 1048576 ∧ ∀ e ∈ b, e.name.size ≤ maxLen
theorem FineS.at {bs : Brs} (h : FineS bs) {i : Nat} {b : Evs} (hb : bs[i]? = some b) : b.length ≤ 1048576 ∧ ∀ e ∈ b, e.name.size ≤ maxLen := h.2 b (List.mem_of_getElem? hb)
theorem blk_lt {w : World} {g : Nat} {o : Obj} (h : w.heap[g]? = some o) : g < w.heap.size := by
  rcases Nat.lt_or_ge g w.heap.size with h' | h'
  · exact h'
  · rw [Array.getElem?_eq_none h'] at h; cases h
theorem evs_sl {w : World} {g n : Nat} {es : List Ev} {t : TypeId} (h : w.heap[g]? = some (.cells (cellsE es).toArray t (0, 0))) (hn : n = es.length) : SliceOf w (.slice (some ⟨g, 0, none⟩) n n) es := by
  subst hn
  exact ⟨_, _, rfl, fun _ => ⟨g, 0, rfl, blk_lt h, row_of_block (rest := []) (by simpa using h)⟩⟩
theorem evs_bk {w : World} {g : Nat} {es : List Ev} {t : TypeId} (h : w.heap[g]? = some (.cells (cellsE es).toArray t (0, 0))) : ∃ f, Blk w g (es.length * 4) f t := by
  have := blk_of h
  rw [List.size_toArray, cellsE_len] at this
  exact ⟨_, this⟩
end M
end Go.Proofs.YtfkeokglifpkoaaGreatDoor

/-
  The law's helpers on branches and tellings: a copy in memory of its own, that two of the same are told alike, and marks on a copy.
-/
namespace Go.Proofs.YtfkeokglifpkoaaGreatDoor
open Go.RowKit M
open Go.Sort (grow)
namespace M
/-- A box of one cell. -/
def One (w : World) (g : Nat) (v : Value) (t : TypeId) : Prop := w.heap[g]? = some (.cells #[v] t (0, 0))
theorem One.lt {w : World} {g : Nat} {v : Value} {t : TypeId} (h : One w g v t) : g < w.heap.size := blk_lt h
theorem One.cell {w : World} {g : Nat} {v : Value} {t : TypeId} (h : One w g v t) : w.cell? ⟨g, 0, none⟩ = some v := by
  unfold One at h; simp [World.cell?, h]
theorem One.thaw {w : World} {g : Nat} {v : Value} {t : TypeId} (h : One w g v t) : w.frozen? ⟨g, 0, none⟩ = false := by
  unfold One at h; simp [World.frozen?, h]
theorem One.down {w w' : World} {g : Nat} {v : Value} {t : TypeId} (h : One w g v t) (hb : Below w.heap.size w w') : One w' g v t := blk_below h hb
theorem One.set {w : World} {g : Nat} {v : Value} {t : TypeId} (h : One w g v t) (x : Value) : One (w.setCell ⟨g, 0, none⟩ x) g x t := heap_setCell_same w g 0 #[v] t x h
theorem One.other {w : World} {g g' i : Nat} {v : Value} {t : TypeId} (h : One w g v t) (hne : g ≠ g') (x : Value) : One (w.setCell ⟨g', i, none⟩ x) g v t := by
  unfold One; rw [heap_setCell_other _ _ _ _ hne]; exact h
theorem three1 (w : World) (a b c : Value) (t u s : TypeId) (W : World) (hW : W = ((w.alloc (.cells #[a] t)).alloc (.cells #[b] u)).alloc (.cells #[c] s)) : One W w.heap.size a t ∧ One W (w.heap.size + 1) b u ∧ One W (w.heap.size + 1 + 1) c s ∧ Below w.heap.size w W ∧ W.heap.size = w.heap.size + 1 + 1 + 1 := by
  subst hW
  have h1 : One (w.alloc (.cells #[a] t)) w.heap.size a t := heap_alloc_new w _
  have h2 : One ((w.alloc (.cells #[a] t)).alloc (.cells #[b] u)) (w.heap.size + 1) b u := by
    have := heap_alloc_new (w.alloc (.cells #[a] t)) (.cells #[b] u)
    rw [World.size_alloc] at this; exact this
  have h3 : One (((w.alloc (.cells #[a] t)).alloc (.cells #[b] u)).alloc (.cells #[c] s)) (w.heap.size + 1 + 1) c s := by
    have := heap_alloc_new ((w.alloc (.cells #[a] t)).alloc (.cells #[b] u)) (.cells #[c] s)
    rw [World.size_alloc, World.size_alloc] at this; exact this
  have a2 := fun (X : World) (o : Obj) => (Below.refl X.heap.size X).alloc (Nat.le_refl _) o
  exact ⟨(h1.down (a2 _ _)).down (a2 _ _), h2.down (a2 _ _), h3, (((Below.refl _ w).alloc (Nat.le_refl _) _).alloc (by simp) _).alloc (by simp; omega) _, by simp⟩
theorem two1 (w : World) (a b : Value) (t u : TypeId) (W : World) (hW : W = (w.alloc (.cells #[a] t)).alloc (.cells #[b] u)) : One W w.heap.size a t ∧ One W (w.heap.size + 1) b u ∧ Below w.heap.size w W ∧ W.heap.size = w.heap.size + 1 + 1 := by
  subst hW
  have h1 : One (w.alloc (.cells #[a] t)) w.heap.size a t := heap_alloc_new w _
  have h2 : One ((w.alloc (.cells #[a] t)).alloc (.cells #[b] u)) (w.heap.size + 1) b u := by
    have := heap_alloc_new (w.alloc (.cells #[a] t)) (.cells #[b] u)
    rw [World.size_alloc] at this; exact this
  exact ⟨h1.down ((Below.refl _ _).alloc (Nat.le_refl _) _), h2, ((Below.refl _ w).alloc (Nat.le_refl _) _).alloc (by simp) _, by simp⟩
/-- What is laid into a box below does not touch a row that lies above. -/
theorem own_set_low {w : World} {B e s n g i : Nat} {v : Value} {xs : List Value} (h : w.ownsRow B e s v n xs) (hg : g < B) (x : Value) : (w.setCell ⟨g, i, none⟩ x).ownsRow B e s v n xs :=
  owns_other h (gbT_set (gbT_refl w (some g))) (fun q hq e => by simp only [Option.some.injEq] at e; subst e; have := (own_lt h hq).1; omega)
theorem OwnP.set_low {w : World} {B g i : Nat} {v : Value} {ps : Prs} (h : OwnP w B v ps) (hg : g < B) (x : Value) : OwnP (w.setCell ⟨g, i, none⟩ x) B v ps := ⟨own_set_low h.row hg x, fun p hp => own_set_low (h.evs p hp) hg x, h.ap⟩
/-- Room is there for what it holds. -/
def CapOk : Value → Prop
  | .slice _ n c => n ≤ c
  | _ => True
theorem OwnP.capOk {w : World} {B : Nat} {v : Value} {ps : Prs} (h : OwnP w B v ps) : CapOk v := by
  rcases h.split with ⟨rfl, _⟩ | ⟨g, cap, rfl, _, _, hc, _⟩
  · exact Nat.le_refl 0
  · exact hc
theorem OwnP.form {w : World} {B : Nat} {v : Value} {ps : Prs} (h : OwnP w B v ps) : ∃ a cap, v = .slice a ps.length cap := by
  rcases h.split with ⟨rfl, rfl⟩ | ⟨g, cap, rfl, _⟩
  · exact ⟨_, _, rfl⟩
  · exact ⟨_, _, rfl⟩
/-- A copy under way: a row whose first places are laid. -/
structure MkP (w : World) (g n : Nat) (ps : Prs) : Prop where
  row : w.ownsRow g 81 1 (.slice (some ⟨g, 0, none⟩) n n) n (vsP ps ++ List.replicate (n - ps.length) (.slice none 0 0))
  evs : ∀ p ∈ ps, OwnE w g p.1 p.2
  ap : ps.Pairwise (fun p q => Apt p.1 q.1)
theorem MkP.down {w w' : World} {g n : Nat} {ps : Prs} (h : MkP w g n ps) (hb : Below w.heap.size w w') : MkP w' g n ps := ⟨owns_below h.row hb, fun p hp => (h.evs p hp).down hb, h.ap⟩
theorem MkP.put {w w' : World} {g n : Nat} {ps : Prs} {u : Value} {es : Evs} (h : MkP w g n ps) (hb : Below w.heap.size w w') (hu : OwnE w' w.heap.size u es) (hl : ps.length < n) (hg : g < w.heap.size) : MkP (w'.setCell ⟨g, ps.length, none⟩ u) g n (ps ++ [(u, es)]) := by
  have h2 := h.down hb
  have hgb : w'.grownBy (w'.setCell ⟨g, ps.length, none⟩ u) (some g) := gbT_set (gbT_refl w' (some g))
  have hrow : (Value.slice (some ⟨g, 0, none⟩) n n).ownBlock = some g := rfl
  refine ⟨?_, fun p hp => ?_, ?_⟩
  · have h3 := own1_set h2.row ps.length u
    have e : (vsP ps ++ List.replicate (n - ps.length) (Value.slice none 0 0)).set ps.length u = vsP (ps ++ [(u, es)]) ++ List.replicate (n - (ps ++ [(u, es)]).length) (.slice none 0 0) := by
      rw [show n - ps.length = (n - ps.length - 1) + 1 by omega, List.replicate_succ, List.set_append_right _ _ (by rw [vsP_len]; omega), vsP_len, Nat.sub_self, List.set_cons_zero, List.length_append, List.length_singleton, show n - (ps.length + 1) = n - ps.length - 1 by omega]
      simp [vsP]
    rw [e] at h3; exact h3
  · rw [List.mem_append, List.mem_singleton] at hp
    rcases hp with hp | hp
    · exact (h2.evs p hp).other hgb (fun q hq e => by
        simp only [Option.some.injEq] at e
        subst e
        exact owns_apart h2.row (h2.evs p hp) (by decide) q hrow hq.symm)
    · subst hp
      exact (hu.mono (Nat.le_of_lt hg)).other hgb (fun q hq e => by simp only [Option.some.injEq] at e; subst e; have := (hu.lt hq).1; omega)
  · rw [List.pairwise_append]
    refine ⟨h.ap, List.pairwise_singleton _ _, fun p hp q hq => ?_⟩
    rw [List.mem_singleton] at hq
    subst hq
    intro b h1 h3
    have := ((h.evs p hp).lt h1).2
    have := (hu.lt h3).1
    omega
theorem MkP.done {w : World} {g n : Nat} {ps : Prs} (h : MkP w g n ps) (hl : ps.length = n) : OwnP w g (.slice (some ⟨g, 0, none⟩) n n) ps := by
  subst hl
  refine ⟨?_, h.evs, h.ap⟩
  have := h.row
  rw [Nat.sub_self, List.replicate_zero, List.append_nil] at this; exact this
theorem MkP.mt {w : World} {g n : Nat} (h : w.ownsRow g 81 1 (.slice (some ⟨g, 0, none⟩) n n) n (List.replicate n (.slice none 0 0))) : MkP w g n [] := ⟨by simpa [vsP] using h, fun p hp => (by cases hp), List.Pairwise.nil⟩
theorem bsP_snoc {ps : Prs} {u : Value} {es : Evs} : bsP (ps ++ [(u, es)]) = bsP ps ++ [es] := by simp [bsP]
end M
set_option maxHeartbeats 2000000 in
theorem to_branch (v : Value) (es : Evs) (w : World) (hv : SliceOf w v es) (hlen : es.length ≤ 1048576) :
    Calls Tryz.prog 145 #[.agg #[v]] w fun e w' => (∃ a c, e = .returned (.agg #[.slice a es.length c]) ∧ OwnE w' w.heap.size (.slice a es.length c) es) ∧ Below w.heap.size w w' := by
  have HV := hide hv
  obtain ⟨a1, c1, rfl⟩ := hv.form
  clear hv
  go_enter Tryz.func145, Tryz.ntmps145
  go_wp2_with fail
  generalize hW : ((w.alloc _).alloc _).alloc _ = W
  obtain ⟨m0, m1, m2, hbW, hsW⟩ := three1 w _ _ _ _ _ _ W hW.symm
  clear hW
  refine (to_evs _ es _ (HV.out.below hbW) hlen).mono ?_
  rintro e w1 ⟨⟨rfl, hX⟩, hb1⟩
  have hbw1 := hbW.trans (hb1.mono (by omega))
  have n1 := m1.down hb1
  have n2 := m2.down hb1
  have HO := hide ((OwnE.made hlen hX).mono (show w.heap.size + 3 ≤ W.heap.size by omega))
  have e1 := n1.cell
  have e2 := n1.thaw
  have r1 := n2.cell
  have r2 := n2.thaw
  have HW := hide hsW
  clear hb1 m0 m1 m2 n1 n2 hX HV hbW hsW
  go_wp2
  refine bodyPost_ret (v := .agg #[.slice (some ⟨W.heap.size, 0, none⟩) es.length es.length]) (by simp [results, Tryz.results145, go_sem, e1]) rfl ⟨⟨_, _, rfl, ?_⟩, ?_⟩
  · exact OwnE.mono (own_set_low (own_set_low HO.out (by omega) _) (by omega) _) (by omega)
  · exact (hbw1.setCell (by simp; omega) _).setCell (by simp) _
set_option maxHeartbeats 2000000 in
theorem to_brs (v : Value) (bs : Brs) (w : World) (hv : BrsOf w v bs) (hf : FineS bs) :
    Calls Tryz.prog 96 #[v] w fun e w' => (∃ ps, e = .returned (.slice (some ⟨w.heap.size, 0, none⟩) bs.length bs.length) ∧ OwnP w' w.heap.size (.slice (some ⟨w.heap.size, 0, none⟩) bs.length bs.length) ps ∧ bsP ps = bs) ∧ Below w.heap.size w w' := by
  have HV := hide hv
  have HF := hide hf
  obtain ⟨a, cap, rfl⟩ := hv.form
  have hmk := make_brs bs.length hf.1
  have HM := hide (MkP.mt (made_brs w bs.length hf.1))
  have hn := hf.1
  clear hv hf
  go_enter Tryz.func96, Tryz.ntmps96
  go_wp2
  go_loopw [4] (fun i wr => ∃ (k : Nat) (ps : Prs), k ≤ bs.length ∧ i = .int .i64 k ∧ Hid (ps.length = k) ∧ Hid (MkP wr w.heap.size bs.length ps) ∧ Hid (bsP ps = bs.take k) ∧ Below w.heap.size w wr ∧ w.heap.size < wr.heap.size) (fun i _ => bs.length - (intOf i).toNat)
  case atStart => exact ⟨0, [], Nat.zero_le _, rfl, hide rfl, HM, hide rfl, (Below.refl _ _).alloc (Nat.le_refl _) _, by simp⟩
  case round =>
    obtain ⟨k, ps, hk, rfl, HL, HA, HB, hbw, hgl⟩ := hrel
    by_cases hlt : k < bs.length
    · obtain ⟨es, he⟩ : ∃ e, bs[k]? = some e := ⟨bs[k], List.getElem?_eq_getElem hlt⟩
      obtain ⟨b, off, rfl, hlb, a2, c2, hc, hs⟩ := HV.out.at he
      have hcw := (hbw.cell (p := ⟨b, off + k, none⟩) hlb).trans hc
      have HS := hide (hs.below hbw)
      have hle := (HF.out.at he).1
      have HE := hide he
      clear hc hs he hmk HM
      go_wp2_with fail
      refine (to_branch _ es _ HS.out hle).mono ?_
      rintro e w1 ⟨⟨a3, c3, rfl, hO⟩, hb1⟩
      have hbw1 := hbw.trans (hb1.mono hbw.size)
      have h0 := HA.out.down hb1
      have d0 := own1_cell h0.row (j := k) (x := .slice none 0 0) (by
        have := HL.out
        rw [List.getElem?_append_right (by rw [vsP_len]; omega), vsP_len, List.getElem?_replicate, if_pos (by omega)])
      have d1 := own1_thaw h0.row k
      have hp := HA.out.put hb1 hO (by have := HL.out; omega) hgl
      rw [HL.out] at hp
      have HP := hide hp
      have HB2 := hide (show bsP (ps ++ [(Value.slice a3 es.length c3, es)]) = bs.take (k + 1) by rw [bsP_snoc, HB.out, take_snocB HE.out])
      have HL2 := hide (show (ps ++ [(Value.slice a3 es.length c3, es)]).length = k + 1 by rw [List.length_append, HL.out]; rfl)
      have hbw2 := hbw1.setCell (p := ⟨w.heap.size, k, none⟩) (Nat.le_refl _) (.slice a3 es.length c3)
      have hgl2 : w.heap.size < (w1.setCell ⟨w.heap.size, k, none⟩ (.slice a3 es.length c3)).heap.size := by rw [World.size_setCell]; exact Nat.lt_of_lt_of_le hgl hb1.size
      clear h0 hp hO hb1 HA HB HL HS HE hcw
      go_wp2
      exact ⟨⟨k + 1, _, by omega, by go_num, HL2, HP, HB2, hbw2, hgl2⟩, by simp [intOf]; omega⟩
    · obtain rfl : k = bs.length := by omega
      have HP := hide (HA.out.done HL.out)
      have HB2 := hide (show bsP ps = bs by rw [HB.out, List.take_length])
      clear HA HV hmk HM
      go_wp2
      go_ret
      exact ⟨⟨ps, rfl, HP.out, HB2.out⟩, hbw⟩
set_option maxHeartbeats 2000000 in
theorem to_tell (v : Value) (bs : Brs) (w : World) (hv : BrsOf w v bs) (hf : FineS bs) :
    Calls Tryz.prog 53 #[.agg #[v]] w fun e w' => (∃ g ps, e = .returned (.agg #[.slice (some ⟨g, 0, none⟩) bs.length bs.length]) ∧ OwnP w' w.heap.size (.slice (some ⟨g, 0, none⟩) bs.length bs.length) ps ∧ bsP ps = bs) ∧ Below w.heap.size w w' := by
  have HV := hide hv
  have HF := hide hf
  obtain ⟨a1, c1, rfl⟩ := hv.form
  clear hv hf
  go_enter Tryz.func53, Tryz.ntmps53
  go_wp2_with fail
  generalize hW : ((w.alloc _).alloc _).alloc _ = W
  obtain ⟨m0, m1, m2, hbW, hsW⟩ := three1 w _ _ _ _ _ _ W hW.symm
  clear hW
  refine (to_brs _ bs _ (HV.out.below hbW) HF.out).mono ?_
  rintro e w1 ⟨⟨ps, rfl, hX, hps⟩, hb1⟩
  have hbw1 := hbW.trans (hb1.mono (by omega))
  have n1 := m1.down hb1
  have n2 := m2.down hb1
  have HO := hide (hX.mono (show w.heap.size + 3 ≤ W.heap.size by omega))
  have HPS := hide hps
  have e1 := n1.cell
  have e2 := n1.thaw
  have r1 := n2.cell
  have r2 := n2.thaw
  have HW := hide hsW
  clear hb1 m0 m1 m2 n1 n2 hX HV hbW hsW hps HF
  go_wp2
  refine bodyPost_ret (v := .agg #[.slice (some ⟨W.heap.size, 0, none⟩) bs.length bs.length]) (by simp [results, Tryz.results53, go_sem, e1]) rfl ⟨⟨_, ps, rfl, ?_, HPS.out⟩, ?_⟩
  · exact OwnP.mono ((HO.out.set_low (by omega) _).set_low (by omega) _) (by omega)
  · exact (hbw1.setCell (by simp; omega) _).setCell (by simp) _
set_option maxHeartbeats 1000000 in
theorem eq_branch (v u : Value) (es : Evs) (w : World) (hv : SliceOf w v es) (hu : SliceOf w u es) (hlen : es.length ≤ 1048576) :
    Calls Tryz.prog 146 #[.agg #[v], .agg #[u]] w fun e w' => e = .returned (.bool true) ∧ Below w.heap.size w w' := by
  have hal := ((Below.refl w.heap.size w).alloc (Nat.le_refl _) (.cells #[v] 81)).alloc (by simp) (.cells #[u] 81)
  have HV := hide (hv.below hal)
  have HU := hide (hu.below hal)
  obtain ⟨a1, c1, rfl⟩ := hv.form
  obtain ⟨a2, c2, rfl⟩ := hu.form
  clear hv hu
  go_enter Tryz.func146, Tryz.ntmps146
  go_wp2_with fail
  refine (eq_all _ _ es _ HV.out HU.out hlen eq_ev).mono ?_
  rintro e w1 ⟨rfl, hb1⟩
  have hbw := hal.trans (hb1.mono hal.size)
  clear hb1 hal
  go_wp2
  go_ret
  exact ⟨rfl, hbw⟩
set_option maxRecDepth 20000 in
set_option maxHeartbeats 2000000 in
theorem eq_brs (v u : Value) (bs : Brs) (w : World) (hv : BrsOf w v bs) (hu : BrsOf w u bs) (hf : FineS bs) :
    Calls Tryz.prog 98 #[v, u] w fun e w' => e = .returned (.bool true) ∧ Below w.heap.size w w' := by
  have HV := hide hv
  have HU := hide hu
  have HF := hide hf
  obtain ⟨a1, cap1, rfl⟩ := hv.form
  obtain ⟨a2, cap2, rfl⟩ := hu.form
  have hnn : ((bs.length : Int) != (bs.length : Int)) = false := by simp
  have hn := hf.1
  clear hv hu hf
  go_enter Tryz.func98, Tryz.ntmps98
  go_wp2
  go_loopw [5] (fun i wr => ∃ k : Nat, k ≤ bs.length ∧ i = .int .i64 k ∧ Below w.heap.size w wr) (fun i _ => bs.length - (intOf i).toNat)
  case atStart => exact ⟨0, Nat.zero_le _, rfl, Below.refl _ _⟩
  case round =>
    obtain ⟨k, hk, rfl, hbw⟩ := hrel
    by_cases hlt : k < bs.length
    · obtain ⟨es, he⟩ : ∃ e, bs[k]? = some e := ⟨bs[k], List.getElem?_eq_getElem hlt⟩
      obtain ⟨b1, o1, rfl, hl1, x1, y1, hc1, hs1⟩ := HV.out.at he
      obtain ⟨b2, o2, rfl, hl2, x2, y2, hc2, hs2⟩ := HU.out.at he
      have d1 := cell_regrown ((hbw.cell (p := ⟨b1, o1 + k, none⟩) hl1).trans hc1)
      have d2 := cell_regrown ((hbw.cell (p := ⟨b2, o2 + k, none⟩) hl2).trans hc2)
      have hle := (HF.out.at he).1
      have HS1 := hide (hs1.below hbw)
      have HS2 := hide (hs2.below hbw)
      have hi0 : (0 : Int) ≤ (k : Int) := by omega
      have hi1 : (k : Int) < (bs.length : Int) := by omega
      have HE := hide (show ∀ dd os, Calls Tryz.prog 146 #[.agg #[.slice x1 es.length y1], .agg #[.slice x2 es.length y2]] (grow (redrawn wr dd) os) fun e' w'' => e' = .returned (.bool true) ∧ ∃ p : Regrown, w'' = grow (redrawn wr p.d) p.os from fun dd os => Calls.regrown_of (eq_branch _ _ es _ (HS1.out.below (below_regrown wr dd os)) (HS2.out.below (below_regrown wr dd os)) hle))
      clear hc1 hc2 hs1 hs2 he
      go_wp2
      refine wp_region_quiet_below (by kernel_rfl) (by kernel_rfl) ?_
      repeat (go_big_quiet_step (exact HE.out _ _))
      refine wpQuiet_nil ?_
      intro _ hw'
      obtain ⟨⟨dq, osq⟩, hw''⟩ := hw'
      subst hw''
      have hbw2 := hbw.trans ((below_regrown wr dq osq).mono hbw.size)
      clear HE d1 d2
      go_wp2
      go_roundw
      case rel => exact ⟨k + 1, by omega, by go_num, hbw2⟩
      case measure => simp [intOf]; omega
    · clear HV HU
      go_wp2
      go_ret
      exact ⟨rfl, hbw⟩
set_option maxHeartbeats 1000000 in
theorem eq_tell (v u : Value) (bs : Brs) (w : World) (hv : BrsOf w v bs) (hu : BrsOf w u bs) (hf : FineS bs) :
    Calls Tryz.prog 55 #[.agg #[v], .agg #[u]] w fun e w' => e = .returned (.bool true) ∧ Below w.heap.size w w' := by
  have HF := hide hf
  have hal := ((Below.refl w.heap.size w).alloc (Nat.le_refl _) (.cells #[v] 32)).alloc (by simp) (.cells #[u] 32)
  have HV := hide (hv.below hal)
  have HU := hide (hu.below hal)
  obtain ⟨a1, c1, rfl⟩ := hv.form
  obtain ⟨a2, c2, rfl⟩ := hu.form
  clear hv hu hf
  go_enter Tryz.func55, Tryz.ntmps55
  go_wp2_with fail
  refine (eq_brs _ _ bs _ HV.out HU.out HF.out).mono ?_
  rintro e w1 ⟨rfl, hb1⟩
  have hbw := hal.trans (hb1.mono hal.size)
  clear hb1 hal
  go_wp2
  go_ret
  exact ⟨rfl, hbw⟩
namespace M
theorem own1_cellm {w : World} {B e g n m cap : Nat} {xs : List Value} (h : w.ownsRow B e 1 (.slice (some ⟨g, 0, none⟩) n cap) m xs) {j : Nat} {x : Value} (hj : xs[j]? = some x) : w.cell? ⟨g, j, none⟩ = some x := by
  have hm : n = m := by
    rcases h.2 with ⟨hv, _⟩ | ⟨g', cap', cur, hv, _⟩
    · simp at hv
    · simp only [Value.slice.injEq] at hv; exact hv.2.1
  subst hm
  exact own1_cell h hj
/-- One of them marked. -/
theorem OwnP.mark {w w' : World} {B : Nat} {v u : Value} {ps qs : Prs} {es ms : Evs} (h : OwnP w B v (qs ++ (u, es) :: ps)) (hm : OwnE w' B u ms) (hg : w.grownBy w' u.ownBlock) : OwnP w' B v (qs ++ (u, ms) :: ps) := by
  have hv : vsP (qs ++ (u, ms) :: ps) = vsP (qs ++ (u, es) :: ps) := by simp [vsP]
  have hap := h.ap
  rw [List.pairwise_append, List.pairwise_cons] at hap
  refine ⟨?_, fun p hp => ?_, pw_fst hv h.ap⟩
  · have h1 := owns_other h.row hg (fun g hq e => by
      have := h.far (p := (u, es)) (by simp) g hq
      exact this e.symm)
    rw [hv]
    have e1 : (qs ++ (u, ms) :: ps).length = (qs ++ (u, es) :: ps).length := by simp
    rw [e1]; exact h1
  · rw [List.mem_append, List.mem_cons] at hp
    rcases hp with hp | hp | hp
    · exact (h.evs p (by simp [hp])).other hg (fun g hq e => hap.2.2 p hp (u, es) (by simp) g hq e.symm)
    · subst hp; exact hm
    · exact (h.evs p (by simp [hp])).other hg (fun g hq e => hap.2.1.1 p hp g e.symm hq)
theorem mkP_snoc (k0 : Nat) (ps : Prs) (p : Value × Evs) : mkP k0 (ps ++ [p]) = mkP k0 ps ++ [(p.1, mkE (k0 + 4 * evn ps) p.2.length)] := by
  rw [mkP_app]; simp [mkP]
end M
set_option maxHeartbeats 2000000 in
theorem mark_brs (B k0 lo hi : Nat) (v : Value) (ps : Prs) (w : World) (h : OwnP w B v ps) (hin : Within lo hi v ps) (hn : ps.length ≤ 1048576) (hl : ∀ p ∈ ps, p.2.length ≤ 1048576) (h1 : 1 ≤ k0) (hk0 : k0 + 4 * evn ps ≤ 20000000) :
    Calls Tryz.prog 109 #[v, .int .i64 (k0 : Int)] w fun e w' => e = .returned (.int .i64 ((k0 + 4 * evn ps : Nat) : Int)) ∧ OwnP w' B v (mkP k0 ps) ∧ KeptB lo hi w w' := by
  have HP := hide h
  have HI := hide hin
  have HL := hide hl
  obtain ⟨a, cap, rfl⟩ := h.form
  clear h hin hl
  go_enter Tryz.func109, Tryz.ntmps109
  go_wp2
  go_loopw [1, 5] (fun x i wr => ∃ k q : Nat, k ≤ ps.length ∧ i = .int .i64 k ∧ x = .int .i64 q ∧ Hid (q = k0 + 4 * evn (ps.take k)) ∧ q ≤ 20000000 ∧ Hid (OwnP wr B (.slice a ps.length cap) (mkP k0 (ps.take k) ++ ps.drop k)) ∧ Hid (KeptB lo hi w wr)) (fun _ i _ => ps.length - (intOf i).toNat)
  case atStart => exact ⟨0, k0, Nat.zero_le _, rfl, rfl, hide (by simp [evn]), by omega, hide (by simpa [mkP] using HP.out), hide (KeptB.refl _ _ _)⟩
  case round =>
    obtain ⟨k, q, hk, rfl, rfl, HQ, hq, HO, HK⟩ := hrel
    by_cases hlt : k < ps.length
    · obtain ⟨u, es, he⟩ : ∃ u es, ps[k]? = some (u, es) := ⟨ps[k].1, ps[k].2, List.getElem?_eq_getElem hlt⟩
      have hd : ps.drop k = (u, es) :: ps.drop (k + 1) := by
        obtain ⟨h', e'⟩ := List.getElem?_eq_some_iff.1 he
        rw [List.drop_eq_getElem_cons h', e']
      have hmem := List.mem_of_getElem? he
      have hO := HO.out
      rw [hd] at hO
      have hkl : k = (mkP k0 (ps.take k)).length := by rw [mkP_len, List.length_take]; omega
      rcases hO.split with ⟨h0, h0'⟩ | ⟨g, cap', hva, hB, hgl, -⟩
      · simp at h0'
      · simp only [Value.slice.injEq] at hva
        obtain ⟨rfl, -, -⟩ := hva
        have hat : (mkP k0 (ps.take k) ++ (u, es) :: ps.drop (k + 1))[k]? = some (u, es) := by
          rw [List.getElem?_append_right (by omega), ← hkl, Nat.sub_self]; rfl
        have hcc := own1_cellm hO.row (j := k) (x := u) (vsP_at hat)
        have hev := hO.evs (u, es) (by simp)
        have hsl : SliceOf wr u es := hev.slice
        obtain ⟨au, cu, rfl⟩ := hsl.form
        have hle := HL.out (Value.slice au es.length cu, es) hmem
        have htk : evn (ps.take (k + 1)) = evn (ps.take k) + es.length := by
          rw [take_snocB he, evn_app]; simp [evn]
        have hq3 : q + 4 * es.length ≤ 20000000 := by
          have := HQ.out
          have := evn_take_le ps (k + 1)
          omega
        have hq1 : 1 ≤ q := by have := HQ.out; omega
        have HE := hide hev
        have HO1 := hide hO
        have HKL := hide hkl
        have HTK := hide htk
        have HEE := hide he
        have hin2 := HI.out.2 _ hmem
        have HI2 := hide hin2
        clear hd hmem hO hkl hev hsl htk he HO HL hin2 hat
        go_wp2_with fail
        refine (mark_own B q _ es _ HE.out hle hq1 (by omega)).mono ?_
        rintro e w1 ⟨rfl, hm, hg⟩
        have hO2 := HO1.out.mark hm hg
        have HK2 := hide (HK.out.trans (KeptB.of hg (fun b hb => HI2.out b hb)))
        have HO2 := hide (show OwnP w1 B (.slice (some ⟨g, 0, none⟩) ps.length cap) (mkP k0 (ps.take (k + 1)) ++ ps.drop (k + 1)) by
          rw [take_snocB HEE.out, mkP_snoc, List.append_assoc]
          rw [show k0 + 4 * evn (ps.take k) = q from HQ.out.symm]
          exact hO2)
        have HQ2 := hide (show q + 4 * es.length = k0 + 4 * evn (ps.take (k + 1)) by rw [HTK.out, HQ.out]; omega)
        clear hO2 hm hg HE HO1 HK hcc
        go_wp2
        exact ⟨⟨k + 1, q + 4 * es.length, by omega, by go_num, by go_num, HQ2, hq3, HO2, HK2⟩, by simp [intOf]; omega⟩
    · obtain rfl : k = ps.length := by omega
      have hO := HO.out
      rw [List.take_length, List.drop_length, List.append_nil] at hO
      have hQ := HQ.out
      rw [List.take_length] at hQ
      have HO2 := hide hO
      have HQ2 := hide hQ
      clear hO hQ HO HQ HI HL
      go_wp2
      go_ret
      exact ⟨ret_int (by rw [HQ2.out]), HO2.out, HK.out⟩
set_option maxHeartbeats 1000000 in
theorem mark_tell (B k0 lo hi : Nat) (v : Value) (ps : Prs) (w : World) (h : OwnP w B v ps) (hin : Within lo hi v ps) (hn : ps.length ≤ 1048576) (hl : ∀ p ∈ ps, p.2.length ≤ 1048576) (h1 : 1 ≤ k0) (hk0 : k0 + 4 * evn ps ≤ 20000000) :
    Calls Tryz.prog 61 #[.agg #[v], .int .i64 (k0 : Int)] w fun e w' => e = .returned (.int .i64 ((k0 + 4 * evn ps : Nat) : Int)) ∧ OwnP w' B v (mkP k0 ps) ∧ KeptB lo hi w w' := by
  have HI := hide hin
  have HL := hide hl
  have hal := (Below.refl w.heap.size w).alloc (Nat.le_refl _) (.cells #[v] 32)
  have HP := hide (h.down hal)
  have HK := hide (KeptB.of (lo := lo) (hi := hi) (gbT_below (gbT_refl w none) hal) (fun g hg => by cases hg))
  obtain ⟨a, cap, rfl⟩ := h.form
  clear h hin hl hal
  go_enter Tryz.func61, Tryz.ntmps61
  go_wp2_with fail
  refine (mark_brs B k0 lo hi _ ps _ HP.out HI.out hn HL.out h1 hk0).mono ?_
  rintro e w1 ⟨rfl, hO, hk⟩
  have HO := hide hO
  have HK2 := hide (HK.out.trans hk)
  clear hO hk HK HP
  go_wp2
  go_ret
  exact ⟨rfl, HO.out, HK2.out⟩
end Go.Proofs.YtfkeokglifpkoaaGreatDoor

/-
  Boxes of three cells and of two, a region's value and a word's.
-/
namespace Go.Proofs.YtfkeokglifpkoaaGreatDoor
open Go.RowKit M
open Clk (upd upd_same upd_other)
namespace M
/-- A region's value, a word's. -/
abbrev rv (id ver : Int) (v : Value) : Value := .agg #[.int .i64 id, .int .i64 ver, v]
abbrev wv (ver : Int) (v : Value) : Value := .agg #[.int .i64 ver, v]
def q3 (a b c : Value) : Nat → Value := fun i => if i = 0 then a else if i = 1 then b else c
theorem new3 (w : World) (a b c : Value) (t : TypeId) : Blk (w.alloc (.cells #[a, b, c] t)) w.heap.size 3 (q3 a b c) t := Blk.fresh _ _ _ _ _ rfl
theorem Blk.tri {w : World} {g : Nat} {a b c : Value} {t : TypeId} (h : Blk w g 3 (q3 a b c) t) :
    (w.cell? ⟨g, 0, none⟩ = some a ∧ w.cell? ⟨g, 1, none⟩ = some b ∧ w.cell? ⟨g, 2, none⟩ = some c) ∧ w.frozen? ⟨g, 0, none⟩ = false ∧ w.frozen? ⟨g, 1, none⟩ = false ∧ w.frozen? ⟨g, 2, none⟩ = false :=
  ⟨⟨h.cell (i := 0) (by omega), h.cell (i := 1) (by omega), h.cell (i := 2) (by omega)⟩, h.thaw 0, h.thaw 1, h.thaw 2⟩
theorem Blk.put3 {w : World} {g : Nat} {a b c : Value} {t : TypeId} (h : Blk w g 3 (q3 a b c) t) (x y z : Value) :
    Blk (((w.setCell ⟨g, 0, none⟩ x).setCell ⟨g, 1, none⟩ y).setCell ⟨g, 2, none⟩ z) g 3 (q3 x y z) t := by
  refine (((h.set 0 x).set 1 y).set 2 z).ext fun i hi => ?_
  rcases (show i = 0 ∨ i = 1 ∨ i = 2 by omega) with e | e | e
  · subst e; rfl
  · subst e; rfl
  · subst e; rfl
theorem Blk.tri0 {w : World} {g : Nat} {a b c : Value} {t : TypeId} (h : Blk w g 3 (q3 a b c) t) (x : Value) : Blk (w.setCell ⟨g, 0, none⟩ x) g 3 (q3 x b c) t := by
  refine (h.set 0 x).ext fun i hi => ?_
  rcases (show i = 0 ∨ i = 1 ∨ i = 2 by omega) with e | e | e
  · subst e; rfl
  · subst e; rfl
  · subst e; rfl
theorem Blk.tri1 {w : World} {g : Nat} {a b c : Value} {t : TypeId} (h : Blk w g 3 (q3 a b c) t) (x : Value) : Blk (w.setCell ⟨g, 1, none⟩ x) g 3 (q3 a x c) t := by
  refine (h.set 1 x).ext fun i hi => ?_
  rcases (show i = 0 ∨ i = 1 ∨ i = 2 by omega) with e | e | e
  · subst e; rfl
  · subst e; rfl
  · subst e; rfl
theorem Blk.tri2 {w : World} {g : Nat} {a b c : Value} {t : TypeId} (h : Blk w g 3 (q3 a b c) t) (x : Value) : Blk (w.setCell ⟨g, 2, none⟩ x) g 3 (q3 a b x) t := by
  refine (h.set 2 x).ext fun i hi => ?_
  rcases (show i = 0 ∨ i = 1 ∨ i = 2 by omega) with e | e | e
  · subst e; rfl
  · subst e; rfl
  · subst e; rfl
def q2 (a b : Value) : Nat → Value := fun i => if i = 0 then a else b
theorem new2 (w : World) (a b : Value) (t : TypeId) : Blk (w.alloc (.cells #[a, b] t)) w.heap.size 2 (q2 a b) t := Blk.fresh _ _ _ _ _ rfl
theorem Blk.duo {w : World} {g : Nat} {a b : Value} {t : TypeId} (h : Blk w g 2 (q2 a b) t) :
    (w.cell? ⟨g, 0, none⟩ = some a ∧ w.cell? ⟨g, 1, none⟩ = some b) ∧ w.frozen? ⟨g, 0, none⟩ = false ∧ w.frozen? ⟨g, 1, none⟩ = false :=
  ⟨⟨h.cell (i := 0) (by omega), h.cell (i := 1) (by omega)⟩, h.thaw 0, h.thaw 1⟩
theorem Blk.duo1 {w : World} {g : Nat} {a b : Value} {t : TypeId} (h : Blk w g 2 (q2 a b) t) (x : Value) : Blk (w.setCell ⟨g, 1, none⟩ x) g 2 (q2 a x) t := by
  refine (h.set 1 x).ext fun i hi => ?_
  rcases (show i = 0 ∨ i = 1 by omega) with e | e
  · subst e; rfl
  · subst e; rfl
theorem Blk.put2 {w : World} {g : Nat} {a b : Value} {t : TypeId} (h : Blk w g 2 (q2 a b) t) (x y : Value) :
    Blk ((w.setCell ⟨g, 0, none⟩ x).setCell ⟨g, 1, none⟩ y) g 2 (q2 x y) t := by
  refine ((h.set 0 x).set 1 y).ext fun i hi => ?_
  rcases (show i = 0 ∨ i = 1 by omega) with e | e
  · subst e; rfl
  · subst e; rfl
theorem Blk.off {w : World} {g g' n i : Nat} {f : Nat → Value} {t : TypeId} (h : Blk w g n f t) (hne : g ≠ g') (x : Value) : Blk (w.setCell ⟨g', i, none⟩ x) g n f t :=
  h.gb (gbT_set (gbT_refl w (some g'))) (fun e => hne (by simpa using e))
/-- A function's boxes: the region that came in, the region that is answered. -/
structure R2 (w W : World) (id ver : Int) (v : Value) : Prop where
  low : Below w.heap.size w W
  arg : Blk W w.heap.size 3 (q3 (.int .i64 id) (.int .i64 ver) v) 34
  res : Blk W (w.heap.size + 1) 3 (q3 (.int .i64 0) (.int .i64 0) (.slice none 0 0)) 34
  big : w.heap.size + 2 ≤ W.heap.size
theorem R2.down {w W W' : World} {id ver : Int} {v : Value} (h : R2 w W id ver v) (hb : Below W.heap.size W W') : R2 w W' id ver v :=
  ⟨h.low.trans (hb.mono h.low.size), h.arg.down hb, h.res.down hb, Nat.le_trans h.big hb.size⟩
theorem R2.new (w : World) (id ver : Int) (v : Value) : R2 w ((w.alloc (.cells #[.int .i64 id, .int .i64 ver, v] 34)).alloc (.cells #[.int .i64 0, .int .i64 0, .slice none 0 0] 34)) id ver v := by
  refine ⟨((Below.refl _ w).alloc (Nat.le_refl _) _).alloc (by simp) _, (new3 w _ _ _ 34).alloc _, ?_, by simp⟩
  have := new3 (w.alloc (.cells #[.int .i64 id, .int .i64 ver, v] 34)) (.int .i64 0) (.int .i64 0) (.slice none 0 0) 34
  rw [World.size_alloc] at this; exact this
theorem R2.fin {w W : World} {id ver : Int} {v : Value} (h : R2 w W id ver v) (x y z : Value) : ∀ WZ, ((W.setCell ⟨w.heap.size + 1, 0, none⟩ x).setCell ⟨w.heap.size + 1, 1, none⟩ y).setCell ⟨w.heap.size + 1, 2, none⟩ z = WZ →
    Blk WZ (w.heap.size + 1) 3 (q3 x y z) 34 ∧ Below w.heap.size w WZ ∧ ∀ (B : Nat) (u : Value) (ps : Prs), OwnP W B u ps → w.heap.size + 2 ≤ B → OwnP WZ w.heap.size u ps := by
  intro WZ hWZ
  subst hWZ
  exact ⟨h.res.put3 _ _ _, ((h.low.setCell (p := ⟨w.heap.size + 1, 0, none⟩) (Nat.le_succ _) _).setCell (p := ⟨w.heap.size + 1, 1, none⟩) (Nat.le_succ _) _).setCell (p := ⟨w.heap.size + 1, 2, none⟩) (Nat.le_succ _) _, fun B u ps ho hB => (((ho.set_low (by omega) _).set_low (by omega) _).set_low (by omega) _).mono (by omega)⟩
/-- The same, a word answered. -/
structure R2W (w W : World) (id ver : Int) (v : Value) : Prop where
  low : Below w.heap.size w W
  arg : Blk W w.heap.size 3 (q3 (.int .i64 id) (.int .i64 ver) v) 34
  res : Blk W (w.heap.size + 1) 2 (q2 (.int .i64 0) (.slice none 0 0)) 45
  big : w.heap.size + 2 ≤ W.heap.size
theorem R2W.down {w W W' : World} {id ver : Int} {v : Value} (h : R2W w W id ver v) (hb : Below W.heap.size W W') : R2W w W' id ver v :=
  ⟨h.low.trans (hb.mono h.low.size), h.arg.down hb, h.res.down hb, Nat.le_trans h.big hb.size⟩
theorem R2W.new (w : World) (id ver : Int) (v : Value) : R2W w ((w.alloc (.cells #[.int .i64 id, .int .i64 ver, v] 34)).alloc (.cells #[.int .i64 0, .slice none 0 0] 45)) id ver v := by
  refine ⟨((Below.refl _ w).alloc (Nat.le_refl _) _).alloc (by simp) _, (new3 w _ _ _ 34).alloc _, ?_, by simp⟩
  have := new2 (w.alloc (.cells #[.int .i64 id, .int .i64 ver, v] 34)) (.int .i64 0) (.slice none 0 0) 45
  rw [World.size_alloc] at this; exact this
theorem R2W.fin {w W : World} {id ver : Int} {v : Value} (h : R2W w W id ver v) (x y : Value) : ∀ WZ, (W.setCell ⟨w.heap.size + 1, 0, none⟩ x).setCell ⟨w.heap.size + 1, 1, none⟩ y = WZ →
    Blk WZ (w.heap.size + 1) 2 (q2 x y) 45 ∧ Below w.heap.size w WZ ∧ ∀ (B : Nat) (u : Value) (ps : Prs), OwnP W B u ps → w.heap.size + 2 ≤ B → OwnP WZ w.heap.size u ps := by
  intro WZ hWZ
  subst hWZ
  exact ⟨h.res.put2 _ _, (h.low.setCell (p := ⟨w.heap.size + 1, 0, none⟩) (Nat.le_succ _) _).setCell (p := ⟨w.heap.size + 1, 1, none⟩) (Nat.le_succ _) _, fun B u ps ho hB => ((ho.set_low (by omega) _).set_low (by omega) _).mono (by omega)⟩
theorem low1 (w : World) (o : Obj) : Below w.heap.size w (w.alloc o) := (Below.refl w.heap.size w).alloc (Nat.le_refl _) o
end M
end Go.Proofs.YtfkeokglifpkoaaGreatDoor

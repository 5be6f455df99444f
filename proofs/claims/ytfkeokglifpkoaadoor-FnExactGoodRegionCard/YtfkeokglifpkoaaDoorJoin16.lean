/-
  The law's helpers on branches and tellings: a copy in memory of its own, that two of the same are told alike, and marks on a copy.
-/
import Derived.Test.YtfkeokglifpkoaaDoorJoin15
namespace Go.Proofs.YtfkeokglifpkoaaDoor
open Go.RowKit M
open Go.Sort (grow)
namespace M
/-- A box of one cell. -/
def One (w : World) (g : Nat) (v : Value) (t : TypeId) : Prop := w.heap[g]? = some (.cells #[v] t (0, 0))
theorem One.lt {w : World} {g : Nat} {v : Value} {t : TypeId} (h : One w g v t) : g < w.heap.size := blk_lt h
theorem One.cell {w : World} {g : Nat} {v : Value} {t : TypeId} (h : One w g v t) : w.cell? ⟨g, 0, none⟩ = some v := by
  unfold One at h; simp [World.cell?, h]
theorem One.thaw {w : World} {g : Nat} {v : Value} {t : TypeId} (h : One w g v t) : w.frozen? ⟨g, 0, none⟩ = false := by
  unfold One at h; simp [World.frozen?, h]
theorem One.down {w w' : World} {g : Nat} {v : Value} {t : TypeId} (h : One w g v t) (hb : Below w.heap.size w w') : One w' g v t := blk_below h hb
theorem One.set {w : World} {g : Nat} {v : Value} {t : TypeId} (h : One w g v t) (x : Value) : One (w.setCell ⟨g, 0, none⟩ x) g x t := heap_setCell_same w g 0 #[v] t x h
theorem One.other {w : World} {g g' i : Nat} {v : Value} {t : TypeId} (h : One w g v t) (hne : g ≠ g') (x : Value) : One (w.setCell ⟨g', i, none⟩ x) g v t := by
  unfold One; rw [heap_setCell_other _ _ _ _ hne]; exact h
theorem three1 (w : World) (a b c : Value) (t u s : TypeId) (W : World) (hW : W = ((w.alloc (.cells #[a] t)).alloc (.cells #[b] u)).alloc (.cells #[c] s)) : One W w.heap.size a t ∧ One W (w.heap.size + 1) b u ∧ One W (w.heap.size + 1 + 1) c s ∧ Below w.heap.size w W ∧ W.heap.size = w.heap.size + 1 + 1 + 1 := by
  subst hW
  have h1 : One (w.alloc (.cells #[a] t)) w.heap.size a t := heap_alloc_new w _
  have h2 : One ((w.alloc (.cells #[a] t)).alloc (.cells #[b] u)) (w.heap.size + 1) b u := by
    have := heap_alloc_new (w.alloc (.cells #[a] t)) (.cells #[b] u)
    rw [World.size_alloc] at this; exact this
  have h3 : One (((w.alloc (.cells #[a] t)).alloc (.cells #[b] u)).alloc (.cells #[c] s)) (w.heap.size + 1 + 1) c s := by
    have := heap_alloc_new ((w.alloc (.cells #[a] t)).alloc (.cells #[b] u)) (.cells #[c] s)
    rw [World.size_alloc, World.size_alloc] at this; exact this
  have a2 := fun (X : World) (o : Obj) => (Below.refl X.heap.size X).alloc (Nat.le_refl _) o
  exact ⟨(h1.down (a2 _ _)).down (a2 _ _), h2.down (a2 _ _), h3, (((Below.refl _ w).alloc (Nat.le_refl _) _).alloc (by simp) _).alloc (by simp; omega) _, by simp⟩
theorem two1 (w : World) (a b : Value) (t u : TypeId) (W : World) (hW : W = (w.alloc (.cells #[a] t)).alloc (.cells #[b] u)) : One W w.heap.size a t ∧ One W (w.heap.size + 1) b u ∧ Below w.heap.size w W ∧ W.heap.size = w.heap.size + 1 + 1 := by
  subst hW
  have h1 : One (w.alloc (.cells #[a] t)) w.heap.size a t := heap_alloc_new w _
  have h2 : One ((w.alloc (.cells #[a] t)).alloc (.cells #[b] u)) (w.heap.size + 1) b u := by
    have := heap_alloc_new (w.alloc (.cells #[a] t)) (.cells #[b] u)
    rw [World.size_alloc] at this; exact this
  exact ⟨h1.down ((Below.refl _ _).alloc (Nat.le_refl _) _), h2, ((Below.refl _ w).alloc (Nat.le_refl _) _).alloc (by simp) _, by simp⟩
/-- What is laid into a box below does not touch a row that lies above. -/
theorem own_set_low {w : World} {B e s n g i : Nat} {v : Value} {xs : List Value} (h : w.ownsRow B e s v n xs) (hg : g < B) (x : Value) : (w.setCell ⟨g, i, none⟩ x).ownsRow B e s v n xs :=
  owns_other h (gbT_set (gbT_refl w (some g))) (fun q hq e => by simp only [Option.some.injEq] at e; subst e; have := (own_lt h hq).1; omega)
theorem OwnP.set_low {w : World} {B g i : Nat} {v : Value} {ps : Prs} (h : OwnP w B v ps) (hg : g < B) (x : Value) : OwnP (w.setCell ⟨g, i, none⟩ x) B v ps := ⟨own_set_low h.row hg x, fun p hp => own_set_low (h.evs p hp) hg x, h.ap⟩
/-- Room is there for what it holds. -/
def CapOk : Value → Prop
  | .slice _ n c => n ≤ c
  | _ => True
theorem OwnP.capOk {w : World} {B : Nat} {v : Value} {ps : Prs} (h : OwnP w B v ps) : CapOk v := by
  rcases h.split with ⟨rfl, _⟩ | ⟨g, cap, rfl, _, _, hc, _⟩
  · exact Nat.le_refl 0
  · exact hc
theorem OwnP.form {w : World} {B : Nat} {v : Value} {ps : Prs} (h : OwnP w B v ps) : ∃ a cap, v = .slice a ps.length cap := by
  rcases h.split with ⟨rfl, rfl⟩ | ⟨g, cap, rfl, _⟩
  · exact ⟨_, _, rfl⟩
  · exact ⟨_, _, rfl⟩
/-- A copy under way: a row whose first places are laid. -/
structure MkP (w : World) (g n : Nat) (ps : Prs) : Prop where
  row : w.ownsRow g 43 1 (.slice (some ⟨g, 0, none⟩) n n) n (vsP ps ++ List.replicate (n - ps.length) (.slice none 0 0))
  evs : ∀ p ∈ ps, OwnE w g p.1 p.2
  ap : ps.Pairwise (fun p q => Apt p.1 q.1)
theorem MkP.down {w w' : World} {g n : Nat} {ps : Prs} (h : MkP w g n ps) (hb : Below w.heap.size w w') : MkP w' g n ps := ⟨owns_below h.row hb, fun p hp => (h.evs p hp).down hb, h.ap⟩
theorem MkP.put {w w' : World} {g n : Nat} {ps : Prs} {u : Value} {es : Evs} (h : MkP w g n ps) (hb : Below w.heap.size w w') (hu : OwnE w' w.heap.size u es) (hl : ps.length < n) (hg : g < w.heap.size) : MkP (w'.setCell ⟨g, ps.length, none⟩ u) g n (ps ++ [(u, es)]) := by
  have h2 := h.down hb
  have hgb : w'.grownBy (w'.setCell ⟨g, ps.length, none⟩ u) (some g) := gbT_set (gbT_refl w' (some g))
  have hrow : (Value.slice (some ⟨g, 0, none⟩) n n).ownBlock = some g := rfl
  refine ⟨?_, fun p hp => ?_, ?_⟩
  · have h3 := own1_set h2.row ps.length u
    have e : (vsP ps ++ List.replicate (n - ps.length) (Value.slice none 0 0)).set ps.length u = vsP (ps ++ [(u, es)]) ++ List.replicate (n - (ps ++ [(u, es)]).length) (.slice none 0 0) := by
      rw [show n - ps.length = (n - ps.length - 1) + 1 by omega, List.replicate_succ, List.set_append_right _ _ (by rw [vsP_len]; omega), vsP_len, Nat.sub_self, List.set_cons_zero, List.length_append, List.length_singleton, show n - (ps.length + 1) = n - ps.length - 1 by omega]
      simp [vsP]
    rw [e] at h3; exact h3
  · rw [List.mem_append, List.mem_singleton] at hp
    rcases hp with hp | hp
    · exact (h2.evs p hp).other hgb (fun q hq e => by
        simp only [Option.some.injEq] at e
        subst e
        exact owns_apart h2.row (h2.evs p hp) (by decide) q hrow hq.symm)
    · subst hp
      exact (hu.mono (Nat.le_of_lt hg)).other hgb (fun q hq e => by simp only [Option.some.injEq] at e; subst e; have := (hu.lt hq).1; omega)
  · rw [List.pairwise_append]
    refine ⟨h.ap, List.pairwise_singleton _ _, fun p hp q hq => ?_⟩
    rw [List.mem_singleton] at hq
    subst hq
    intro b h1 h3
    have := ((h.evs p hp).lt h1).2
    have := (hu.lt h3).1
    omega
theorem MkP.done {w : World} {g n : Nat} {ps : Prs} (h : MkP w g n ps) (hl : ps.length = n) : OwnP w g (.slice (some ⟨g, 0, none⟩) n n) ps := by
  subst hl
  refine ⟨?_, h.evs, h.ap⟩
  have := h.row
  rw [Nat.sub_self, List.replicate_zero, List.append_nil] at this; exact this
theorem MkP.mt {w : World} {g n : Nat} (h : w.ownsRow g 43 1 (.slice (some ⟨g, 0, none⟩) n n) n (List.replicate n (.slice none 0 0))) : MkP w g n [] := ⟨by simpa [vsP] using h, fun p hp => (by cases hp), List.Pairwise.nil⟩
theorem bsP_snoc {ps : Prs} {u : Value} {es : Evs} : bsP (ps ++ [(u, es)]) = bsP ps ++ [es] := by simp [bsP]
end M
set_option maxHeartbeats 2000000 in
theorem to_branch (v : Value) (es : Evs) (w : World) (hv : SliceOf w v es) (hlen : es.length ≤ 1048576) :
    Calls Tryd.prog 30 #[.agg #[v]] w fun e w' => (∃ a c, e = .returned (.agg #[.slice a es.length c]) ∧ OwnE w' w.heap.size (.slice a es.length c) es) ∧ Below w.heap.size w w' := by
  have HV := hide hv
  obtain ⟨a1, c1, rfl⟩ := hv.form
  clear hv
  go_enter Tryd.func30, Tryd.ntmps30
  go_wp2_with fail
  generalize hW : ((w.alloc _).alloc _).alloc _ = W
  obtain ⟨m0, m1, m2, hbW, hsW⟩ := three1 w _ _ _ _ _ _ W hW.symm
  clear hW
  refine (to_evs _ es _ (HV.out.below hbW) hlen).mono ?_
  rintro e w1 ⟨⟨rfl, hX⟩, hb1⟩
  have hbw1 := hbW.trans (hb1.mono (by omega))
  have n1 := m1.down hb1
  have n2 := m2.down hb1
  have HO := hide ((OwnE.made hlen hX).mono (show w.heap.size + 3 ≤ W.heap.size by omega))
  have e1 := n1.cell
  have e2 := n1.thaw
  have r1 := n2.cell
  have r2 := n2.thaw
  have HW := hide hsW
  clear hb1 m0 m1 m2 n1 n2 hX HV hbW hsW
  go_wp2
  refine bodyPost_ret (v := .agg #[.slice (some ⟨W.heap.size, 0, none⟩) es.length es.length]) (by simp [results, Tryd.results30, go_sem, e1]) rfl ⟨⟨_, _, rfl, ?_⟩, ?_⟩
  · exact OwnE.mono (own_set_low (own_set_low HO.out (by omega) _) (by omega) _) (by omega)
  · exact (hbw1.setCell (by simp; omega) _).setCell (by simp) _
set_option maxHeartbeats 2000000 in
theorem to_brs (v : Value) (bs : Brs) (w : World) (hv : BrsOf w v bs) (hf : FineS bs) :
    Calls Tryd.prog 21 #[v] w fun e w' => (∃ ps, e = .returned (.slice (some ⟨w.heap.size, 0, none⟩) bs.length bs.length) ∧ OwnP w' w.heap.size (.slice (some ⟨w.heap.size, 0, none⟩) bs.length bs.length) ps ∧ bsP ps = bs) ∧ Below w.heap.size w w' := by
  have HV := hide hv
  have HF := hide hf
  obtain ⟨a, cap, rfl⟩ := hv.form
  have hmk := make_brs bs.length hf.1
  have HM := hide (MkP.mt (made_brs w bs.length hf.1))
  have hn := hf.1
  clear hv hf
  go_enter Tryd.func21, Tryd.ntmps21
  go_wp2
  go_loopw [4] (fun i wr => ∃ (k : Nat) (ps : Prs), k ≤ bs.length ∧ i = .int .i64 k ∧ Hid (ps.length = k) ∧ Hid (MkP wr w.heap.size bs.length ps) ∧ Hid (bsP ps = bs.take k) ∧ Below w.heap.size w wr ∧ w.heap.size < wr.heap.size) (fun i _ => bs.length - (intOf i).toNat)
  case atStart => exact ⟨0, [], Nat.zero_le _, rfl, hide rfl, HM, hide rfl, (Below.refl _ _).alloc (Nat.le_refl _) _, by simp⟩
  case round =>
    obtain ⟨k, ps, hk, rfl, HL, HA, HB, hbw, hgl⟩ := hrel
    by_cases hlt : k < bs.length
    · obtain ⟨es, he⟩ : ∃ e, bs[k]? = some e := ⟨bs[k], List.getElem?_eq_getElem hlt⟩
      obtain ⟨b, off, rfl, hlb, a2, c2, hc, hs⟩ := HV.out.at he
      have hcw := (hbw.cell (p := ⟨b, off + k, none⟩) hlb).trans hc
      have HS := hide (hs.below hbw)
      have hle := (HF.out.at he).1
      have HE := hide he
      clear hc hs he hmk HM
      go_wp2_with fail
      refine (to_branch _ es _ HS.out hle).mono ?_
      rintro e w1 ⟨⟨a3, c3, rfl, hO⟩, hb1⟩
      have hbw1 := hbw.trans (hb1.mono hbw.size)
      have h0 := HA.out.down hb1
      have d0 := own1_cell h0.row (j := k) (x := .slice none 0 0) (by
        have := HL.out
        rw [List.getElem?_append_right (by rw [vsP_len]; omega), vsP_len, List.getElem?_replicate, if_pos (by omega)])
      have d1 := own1_thaw h0.row k
      have hp := HA.out.put hb1 hO (by have := HL.out; omega) hgl
      rw [HL.out] at hp
      have HP := hide hp
      have HB2 := hide (show bsP (ps ++ [(Value.slice a3 es.length c3, es)]) = bs.take (k + 1) by rw [bsP_snoc, HB.out, take_snocB HE.out])
      have HL2 := hide (show (ps ++ [(Value.slice a3 es.length c3, es)]).length = k + 1 by rw [List.length_append, HL.out]; rfl)
      have hbw2 := hbw1.setCell (p := ⟨w.heap.size, k, none⟩) (Nat.le_refl _) (.slice a3 es.length c3)
      have hgl2 : w.heap.size < (w1.setCell ⟨w.heap.size, k, none⟩ (.slice a3 es.length c3)).heap.size := by rw [World.size_setCell]; exact Nat.lt_of_lt_of_le hgl hb1.size
      clear h0 hp hO hb1 HA HB HL HS HE hcw
      go_wp2
      exact ⟨⟨k + 1, _, by omega, by go_num, HL2, HP, HB2, hbw2, hgl2⟩, by simp [intOf]; omega⟩
    · obtain rfl : k = bs.length := by omega
      have HP := hide (HA.out.done HL.out)
      have HB2 := hide (show bsP ps = bs by rw [HB.out, List.take_length])
      clear HA HV hmk HM
      go_wp2
      go_ret
      exact ⟨⟨ps, rfl, HP.out, HB2.out⟩, hbw⟩
set_option maxHeartbeats 2000000 in
theorem to_tell (v : Value) (bs : Brs) (w : World) (hv : BrsOf w v bs) (hf : FineS bs) :
    Calls Tryd.prog 13 #[.agg #[v]] w fun e w' => (∃ g ps, e = .returned (.agg #[.slice (some ⟨g, 0, none⟩) bs.length bs.length]) ∧ OwnP w' w.heap.size (.slice (some ⟨g, 0, none⟩) bs.length bs.length) ps ∧ bsP ps = bs) ∧ Below w.heap.size w w' := by
  have HV := hide hv
  have HF := hide hf
  obtain ⟨a1, c1, rfl⟩ := hv.form
  clear hv hf
  go_enter Tryd.func13, Tryd.ntmps13
  go_wp2_with fail
  generalize hW : ((w.alloc _).alloc _).alloc _ = W
  obtain ⟨m0, m1, m2, hbW, hsW⟩ := three1 w _ _ _ _ _ _ W hW.symm
  clear hW
  refine (to_brs _ bs _ (HV.out.below hbW) HF.out).mono ?_
  rintro e w1 ⟨⟨ps, rfl, hX, hps⟩, hb1⟩
  have hbw1 := hbW.trans (hb1.mono (by omega))
  have n1 := m1.down hb1
  have n2 := m2.down hb1
  have HO := hide (hX.mono (show w.heap.size + 3 ≤ W.heap.size by omega))
  have HPS := hide hps
  have e1 := n1.cell
  have e2 := n1.thaw
  have r1 := n2.cell
  have r2 := n2.thaw
  have HW := hide hsW
  clear hb1 m0 m1 m2 n1 n2 hX HV hbW hsW hps HF
  go_wp2
  refine bodyPost_ret (v := .agg #[.slice (some ⟨W.heap.size, 0, none⟩) bs.length bs.length]) (by simp [results, Tryd.results13, go_sem, e1]) rfl ⟨⟨_, ps, rfl, ?_, HPS.out⟩, ?_⟩
  · exact OwnP.mono ((HO.out.set_low (by omega) _).set_low (by omega) _) (by omega)
  · exact (hbw1.setCell (by simp; omega) _).setCell (by simp) _
set_option maxHeartbeats 1000000 in
theorem eq_branch (v u : Value) (es : Evs) (w : World) (hv : SliceOf w v es) (hu : SliceOf w u es) (hlen : es.length ≤ 1048576) :
    Calls Tryd.prog 36 #[.agg #[v], .agg #[u]] w fun e w' => e = .returned (.bool true) ∧ Below w.heap.size w w' := by
  have hal := ((Below.refl w.heap.size w).alloc (Nat.le_refl _) (.cells #[v] 43)).alloc (by simp) (.cells #[u] 43)
  have HV := hide (hv.below hal)
  have HU := hide (hu.below hal)
  obtain ⟨a1, c1, rfl⟩ := hv.form
  obtain ⟨a2, c2, rfl⟩ := hu.form
  clear hv hu
  go_enter Tryd.func36, Tryd.ntmps36
  go_wp2_with fail
  refine (eq_all _ _ es _ HV.out HU.out hlen eq_ev).mono ?_
  rintro e w1 ⟨rfl, hb1⟩
  have hbw := hal.trans (hb1.mono hal.size)
  clear hb1 hal
  go_wp2
  go_ret
  exact ⟨rfl, hbw⟩
set_option maxRecDepth 20000 in
set_option maxHeartbeats 2000000 in
theorem eq_brs (v u : Value) (bs : Brs) (w : World) (hv : BrsOf w v bs) (hu : BrsOf w u bs) (hf : FineS bs) :
    Calls Tryd.prog 26 #[v, u] w fun e w' => e = .returned (.bool true) ∧ Below w.heap.size w w' := by
  have HV := hide hv
  have HU := hide hu
  have HF := hide hf
  obtain ⟨a1, cap1, rfl⟩ := hv.form
  obtain ⟨a2, cap2, rfl⟩ := hu.form
  have hnn : ((bs.length : Int) != (bs.length : Int)) = false := by simp
  have hn := hf.1
  clear hv hu hf
  go_enter Tryd.func26, Tryd.ntmps26
  go_wp2
  go_loopw [5] (fun i wr => ∃ k : Nat, k ≤ bs.length ∧ i = .int .i64 k ∧ Below w.heap.size w wr) (fun i _ => bs.length - (intOf i).toNat)
  case atStart => exact ⟨0, Nat.zero_le _, rfl, Below.refl _ _⟩
  case round =>
    obtain ⟨k, hk, rfl, hbw⟩ := hrel
    by_cases hlt : k < bs.length
    · obtain ⟨es, he⟩ : ∃ e, bs[k]? = some e := ⟨bs[k], List.getElem?_eq_getElem hlt⟩
      obtain ⟨b1, o1, rfl, hl1, x1, y1, hc1, hs1⟩ := HV.out.at he
      obtain ⟨b2, o2, rfl, hl2, x2, y2, hc2, hs2⟩ := HU.out.at he
      have d1 := cell_regrown ((hbw.cell (p := ⟨b1, o1 + k, none⟩) hl1).trans hc1)
      have d2 := cell_regrown ((hbw.cell (p := ⟨b2, o2 + k, none⟩) hl2).trans hc2)
      have hle := (HF.out.at he).1
      have HS1 := hide (hs1.below hbw)
      have HS2 := hide (hs2.below hbw)
      have hi0 : (0 : Int) ≤ (k : Int) := by omega
      have hi1 : (k : Int) < (bs.length : Int) := by omega
      have HE := hide (show ∀ dd os, Calls Tryd.prog 36 #[.agg #[.slice x1 es.length y1], .agg #[.slice x2 es.length y2]] (grow (redrawn wr dd) os) fun e' w'' => e' = .returned (.bool true) ∧ ∃ p : Regrown, w'' = grow (redrawn wr p.d) p.os from fun dd os => Calls.regrown_of (eq_branch _ _ es _ (HS1.out.below (below_regrown wr dd os)) (HS2.out.below (below_regrown wr dd os)) hle))
      clear hc1 hc2 hs1 hs2 he
      go_wp2
      refine wp_region_quiet_below (by kernel_rfl) (by kernel_rfl) ?_
      repeat (go_big_quiet_step (exact HE.out _ _))
      refine wpQuiet_nil ?_
      intro _ hw'
      obtain ⟨⟨dq, osq⟩, hw''⟩ := hw'
      subst hw''
      have hbw2 := hbw.trans ((below_regrown wr dq osq).mono hbw.size)
      clear HE d1 d2
      go_wp2
      go_roundw
      case rel => exact ⟨k + 1, by omega, by go_num, hbw2⟩
      case measure => simp [intOf]; omega
    · clear HV HU
      go_wp2
      go_ret
      exact ⟨rfl, hbw⟩
set_option maxHeartbeats 1000000 in
theorem eq_tell (v u : Value) (bs : Brs) (w : World) (hv : BrsOf w v bs) (hu : BrsOf w u bs) (hf : FineS bs) :
    Calls Tryd.prog 16 #[.agg #[v], .agg #[u]] w fun e w' => e = .returned (.bool true) ∧ Below w.heap.size w w' := by
  have HF := hide hf
  have hal := ((Below.refl w.heap.size w).alloc (Nat.le_refl _) (.cells #[v] 31)).alloc (by simp) (.cells #[u] 31)
  have HV := hide (hv.below hal)
  have HU := hide (hu.below hal)
  obtain ⟨a1, c1, rfl⟩ := hv.form
  obtain ⟨a2, c2, rfl⟩ := hu.form
  clear hv hu hf
  go_enter Tryd.func16, Tryd.ntmps16
  go_wp2_with fail
  refine (eq_brs _ _ bs _ HV.out HU.out HF.out).mono ?_
  rintro e w1 ⟨rfl, hb1⟩
  have hbw := hal.trans (hb1.mono hal.size)
  clear hb1 hal
  go_wp2
  go_ret
  exact ⟨rfl, hbw⟩
end Go.Proofs.YtfkeokglifpkoaaDoor

/-
  Texts that follow one another, joined: BrI, BrQ.
-/
import Derived.Test.YtfkeokglifpkoaaGreatDoorJoin21
import Derived.Test.YtfkeokglifpkoaaGreatDoorJoin25
import Derived.Lib.SliceRun
/-
  Whether a history is told by one of some branches, HasHistory and EventsIn in both texts. Condition of the program's: the table knownKinds reads as its text lays it.
-/
namespace Go.Proofs.YtfkeokglifpkoaaGreatDoor
open Go.RowKit M
open Go.Sort (grow)
namespace M
theorem GdT.fine {bs : Brs} (h : GdT bs) : ∀ b ∈ bs, b.length ≤ 60 := fun b hb => (h.2.1 b hb).short
theorem GdT.pl {bs : Brs} (h : GdT bs) : ∀ b ∈ bs, Pl b := fun b hb => (h.2.1 b hb).pl
/-- The closure of isTold over a history that lies in block g. -/
abbrev toldF (g : Nat) : Value := .func (Fn.func 140) #[] #[.pointer (some ⟨g, 0, none⟩)]
end M
set_option maxHeartbeats 1000000 in
theorem told_in (v u : Value) (h b : Evs) (g : Nat) (w : World) (hc : w.cell? ⟨g, 0, none⟩ = some v) (hg : g < w.heap.size) (hv : SliceOf w v h) (hu : SliceOf w u b) (s1 : h.length ≤ 1048576) (s2 : b.length ≤ 1048576) (p1 : Pl h) (p2 : Pl b) :
    Calls Tryz.prog 140 #[.agg #[u], .pointer (some ⟨g, 0, none⟩)] w fun e w' => e = .returned (.bool (com h b == h.length)) ∧ Below w.heap.size w w' := by
  have hal := (Below.refl w.heap.size w).alloc (Nat.le_refl _) (.cells #[u] 81)
  have HV := hide (hv.below hal)
  have HU := hide (hu.below hal)
  have hc2 := (hal.cell (p := ⟨g, 0, none⟩) hg).trans hc
  have H1 := hide p1
  have H2 := hide p2
  obtain ⟨a1, c1, rfl⟩ := hv.form
  obtain ⟨a2, c2, rfl⟩ := hu.form
  obtain ⟨z, hz⟩ : ∃ z, (com h b == h.length) = z := ⟨_, rfl⟩
  rw [hz]
  have HZ := hide hz
  clear hv hu hc hz p1 p2
  go_enter Tryz.func140, Tryz.ntmps140
  go_wp2_with fail
  refine (impl_beg _ _ h b _ HV.out HU.out s1 s2 H1.out H2.out).mono ?_
  rw [HZ.out]
  rintro e w2 ⟨rfl, hb2⟩
  have hbw := hal.trans (hb2.mono hal.size)
  clear hb2 hal
  go_wp2
  go_ret
  exact ⟨rfl, hbw⟩
set_option maxRecDepth 20000 in
set_option maxHeartbeats 2000000 in
theorem told_index (v u : Value) (bs : Brs) (h : Evs) (g : Nat) (w : World) (hv : BrsOf w v bs) (hc : w.cell? ⟨g, 0, none⟩ = some u) (hg : g < w.heap.size) (hu : SliceOf w u h) (hf : FineS bs) (s1 : h.length ≤ 1048576) (p1 : Pl h) (p2 : ∀ b ∈ bs, Pl b) :
    Calls Tryz.prog 172 #[v, toldF g] w fun e w' => (∃ r : Int, e = .returned (.int .i64 r) ∧ (0 ≤ r ↔ told bs h = true)) ∧ Below w.heap.size w w' := by
  have HV := hide hv
  have HC := hide hc
  have HU := hide hu
  have HF := hide hf
  have HP1 := hide p1
  have HP2 := hide p2
  have hn := hf.1
  obtain ⟨a, cap, rfl⟩ := hv.form
  clear hv hc hu hf p1 p2
  go_enter Tryz.func172, Tryz.ntmps172
  go_wp2
  go_loopw [8] (fun y wr => ∃ k : Nat, k ≤ bs.length ∧ y = .int .i64 (k : Int) ∧ Hid (∀ i b, i < k → bs[i]? = some b → com h b ≠ h.length) ∧ Below w.heap.size w wr) (fun y _ => bs.length - (intOf y).toNat)
  case atStart => exact ⟨0, Nat.zero_le _, rfl, hide (fun i b h => absurd h (Nat.not_lt_zero _)), Below.refl _ _⟩
  case round =>
    obtain ⟨k, hk, rfl, HP, hbw⟩ := hrel
    by_cases hlt : k < bs.length
    · obtain ⟨es, he⟩ : ∃ e, bs[k]? = some e := ⟨bs[k], List.getElem?_eq_getElem hlt⟩
      obtain ⟨b2, off, rfl, hlg, a2, c2, hcc, hs⟩ := HV.out.at he
      have hcw := (hbw.cell (p := ⟨b2, off + k, none⟩) hlg).trans hcc
      have hk0 : (0 : Int) ≤ (k : Int) := by omega
      have hk1 : (k : Int) < (bs.length : Int) := by omega
      have HH := hide (told_in u (.slice a2 es.length c2) h es g wr ((hbw.cell (p := ⟨g, 0, none⟩) hg).trans HC.out) (Nat.lt_of_lt_of_le hg hbw.size) (HU.out.below hbw) (hs.below hbw) s1 (HF.out.at he).1 HP1.out (HP2.out es (List.mem_of_getElem? he)))
      have HE := hide he
      clear hcc hs he
      by_cases hz : com h es = h.length
      · have hzb : (com h es == h.length) = true := by simp [hz]
        rw [hzb] at HH
        have HT := hide (told_iff.2 ⟨es, List.mem_of_getElem? HE.out, hz⟩)
        clear hz hzb HP HF
        go_wp2_with fail
        refine HH.out.mono ?_
        rintro e w2 ⟨rfl, hb2⟩
        have hbw2 := hbw.trans (hb2.mono hbw.size)
        clear HH hb2
        go_wp2
        go_ret
        exact ⟨⟨_, rfl, fun _ => HT.out, fun _ => by omega⟩, hbw2⟩
      · have hzb : (com h es == h.length) = false := by simp [hz]
        rw [hzb] at HH
        have HP2' := hide (show ∀ i b, i < k + 1 → bs[i]? = some b → com h b ≠ h.length from fun i b hi hb => by
          by_cases c : i = k
          · subst c; rw [HE.out] at hb; simp only [Option.some.injEq] at hb; subst hb; exact hz
          · exact HP.out i b (by omega) hb)
        clear hz hzb HP HF
        go_wp2_with fail
        refine HH.out.mono ?_
        rintro e w2 ⟨rfl, hb2⟩
        have hbw2 := hbw.trans (hb2.mono hbw.size)
        clear HH hb2
        go_wp2
        exact ⟨⟨k + 1, by omega, by go_num, HP2', hbw2⟩, by simp [intOf]; omega⟩
    · obtain rfl : k = bs.length := by omega
      have HT := hide (show ¬ told bs h = true from fun ht => by
        obtain ⟨b, hb, hc⟩ := told_iff.1 ht
        obtain ⟨i, hi, rfl⟩ := List.mem_iff_getElem.1 hb
        exact HP.out i _ hi (List.getElem?_eq_getElem hi) hc)
      clear HV HP HF
      go_wp2
      go_ret
      exact ⟨⟨_, rfl, fun h => by omega, fun h => absurd h HT.out⟩, hbw⟩
set_option maxHeartbeats 1000000 in
theorem is_told (v u : Value) (bs : Brs) (h : Evs) (w : World) (hv : BrsOf w v bs) (hu : SliceOf w u h) (hf : FineS bs) (s1 : h.length ≤ 1048576) (p1 : Pl h) (p2 : ∀ b ∈ bs, Pl b) :
    Calls Tryz.prog 91 #[v, u] w fun e w' => e = .returned (.bool (told bs h)) ∧ Below w.heap.size w w' := by
  have hal := (Below.refl w.heap.size w).alloc (Nat.le_refl _) (.cells #[u] 69)
  have HV := hide (hv.below hal)
  have HU := hide (hu.below hal)
  have HC := hide (one_new w u 69)
  have HF := hide hf
  have HP1 := hide p1
  have HP2 := hide p2
  obtain ⟨a1, c1, rfl⟩ := hv.form
  obtain ⟨a2, c2, rfl⟩ := hu.form
  clear hv hu hf p1 p2
  obtain ⟨z, hz⟩ : ∃ z, told bs h = z := ⟨_, rfl⟩
  have HI := hide (told_index (.slice a1 bs.length c1) (.slice a2 h.length c2) bs h w.heap.size _ HV.out HC.out (by simp) HU.out HF.out s1 HP1.out HP2.out)
  rw [hz] at HI ⊢
  clear hz
  have hbI : Calls Tryz.prog 139 #[.slice a1 bs.length c1, toldF w.heap.size] (w.alloc (.cells #[.slice a2 h.length c2] 69)) fun e w' => e = .returned (.bool z) ∧ Below (w.alloc (.cells #[.slice a2 h.length c2] 69)).heap.size (w.alloc (.cells #[.slice a2 h.length c2] 69)) w' := by
    clear HV HU HC HF HP1 HP2 hal
    generalize w.alloc (.cells #[.slice a2 h.length c2] 69) = W at *
    go_enter Tryz.func139, Tryz.ntmps139
    go_wp2_with fail
    refine HI.out.mono ?_
    rintro e w2 ⟨⟨x, rfl, hx⟩, hb2⟩
    have HX := hide (show decide (0 ≤ x) = z by rw [Bool.eq_iff_iff, decide_eq_true_eq, hx])
    clear hx HI
    go_wp2
    go_ret
    exact ⟨by rw [← HX.out]; rfl, hb2⟩
  have HCF := hide hbI
  clear hbI HI HV HU HC HF HP1 HP2
  go_enter Tryz.func91, Tryz.ntmps91
  go_wp2_with fail
  refine HCF.out.mono ?_
  rintro e w2 ⟨rfl, hb2⟩
  have hbw := hal.trans (hb2.mono hal.size)
  clear hb2 hal HCF
  go_wp2
  go_ret
  exact ⟨rfl, hbw⟩
set_option maxHeartbeats 2000000 in
theorem impl_has (v u : Value) (bs : Brs) (h : Evs) (b1 b2 : Bool) (w : World) (hv : BrsOf w v bs) (hu : SliceOf w u h) (hf : FineS bs) (s2 : SmE h) (hkk : KK w) (h1 : BP b1 (GdT bs)) (h2 : BP b2 (Tl h)) :
    Calls Tryz.prog 47 #[.agg #[v], u] w fun e w' => e = .returned (.tuple #[.bool (b1 && b2 && told bs h), .bool (b1 && b2)]) ∧ Below w.heap.size w w' := by
  have hal := (Below.refl w.heap.size w).alloc (Nat.le_refl _) (.cells #[v] 32)
  have HV := hide (hv.below hal)
  have HU := hide (hu.below hal)
  have HC := hide (show M.One (w.alloc (.cells #[v] 32)) w.heap.size v 32 from heap_alloc_new w _)
  have HF := hide hf
  have HS2 := hide s2
  have H1 := hide h1
  have H2 := hide h2
  have HK := hide (hkk.below hal)
  obtain ⟨a1, c1, rfl⟩ := hv.form
  obtain ⟨a2, c2, rfl⟩ := hu.form
  have d0 := HC.out.cell
  clear hv hu hf s2 h1 h2 hkk
  cases b1
  · go_enter Tryz.func47, Tryz.ntmps47
    go_wp2_with fail
    refine (impl_gt _ bs false _ HV.out HF.out HK.out H1.out).mono ?_
    rintro e w2 ⟨rfl, hb2⟩
    have hbw := hal.trans (hb2.mono hal.size)
    go_wp2
    go_ret2
    exact ⟨rfl, hbw⟩
  · have HG := hide (H1.out.1 rfl)
    cases b2
    · go_enter Tryz.func47, Tryz.ntmps47
      go_wp2_with fail
      refine (impl_gt _ bs true _ HV.out HF.out HK.out H1.out).mono ?_
      rintro e w2 ⟨rfl, hb2⟩
      go_wp2_with fail
      refine (impl_tl _ h false _ (HU.out.below hb2) HS2.out.1 HS2.out.2 (HK.out.below hb2) H2.out).mono ?_
      rintro e w3 ⟨rfl, hb3⟩
      have hbw := (hal.trans (hb2.mono hal.size)).trans (hb3.mono (Nat.le_trans hal.size hb2.size))
      go_wp2
      go_ret2
      exact ⟨rfl, hbw⟩
    · have HT := hide (H2.out.1 rfl)
      obtain ⟨z, hz⟩ : ∃ z, told bs h = z := ⟨_, rfl⟩
      rw [hz]
      have HZ := hide hz
      clear hz
      go_enter Tryz.func47, Tryz.ntmps47
      go_wp2_with fail
      refine (impl_gt _ bs true _ HV.out HF.out HK.out H1.out).mono ?_
      rintro e w2 ⟨rfl, hb2⟩
      go_wp2_with fail
      refine (impl_tl _ h true _ (HU.out.below hb2) HS2.out.1 HS2.out.2 (HK.out.below hb2) H2.out).mono ?_
      rintro e w3 ⟨rfl, hb3⟩
      have hba := hb2.trans (hb3.mono hb2.size)
      have hbw := hal.trans (hba.mono hal.size)
      clear d0 hb2 hb3
      have d0 := (HC.out.down hba).cell
      go_wp2_with fail
      refine (is_told _ _ bs h _ (HV.out.below hba) (HU.out.below hba) HF.out HS2.out.1 HT.out.pl HG.out.pl).mono ?_
      rw [HZ.out]
      rintro e w4 ⟨rfl, hb4⟩
      have hbz := hbw.trans (hb4.mono hbw.size)
      clear hb4 hbw hba d0
      go_wp2
      go_ret2
      exact ⟨rfl, hbz⟩
end Go.Proofs.YtfkeokglifpkoaaGreatDoor

/-
  Histories that go: the library's slices.DeleteFunc under the program's closure, over a row of the call's own.
-/
namespace Go.Proofs.YtfkeokglifpkoaaGreatDoor
open Go.RowKit M
open Go.Sort (grow)
namespace M
theorem zero_brs (n : Nat) : (Builtin.zeroCells (Value.agg #[.slice none 0 0]).cells n).toList = List.replicate n (.slice none 0 0) := by
  simp [Builtin.zeroCells, Value.cells]
  apply List.ext_getElem
  · simp
  · intro i h1 h2
    simp [Nat.mod_one]
theorem run_clear_brs (w : World) (ty : TypeId) (b o n c : Nat) (hn : 0 < n) (hc : ∀ j, j < n → (w.cell? ⟨b, o + j, none⟩).isSome = true) (hf : ∀ j, j < n → w.frozen? ⟨b, o + j, none⟩ = false) :
    (Builtin.clear_ #[30] ty #[.slice (some ⟨b, o, none⟩) n c]).run Tryz.prog w = .ok (.tuple #[]) (w.setCells b o (List.replicate n (.slice none 0 0))) := by
  obtain ⟨i0, hi, hz0, hz1, hz2⟩ := info_parts info_br
  have hst := run_storeCells_cells (P := Tryz.prog) b o (List.replicate n (.slice none 0 0)) 0 w (by simpa using hc) (by simpa using hf) (by intro v hv'; rw [List.eq_of_mem_replicate hv']; rfl)
  simp only [Nat.add_zero] at hst
  have hv : ∀ w, (zeroValue 81).run Tryz.prog w = .ok (.agg #[.slice none 0 0]) w := fun w => Tryz.zeroValue81 w
  obtain ⟨m, rfl⟩ : ∃ m, n = m + 1 := ⟨n - 1, by omega⟩
  have hzc := zero_brs (m + 1)
  simp [Builtin.clear_, run_underlying Tryz.underlying30, hv, hzc, hst]
theorem own1_parts {w : World} {B e g n cap : Nat} {xs : List Value} (h : w.ownsRow B e 1 (.slice (some ⟨g, 0, none⟩) n cap) n xs) : ∃ cur, w.heap[g]? = some (.cells cur e (0, 0)) ∧ cur.size = cap ∧ B ≤ g ∧ n ≤ cap ∧ cap ≤ maxLen ∧ cur.toList.take n = xs := by
  rcases h.2 with ⟨hv, _⟩ | ⟨g', cap', cur, hv, hB, hg, h1, h2, h3, h4⟩
  · simp at hv
  · simp only [Value.slice.injEq, Option.some.injEq, Addr.mk.injEq] at hv
    obtain ⟨⟨rfl, -, -⟩, -, rfl⟩ := hv
    exact ⟨cur, hg, by omega, hB, h1, h2, by rw [Nat.mul_one] at h4; exact h4⟩
theorem own1_len {w : World} {B e n : Nat} {v : Value} {xs : List Value} (h : w.ownsRow B e 1 v n xs) : xs.length = n := by rw [h.1]; omega
/-- Its first places, once what lies behind is cleared. -/
theorem own1_clear {w : World} {B e g n cap i : Nat} {xs : List Value} (h : w.ownsRow B e 1 (.slice (some ⟨g, 0, none⟩) n cap) n xs) (hi : i ≤ n) (vs : List Value) : (w.setCells g i vs).ownsRow B e 1 (.slice (some ⟨g, 0, none⟩) i cap) i (xs.take i) := by
  obtain ⟨cur, hg, hs, hB, hn, hm, ht⟩ := own1_parts h
  obtain ⟨c2, h2, h3⟩ := set_blkB vs i w cur hg
  refine ⟨by rw [List.length_take, own1_len h]; omega, .inr ⟨g, cap, c2, rfl, hB, h2, by omega, hm, by omega, ?_⟩⟩
  rw [Nat.mul_one]
  apply List.ext_getElem?
  intro j
  by_cases hj : j < i
  · rw [List.getElem?_take_of_lt hj, List.getElem?_take_of_lt hj, Array.getElem?_toList]
    have h4 : (w.setCells g i vs).cell? ⟨g, j, none⟩ = c2[j]? := rowB_cell h2 j
    have h5 : w.cell? ⟨g, j, none⟩ = cur[j]? := rowB_cell hg j
    rw [← h4, World.cell?_setCells_out _ _ _ _ _ (fun _ _ => .inl (by simp; omega)), h5, ← ht, List.getElem?_take_of_lt (by omega), Array.getElem?_toList]
  · rw [List.getElem?_eq_none (by rw [List.length_take]; omega), List.getElem?_eq_none (by rw [List.length_take]; omega)]
/-- Those that stay. -/
def kp (h : Evs) (ps : Prs) : Prs := ps.filter (fun p => !(com p.2 h == p.2.length))
theorem kp_bs (h : Evs) (ps : Prs) : bsP (kp h ps) = lft (bsP ps) h := by
  unfold kp bsP lft
  rw [List.filter_map]; rfl
theorem kp_le (h : Evs) (ps : Prs) : (kp h ps).length ≤ ps.length := List.length_filter_le _ _
theorem kp_snoc {h : Evs} {ps : Prs} {j : Nat} {p : Value × Evs} (hp : ps[j]? = some p) : kp h (ps.take (j + 1)) = kp h (ps.take j) ++ (if com p.2 h = p.2.length then [] else [p]) := by
  rw [take_snocB hp]
  unfold kp
  rw [List.filter_append]
  congr 1
  by_cases c : com p.2 h = p.2.length
  · simp [c]
  · simp [c]
theorem kp_all {h : Evs} {ps : Prs} {j : Nat} (hj : ∀ i p, i < j → ps[i]? = some p → com p.2 h ≠ p.2.length) : kp h (ps.take j) = ps.take j := by
  unfold kp
  rw [List.filter_eq_self]
  intro p hp
  obtain ⟨i, hi, rfl⟩ := List.mem_iff_getElem.1 hp
  rw [List.length_take] at hi
  rw [List.getElem_take]
  have := hj i (ps[i]'(by omega)) (by omega) (List.getElem?_eq_getElem _)
  simp [this]
/-- The closure of putBranch over a history that lies in block g. -/
abbrev goesF (g : Nat) : Value := .func (Fn.func 155) #[] #[.pointer (some ⟨g, 0, none⟩)]
end M
set_option maxHeartbeats 1000000 in
theorem goes_in (v u : Value) (h b : Evs) (g : Nat) (w : World) (hc : w.cell? ⟨g, 0, none⟩ = some v) (hg : g < w.heap.size) (hv : SliceOf w v h) (hu : SliceOf w u b) (s1 : h.length ≤ 1048576) (s2 : b.length ≤ 1048576) (p1 : Pl h) (p2 : Pl b) :
    Calls Tryz.prog 155 #[.agg #[u], .pointer (some ⟨g, 0, none⟩)] w fun e w' => e = .returned (.bool (com b h == b.length)) ∧ Below w.heap.size w w' := by
  have hal := (Below.refl w.heap.size w).alloc (Nat.le_refl _) (.cells #[u] 81)
  have HV := hide (hv.below hal)
  have HU := hide (hu.below hal)
  have hc2 := (hal.cell (p := ⟨g, 0, none⟩) hg).trans hc
  have H1 := hide p1
  have H2 := hide p2
  obtain ⟨a1, c1, rfl⟩ := hv.form
  obtain ⟨a2, c2, rfl⟩ := hu.form
  obtain ⟨z, hz⟩ : ∃ z, (com b h == b.length) = z := ⟨_, rfl⟩
  rw [hz]
  have HZ := hide hz
  clear hv hu hc hz p1 p2
  go_enter Tryz.func155, Tryz.ntmps155
  go_wp2_with fail
  refine (impl_beg _ _ b h _ HU.out HV.out s2 s1 H2.out H1.out).mono ?_
  rw [HZ.out]
  rintro e w2 ⟨rfl, hb2⟩
  have hbw := hal.trans (hb2.mono hal.size)
  clear hb2 hal
  go_wp2
  go_ret
  exact ⟨rfl, hbw⟩
namespace M
/-- What IndexFunc tells: the first that goes, or none. -/
def FstG (h : Evs) (bs : Brs) (e : Ending) : Prop := (∃ k b, e = .returned (.int .i64 ((k : Nat) : Int)) ∧ bs[k]? = some b ∧ com b h = b.length ∧ ∀ i x, i < k → bs[i]? = some x → com x h ≠ x.length) ∨ (e = .returned (.int .i64 (-1)) ∧ ∀ x ∈ bs, com x h ≠ x.length)
end M
set_option maxRecDepth 20000 in
set_option maxHeartbeats 2000000 in
theorem goes_index (v u : Value) (bs : Brs) (h : Evs) (g : Nat) (w : World) (hv : BrsOf w v bs) (hc : w.cell? ⟨g, 0, none⟩ = some u) (hg : g < w.heap.size) (hu : SliceOf w u h) (hf : FineS bs) (s1 : h.length ≤ 1048576) (p1 : Pl h) (p2 : ∀ b ∈ bs, Pl b) :
    Calls Tryz.prog 172 #[v, goesF g] w fun e w' => FstG h bs e ∧ Below w.heap.size w w' := by
  have HV := hide hv
  have HC := hide hc
  have HU := hide hu
  have HF := hide hf
  have HP1 := hide p1
  have HP2 := hide p2
  have hn := hf.1
  obtain ⟨a, cap, rfl⟩ := hv.form
  clear hv hc hu hf p1 p2
  go_enter Tryz.func172, Tryz.ntmps172
  go_wp2
  go_loopw [8] (fun y wr => ∃ k : Nat, k ≤ bs.length ∧ y = .int .i64 (k : Int) ∧ Hid (∀ i b, i < k → bs[i]? = some b → com b h ≠ b.length) ∧ Below w.heap.size w wr) (fun y _ => bs.length - (intOf y).toNat)
  case atStart => exact ⟨0, Nat.zero_le _, rfl, hide (fun i b h => absurd h (Nat.not_lt_zero _)), Below.refl _ _⟩
  case round =>
    obtain ⟨k, hk, rfl, HP, hbw⟩ := hrel
    by_cases hlt : k < bs.length
    · obtain ⟨es, he⟩ : ∃ e, bs[k]? = some e := ⟨bs[k], List.getElem?_eq_getElem hlt⟩
      obtain ⟨b2, off, rfl, hlg, a2, c2, hcc, hs⟩ := HV.out.at he
      have hcw := (hbw.cell (p := ⟨b2, off + k, none⟩) hlg).trans hcc
      have hk0 : (0 : Int) ≤ (k : Int) := by omega
      have hk1 : (k : Int) < (bs.length : Int) := by omega
      have HH := hide (goes_in u (.slice a2 es.length c2) h es g wr ((hbw.cell (p := ⟨g, 0, none⟩) hg).trans HC.out) (Nat.lt_of_lt_of_le hg hbw.size) (HU.out.below hbw) (hs.below hbw) s1 (HF.out.at he).1 HP1.out (HP2.out es (List.mem_of_getElem? he)))
      have HE := hide he
      clear hcc hs he
      by_cases hz : com es h = es.length
      · have hzb : (com es h == es.length) = true := by simp [hz]
        rw [hzb] at HH
        have HT := hide (show FstG h bs (.returned (.int .i64 ((k : Nat) : Int))) from .inl ⟨k, es, rfl, HE.out, hz, HP.out⟩)
        clear hz hzb HP HF
        go_wp2_with fail
        refine HH.out.mono ?_
        rintro e w2 ⟨rfl, hb2⟩
        have hbw2 := hbw.trans (hb2.mono hbw.size)
        clear HH hb2
        go_wp2
        go_ret
        exact ⟨HT.out, hbw2⟩
      · have hzb : (com es h == es.length) = false := by simp [hz]
        rw [hzb] at HH
        have HP2' := hide (show ∀ i b, i < k + 1 → bs[i]? = some b → com b h ≠ b.length from fun i b hi hb => by
          by_cases c : i = k
          · subst c; rw [HE.out] at hb; simp only [Option.some.injEq] at hb; subst hb; exact hz
          · exact HP.out i b (by omega) hb)
        clear hz hzb HP HF
        go_wp2_with fail
        refine HH.out.mono ?_
        rintro e w2 ⟨rfl, hb2⟩
        have hbw2 := hbw.trans (hb2.mono hbw.size)
        clear HH hb2
        go_wp2
        exact ⟨⟨k + 1, by omega, by go_num, HP2', hbw2⟩, by simp [intOf]; omega⟩
    · obtain rfl : k = bs.length := by omega
      have HT := hide (show FstG h bs (.returned (.int .i64 (-1))) from .inr ⟨rfl, fun x hx => by
        obtain ⟨i, hi, rfl⟩ := List.mem_iff_getElem.1 hx
        exact HP.out i _ hi (List.getElem?_eq_getElem hi)⟩)
      clear HV HP HF
      go_wp2
      go_ret
      exact ⟨HT.out, hbw⟩
namespace M
/-- Half done: the first i places hold those that stay of the first j, from j on all is as it was. -/
structure Hf (w : World) (B g n cap : Nat) (ps : Prs) (h : Evs) (i j : Nat) : Prop where
  row : ∃ xs, w.ownsRow B 81 1 (.slice (some ⟨g, 0, none⟩) n cap) n xs ∧ xs.take i = vsP (kp h (ps.take j)) ∧ xs.drop j = (vsP ps).drop j
  evs : ∀ p ∈ ps, OwnE w B p.1 p.2
  ij : i < j
  len : (kp h (ps.take j)).length = i
theorem Hf.down {w w' : World} {B g n cap : Nat} {ps : Prs} {h : Evs} {i j : Nat} (hh : Hf w B g n cap ps h i j) (hb : Below w.heap.size w w') : Hf w' B g n cap ps h i j := by
  obtain ⟨xs, h1, h2, h3⟩ := hh.row
  exact ⟨⟨xs, owns_below h1 hb, h2, h3⟩, fun p hp => (hh.evs p hp).down hb, hh.ij, hh.len⟩
theorem Hf.cell {w : World} {B g n cap : Nat} {ps : Prs} {h : Evs} {i j k : Nat} (hh : Hf w B g n cap ps h i j) {p : Value × Evs} (hp : ps[k]? = some p) (hk : j ≤ k) : w.cell? ⟨g, k, none⟩ = some p.1 := by
  obtain ⟨xs, h1, h2, h3⟩ := hh.row
  refine own1_cell h1 ?_
  have : (xs.drop j)[k - j]? = ((vsP ps).drop j)[k - j]? := by rw [h3]
  rw [List.getElem?_drop, List.getElem?_drop, show j + (k - j) = k by omega] at this
  rw [this]; exact vsP_at hp
theorem Hf.thaw {w : World} {B g n cap : Nat} {ps : Prs} {h : Evs} {i j : Nat} (hh : Hf w B g n cap ps h i j) (k : Nat) : w.frozen? ⟨g, k, none⟩ = false := by
  obtain ⟨xs, h1, -, -⟩ := hh.row
  exact own1_thaw h1 k
theorem Hf.anyc {w : World} {B g n cap : Nat} {ps : Prs} {h : Evs} {i j : Nat} (hh : Hf w B g n cap ps h i j) {k : Nat} (hk : k < n) : ∃ u, w.cell? ⟨g, k, none⟩ = some u := by
  obtain ⟨xs, h1, -, -⟩ := hh.row
  have hl := own1_len h1
  exact ⟨xs[k]'(by omega), own1_cell h1 (List.getElem?_eq_getElem _)⟩
theorem Hf.lt {w : World} {B g n cap : Nat} {ps : Prs} {h : Evs} {i j : Nat} (hh : Hf w B g n cap ps h i j) : g < w.heap.size := by
  obtain ⟨xs, h1, -, -⟩ := hh.row
  exact (own_lt h1 rfl).2
theorem Hf.skip {w : World} {B g n cap : Nat} {ps : Prs} {h : Evs} {i j : Nat} {p : Value × Evs} (hh : Hf w B g n cap ps h i j) (hp : ps[j]? = some p) (hc : com p.2 h = p.2.length) : Hf w B g n cap ps h i (j + 1) := by
  obtain ⟨xs, h1, h2, h3⟩ := hh.row
  have hk := kp_snoc (h := h) hp
  rw [if_pos hc, List.append_nil] at hk
  refine ⟨⟨xs, h1, by rw [hk]; exact h2, ?_⟩, hh.evs, by have := hh.ij; omega, by rw [hk]; exact hh.len⟩
  rw [← List.drop_drop, ← List.drop_drop, h3]
theorem Hf.put {w : World} {B g n cap : Nat} {ps : Prs} {h : Evs} {i j : Nat} {p : Value × Evs} (hh : Hf w B g n cap ps h i j) (hp : ps[j]? = some p) (hc : com p.2 h ≠ p.2.length) (hn : n = ps.length) : Hf (w.setCell ⟨g, i, none⟩ p.1) B g n cap ps h (i + 1) (j + 1) := by
  obtain ⟨xs, h1, h2, h3⟩ := hh.row
  have hk := kp_snoc (h := h) hp
  rw [if_neg hc] at hk
  have hij := hh.ij
  have hjl := (List.getElem?_eq_some_iff.1 hp).1
  have hxl := own1_len h1
  refine ⟨⟨xs.set i p.1, own1_set h1 i p.1, ?_, ?_⟩, fun q hq => ?_, by omega, by rw [hk, List.length_append, hh.len]; rfl⟩
  · rw [hk]
    have e : (xs.set i p.1).take (i + 1) = xs.take i ++ [p.1] := by
      rw [List.take_succ_eq_append_getElem (by rw [List.length_set]; omega), List.take_set_of_le (Nat.le_refl i), List.getElem_set_self]
    rw [e, h2]; simp [vsP]
  · rw [List.drop_set_of_lt (by omega), ← List.drop_drop, ← List.drop_drop, h3]
  · exact (hh.evs q hq).other (gbT_set (gbT_refl w (some g))) (fun b hb e => by
      simp only [Option.some.injEq] at e
      subst e
      exact owns_apart h1 (hh.evs q hq) (by decide) b rfl hb.symm)
theorem Hf.gb {w : World} {g i : Nat} {v : Value} : w.grownBy (w.setCell ⟨g, i, none⟩ v) (some g) := gbT_set (gbT_refl w (some g))
/-- At the end, what lies behind cleared. -/
theorem Hf.done {w : World} {B g n cap : Nat} {ps : Prs} {h : Evs} {i : Nat} (hh : Hf w B g n cap ps h i n) (hn : n = ps.length) (hap : ps.Pairwise (fun p q => Apt p.1 q.1)) (vs : List Value) : OwnP (w.setCells g i vs) B (.slice (some ⟨g, 0, none⟩) i cap) (kp h ps) := by
  obtain ⟨xs, h1, h2, h3⟩ := hh.row
  have hl := hh.len
  rw [hn, List.take_length] at hl h2
  refine ⟨?_, fun q hq => ?_, hap.sublist List.filter_sublist⟩
  · have := own1_clear h1 (i := i) (by have := hh.ij; omega) vs
    rw [h2] at this
    rw [hl]; exact this
  · have hq2 := hh.evs q (List.mem_filter.1 hq).1
    refine hq2.other (gbB_cells (g := g) vs i w) (fun b hb e => ?_)
    simp only [Option.some.injEq] at e
    subst e
    exact owns_apart h1 hq2 (by decide) b rfl hb.symm
theorem Hf.start {w : World} {B g cap : Nat} {ps : Prs} {h : Evs} {k : Nat} {p : Value × Evs} (ho : OwnP w B (.slice (some ⟨g, 0, none⟩) ps.length cap) ps) (hp : ps[k]? = some p) (hc : com p.2 h = p.2.length) (hf : ∀ i q, i < k → ps[i]? = some q → com q.2 h ≠ q.2.length) : Hf w B g ps.length cap ps h k (k + 1) := by
  have hk := kp_snoc (h := h) hp
  rw [if_pos hc, List.append_nil, kp_all hf] at hk
  have hkl := (List.getElem?_eq_some_iff.1 hp).1
  exact ⟨⟨vsP ps, ho.row, by rw [hk]; simp [vsP, List.map_take], rfl⟩, ho.evs, by omega, by rw [hk, List.length_take]; omega⟩
end M
set_option maxRecDepth 20000 in
set_option maxHeartbeats 4000000 in
theorem del_func (v u : Value) (ps : Prs) (h : Evs) (gh B : Nat) (w : World) (ho : OwnP w B v ps) (hc : w.cell? ⟨gh, 0, none⟩ = some u) (hu : SliceOf w u h) (hub : ∀ g, v.ownBlock = some g → g ≠ gh) (hus : ∀ w', w.grownBy w' v.ownBlock → SliceOf w' u h) (hn : ps.length ≤ 1048576) (hf : FineS (bsP ps)) (s1 : h.length ≤ 1048576) (p1 : Pl h) (p2 : ∀ b ∈ bsP ps, Pl b) :
    Calls Tryz.prog 154 #[v, goesF gh] w fun e w' => (∃ r, e = .returned r ∧ OwnP w' B r (kp h ps) ∧ (r.ownBlock = v.ownBlock)) ∧ w.grownBy w' v.ownBlock := by
  have hgl := World.block_lt_of_cell? w _ hc
  have HI := hide (goes_index v u (bsP ps) h gh w ho.brs hc hgl hu hf s1 p1 p2)
  have HO := hide ho
  have HC := hide hc
  have HUS := hide hus
  have HF := hide hf
  have HP1 := hide p1
  have HP2 := hide p2
  rcases ho.split with ⟨rfl, rfl⟩ | ⟨g, cap, rfl, hB, hgw, hlc, hcm⟩
  · clear ho hc hu hus hf p1 p2 HO HC HUS HF HP1 HP2
    go_enter Tryz.func154, Tryz.ntmps154
    go_wp2_with fail
    refine HI.out.mono ?_
    rintro e w2 ⟨hfst, hb2⟩
    rcases hfst with ⟨k, b, -, hb, -⟩ | ⟨rfl, -⟩
    · simp [bsP] at hb
    · have hg := gbT_below (gbT_refl w none) hb2
      clear hb2 HI
      go_wp2
      go_ret
      exact ⟨⟨_, rfl, OwnP.nil _ _, rfl⟩, hg⟩
  · unfold maxLen at hcm
    have hne : g ≠ gh := hub g rfl
    clear ho hc hu hus hf p1 p2 hub
    go_enter Tryz.func154, Tryz.ntmps154
    go_wp2_with fail
    refine HI.out.mono ?_
    rintro e w2 ⟨hfst, hb2⟩
    have hg2 := gbT_below (gbT_refl w (some g)) hb2
    rcases hfst with ⟨k, b, rfl, hkb, hcb, hfb⟩ | ⟨rfl, hno⟩
    · obtain ⟨u2, hk2⟩ := bsP_at hkb
      have hkl := (List.getElem?_eq_some_iff.1 hk2).1
      have HS := hide (Hf.start (h := h) (HO.out.down hb2) hk2 hcb (fun i q hi hq => hfb i q.2 hi (by unfold bsP; rw [List.getElem?_map, hq]; rfl)))
      have HG2 := hide hg2
      have hkn : ((k : Int) == -1) = false := by first | (simp; done) | (simp; omega)
      have HAP := hide HO.out.ap
      clear hfb hcb hkb hk2 hb2 hg2 HI HO
      go_wp2
      go_loopw [5, 6] (fun x y wr => ∃ i j : Nat, j ≤ ps.length ∧ x = .int .i64 i ∧ y = .int .i64 j ∧ i < j ∧ Hid (Hf wr B g ps.length cap ps h i j) ∧ Hid (w.grownBy wr (some g))) (fun _ y _ => ps.length - (intOf y).toNat)
      case atStart => exact ⟨k, k + 1, by omega, rfl, by go_num, by omega, HS, HG2⟩
      case round =>
        obtain ⟨i, j, hj, rfl, rfl, hij, HH, HG⟩ := hrel
        clear HS HG2
        by_cases hlt : j < ps.length
        · obtain ⟨u3, es, he⟩ : ∃ u es, ps[j]? = some (u, es) := ⟨ps[j].1, ps[j].2, List.getElem?_eq_getElem hlt⟩
          have hev := HH.out.evs (u3, es) (List.mem_of_getElem? he)
          have hsl : SliceOf wr u3 es := hev.slice
          obtain ⟨a3, c3, rfl⟩ := hsl.form
          have d1 := HH.out.cell he (Nat.le_refl j)
          have hal := (Below.refl wr.heap.size wr).alloc (Nat.le_refl _) (.cells #[.slice a3 es.length c3] 81)
          have hga := gbT_below HG.out hal
          have hgc : wr.cell? ⟨gh, 0, none⟩ = some u := by
            have := HG.out.block gh hgl (fun e => by simp only [Option.some.injEq] at e; exact hne e.symm)
            have hcw := HC.out
            simp only [World.cell?] at hcw ⊢
            rw [this]; exact hcw
          have hglr : gh < wr.heap.size := Nat.lt_of_lt_of_le hgl HG.out.size
          have hbm : es ∈ bsP ps := List.mem_of_getElem? (i := j) (by unfold bsP; rw [List.getElem?_map, he]; rfl)
          have HCL := hide (goes_in u (.slice a3 es.length c3) h es gh _ ((hal.cell (p := ⟨gh, 0, none⟩) hglr).trans hgc) (Nat.lt_of_lt_of_le hglr hal.size) (HUS.out _ hga) (hsl.below hal) s1 (HF.out.2 es hbm).1 HP1.out (HP2.out es hbm))
          have HHA := hide (HH.out.down hal)
          have HGA := hide hga
          have HB1 := hide (one_new wr (.slice a3 es.length c3) 81)
          have HE := hide he
          clear hev hsl hal hga hgc hbm HH HG he
          by_cases hz : com es h = es.length
          · have hzb : (com es h == es.length) = true := by simp [hz]
            rw [hzb] at HCL
            go_wp2_with fail
            refine HCL.out.mono ?_
            rintro e w4 ⟨rfl, hb4⟩
            have HH2 := hide ((HHA.out.down hb4).skip HE.out hz)
            have HG2 := hide (gbT_below HGA.out hb4)
            clear hb4 HCL hzb HHA HGA d1
            go_wp2
            go_roundw
            case rel => exact ⟨i, j + 1, by omega, rfl, by go_num, by omega, HH2, HG2⟩
            case measure => simp [intOf]; omega
          · have hzb : (com es h == es.length) = false := by simp [hz]
            rw [hzb] at HCL
            go_wp2_with fail
            refine HCL.out.mono ?_
            rintro e w4 ⟨rfl, hb4⟩
            have hH4 := HHA.out.down hb4
            obtain ⟨uo, hco⟩ := hH4.anyc (k := i) (by omega)
            have f4 := hH4.thaw i
            have e4 := (hb4.cell (p := ⟨wr.heap.size, 0, none⟩) (by simp)).trans HB1.out
            have HH2 := hide (hH4.put HE.out hz rfl)
            have HG2 := hide (show w.grownBy (w4.setCell ⟨g, i, none⟩ (.slice a3 es.length c3)) (some g) from gbT_set (gbT_below HGA.out hb4))
            have hi0 : (0 : Int) ≤ (i : Int) := by omega
            have hi1 : (i : Int) < (ps.length : Int) := by omega
            clear hb4 HCL hzb HHA HGA d1 hH4
            go_wp2
            go_roundw
            case rel => exact ⟨i + 1, j + 1, by omega, by go_num, by go_num, by omega, HH2, HG2⟩
            case measure => simp [intOf]; omega
        · obtain rfl : j = ps.length := by omega
          have hi0 : (0 : Int) ≤ (i : Int) := by omega
          have hi1 : (i : Int) ≤ (ps.length : Int) := by omega
          have hi2 : (i : Int) ≤ (cap : Int) := by omega
          have hi3 : i ≤ cap := by omega
          have hi4 : i ≤ ps.length := by omega
          have hcl := fun ty c' => run_clear_brs wr ty g i (ps.length - i) c' (by omega) (fun q hq => by obtain ⟨x, hx⟩ := HH.out.anyc (k := i + q) (by omega); rw [hx]; rfl) (fun q _ => HH.out.thaw (i + q))
          have HD := hide (HH.out.done rfl HAP.out (List.replicate (ps.length - i) (.slice none 0 0)))
          have HG3 := hide (show w.grownBy (wr.setCells g i (List.replicate (ps.length - i) (.slice none 0 0))) (some g) from gbB_trans HG.out (gbB_cells _ _ _))
          clear HH HG
          go_wp2
          go_ret
          exact ⟨⟨_, rfl, HD.out, rfl⟩, HG3.out⟩
    · have HK := hide (show OwnP w2 B (.slice (some ⟨g, 0, none⟩) ps.length cap) (kp h ps) by
        have e : kp h ps = ps := by
          unfold kp
          rw [List.filter_eq_self]
          intro p hp
          have := hno p.2 (List.mem_map_of_mem hp)
          simp [this]
        rw [e]; exact HO.out.down hb2)
      clear hno hb2 HI HO
      go_wp2
      go_ret
      exact ⟨⟨_, rfl, HK.out, rfl⟩, hg2⟩
end Go.Proofs.YtfkeokglifpkoaaGreatDoor

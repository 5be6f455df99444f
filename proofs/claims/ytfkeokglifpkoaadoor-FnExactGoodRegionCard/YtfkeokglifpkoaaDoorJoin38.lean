/-
  Places in an order of histories: rows of values behind an interface, the order of branches, whether a row rises, and how many of some that rise stand ahead of another one.
-/
import Derived.Test.YtfkeokglifpkoaaDoorJoin37
import Derived.Test.YtfkeokglifpkoaaDoorJoin15
import Derived.Deep.RegionWith
namespace Go.Proofs.YtfkeokglifpkoaaDoor
open Go.RowKit M
open Go.Sort (grow)
namespace M
/-- Histories that stand behind an interface, each under one name. -/
def stn (T : TypeId) (us : List Value) : List Value := us.map (fun u => .iface T (.agg #[u]))
theorem stn_len (T : TypeId) (us : List Value) : (stn T us).length = us.length := by simp [stn]
theorem stn_at {T : TypeId} {us : List Value} {i : Nat} {u : Value} (h : us[i]? = some u) : (stn T us)[i]? = some (.iface T (.agg #[u])) := by simp [stn, h]
theorem stn_app (T : TypeId) (us : List Value) (u : Value) : stn T (us ++ [u]) = stn T us ++ [.iface T (.agg #[u])] := by simp [stn]
/-- A row of them in memory. -/
def StdOf (T : TypeId) (w : World) (v : Value) (bs : Brs) : Prop :=
  ∃ a cap, v = .slice a bs.length cap ∧ (0 < bs.length → ∃ b off, a = some ⟨b, off, none⟩ ∧ b < w.heap.size ∧ ∀ (i : Nat) es, bs[i]? = some es → ∃ u, w.cell? ⟨b, off + i, none⟩ = some (.iface T (.agg #[u])) ∧ SliceOf w u es)
theorem StdOf.below {T : TypeId} {w w' : World} {v : Value} {bs : Brs} (h : StdOf T w v bs) (hb : Below w.heap.size w w') : StdOf T w' v bs := by
  obtain ⟨a, cap, hv, hr⟩ := h
  refine ⟨a, cap, hv, fun hp => ?_⟩
  obtain ⟨b, off, ha, hlt, hrow⟩ := hr hp
  refine ⟨b, off, ha, Nat.lt_of_lt_of_le hlt hb.size, fun i es hi => ?_⟩
  obtain ⟨u, hu, hs⟩ := hrow i es hi
  exact ⟨u, (hb.cell (p := ⟨b, off + i, none⟩) hlt).trans hu, hs.below hb⟩
theorem StdOf.form {T : TypeId} {w : World} {v : Value} {bs : Brs} (h : StdOf T w v bs) : ∃ a cap, v = .slice a bs.length cap := by
  obtain ⟨a, cap, hv, _⟩ := h; exact ⟨a, cap, hv⟩
theorem StdOf.at {T : TypeId} {w : World} {a : Option Addr} {n cap : Nat} {bs : Brs} (h : StdOf T w (.slice a n cap) bs) {i : Nat} {es : Evs} (hi : bs[i]? = some es) : ∃ b off, a = some ⟨b, off, none⟩ ∧ b < w.heap.size ∧ ∃ a' c', w.cell? ⟨b, off + i, none⟩ = some (.iface T (.agg #[.slice a' es.length c'])) ∧ SliceOf w (.slice a' es.length c') es := by
  obtain ⟨a2, cap2, hv, hr⟩ := h
  simp only [Value.slice.injEq] at hv
  obtain ⟨rfl, rfl, rfl⟩ := hv
  have hl := (List.getElem?_eq_some_iff.1 hi).1
  obtain ⟨b, off, ha, hlt, hrow⟩ := hr (by omega)
  obtain ⟨u, hu, hs⟩ := hrow i es hi
  obtain ⟨a', c', rfl⟩ := hs.form
  exact ⟨b, off, ha, hlt, a', c', hu, hs⟩
/-- Values that hold histories one by one. -/
def Hds (w : World) (us : List Value) (bs : Brs) : Prop := us.length = bs.length ∧ ∀ (i : Nat) u es, us[i]? = some u → bs[i]? = some es → SliceOf w u es
theorem Hds.nil (w : World) : Hds w [] [] := ⟨rfl, fun i u es h => by simp at h⟩
theorem Hds.below {w w' : World} {us : List Value} {bs : Brs} (h : Hds w us bs) (hb : Below w.heap.size w w') : Hds w' us bs := ⟨h.1, fun i u es hu he => (h.2 i u es hu he).below hb⟩
theorem Hds.snoc {w : World} {us : List Value} {bs : Brs} {u : Value} {es : Evs} (h : Hds w us bs) (hu : SliceOf w u es) : Hds w (us ++ [u]) (bs ++ [es]) := by
  refine ⟨by simp [h.1], fun i x y hx hy => ?_⟩
  by_cases hi : i < us.length
  · rw [List.getElem?_append_left hi] at hx
    rw [List.getElem?_append_left (by rw [← h.1]; exact hi)] at hy
    exact h.2 i x y hx hy
  · have hl := (List.getElem?_eq_some_iff.1 hx).1
    simp at hl
    obtain rfl : i = us.length := by omega
    rw [List.getElem?_append_right (by omega)] at hx
    rw [h.1, List.getElem?_append_right (by omega)] at hy
    simp at hx hy
    subst hx; subst hy; exact hu
theorem std_of {T e : TypeId} {w : World} {B : Nat} {v : Value} {us : List Value} {bs : Brs} (h : w.ownsRow B e 1 v us.length (stn T us)) (hd : Hds w us bs) : StdOf T w v bs := by
  obtain ⟨a, cap, hv, hr⟩ := own_cells h (by rw [stn_len]; omega)
  refine ⟨a, cap, by rw [← hd.1]; exact hv, fun hp => ?_⟩
  obtain ⟨g, ha, _, hlt, hc⟩ := hr (by rw [hd.1]; exact hp)
  refine ⟨g, 0, ha, hlt, fun i es hi => ?_⟩
  have hl := (List.getElem?_eq_some_iff.1 hi).1
  obtain ⟨u, hu⟩ : ∃ u, us[i]? = some u := ⟨us[i]'(by rw [hd.1]; exact hl), List.getElem?_eq_getElem _⟩
  exact ⟨u, by rw [Nat.zero_add]; exact hc i _ (stn_at hu), hd.2 i u es hu hi⟩
/-- A row rises up to a place. -/
def RsK (bs : Brs) (k : Nat) : Prop := ∀ (i : Nat) (a b : Evs), i + 1 < k → bs[i]? = some a → bs[i + 1]? = some b → cL a b < 0
theorem RsK.one {bs : Brs} {k : Nat} (hk : k ≤ 1) : RsK bs k := fun i a b h => by omega
theorem RsK.succ {bs : Brs} {k : Nat} {a b : Evs} (h : RsK bs (k + 1)) (ha : bs[k]? = some a) (hb : bs[k + 1]? = some b) (hl : cL a b < 0) : RsK bs (k + 2) := fun i x y hi hx hy => by
  by_cases c : i = k
  · subst c; rw [ha] at hx; rw [hb] at hy
    simp only [Option.some.injEq] at hx hy
    subst hx; subst hy; exact hl
  · exact h i x y (by omega) hx hy
theorem RsK.bad {bs : Brs} {k : Nat} {a b : Evs} (ha : bs[k]? = some a) (hb : bs[k + 1]? = some b) (hl : ¬ cL a b < 0) : ¬ RsK bs bs.length := fun h => hl (h k a b (List.getElem?_eq_some_iff.1 hb).1 ha hb)
end M
theorem info_std : (Tryd.prog.info? 79).map (fun i => (i.zero, i.size, i.bytes)) = some (some .nilIface, 1, 16) := by kernel_rfl
theorem as_ev (v : Value) (w : World) : (Instr.typeAssert (.iface 82 v) 79 82 true).run Tryd.prog w = .ok (.tuple #[v, .bool true]) w := by kernel_rfl
theorem cm_ev (v : Value) (w : World) : (method 255 82 (.agg #[v]) "loop.example/g00269/impl.isAhead").run Tryd.prog w = .ok (105, .agg #[v]) w := by kernel_rfl
set_option maxHeartbeats 1000000 in
theorem ahead_ev (v u : Value) (a b : Evs) (w : World) (hv : SliceOf w v a) (hu : SliceOf w u b) (ha : a.length ≤ 1048576) (hb : b.length ≤ 1048576) :
    Calls Tryd.prog 105 #[.agg #[v], .iface 82 (.agg #[u])] w fun e w' => e = .returned (.bool (decide (cL a b < 0))) ∧ Below w.heap.size w w' := by
  have hal := ((Below.refl w.heap.size w).alloc (Nat.le_refl _) (.cells #[v] 82)).alloc (by simp) (.cells #[u] 82)
  have HV := hide (hv.below hal)
  have HU := hide (hu.below hal)
  have has := fun x W => as_ev x W
  obtain ⟨a1, c1, rfl⟩ := hv.form
  obtain ⟨a2, c2, rfl⟩ := hu.form
  clear hv hu
  go_enter Tryd.func105, Tryd.ntmps105
  go_wp2_with fail
  refine (cmp_func _ _ a b _ HV.out HU.out ha hb).mono ?_
  rintro e w2 ⟨rfl, hb2⟩
  have hbw := hal.trans (hb2.mono hal.size)
  clear hb2 hal
  go_wp2
  go_ret
  exact ⟨rfl, hbw⟩
set_option maxRecDepth 20000 in
set_option maxHeartbeats 2000000 in
/-- The places of branches in their order. -/
theorem in_events (v : Value) (bs : Brs) (w : World) (hv : BrsOf w v bs) (hn : bs.length ≤ 1048576) :
    Calls Tryd.prog 34 #[v] w fun e w' => (∃ r, e = .returned r ∧ StdOf 82 w' r bs) ∧ Below w.heap.size w w' := by
  have HV := hide hv
  obtain ⟨a, cap, rfl⟩ := hv.form
  clear hv
  go_enter Tryd.func34, Tryd.ntmps34
  go_wp2
  go_loopw [3, 8] (fun x i wr => ∃ (k : Nat) (us : List Value) (a' : Option Addr) (c' : Nat), k ≤ bs.length ∧ i = .int .i64 k ∧ x = .slice a' k c' ∧ Hid (us.length = k) ∧ Hid (wr.ownsRow w.heap.size 79 1 (.slice a' k c') k (stn 82 us)) ∧ Hid (Hds w us (bs.take k)) ∧ Below w.heap.size w wr) (fun _ i _ => bs.length - (intOf i).toNat)
  case atStart => exact ⟨0, [], none, 0, Nat.zero_le _, rfl, rfl, hide rfl, hide ⟨rfl, .inl ⟨rfl, rfl⟩⟩, hide (Hds.nil _), Below.refl _ _⟩
  case round =>
    obtain ⟨k, us, a', c', hk, rfl, rfl, HU, HO, HD, hbw⟩ := hrel
    by_cases hlt : k < bs.length
    · obtain ⟨es, he⟩ : ∃ e, bs[k]? = some e := ⟨bs[k], List.getElem?_eq_getElem hlt⟩
      obtain ⟨b, off, rfl, hlb, a2, c2, hc, hs⟩ := HV.out.at he
      have hcw := (hbw.cell (p := ⟨b, off + k, none⟩) hlb).trans hc
      have hal := (Below.refl wr.heap.size wr).alloc (Nat.le_refl _) (.cells #[.slice a2 es.length c2] 43)
      have hal2 := hal.alloc (by simp) (.cells #[.iface 82 (.agg #[.slice a2 es.length c2])] 79)
      have HO2 := hide (owns_below HO.out hal2)
      have HD2 := hide (show Hds w (us ++ [.slice a2 es.length c2]) (bs.take (k + 1)) by rw [take_snocB he]; exact HD.out.snoc hs)
      have HU2 := hide (show (us ++ [Value.slice a2 es.length c2]).length = k + 1 by rw [List.length_append, HU.out]; rfl)
      have hbw2 := hbw.trans (hal2.mono hbw.size)
      have hc1 : ((wr.alloc (.cells #[.slice a2 es.length c2] 43)).alloc (.cells #[.iface 82 (.agg #[.slice a2 es.length c2])] 79)).cell? ⟨wr.heap.size + 1, 0, none⟩ = some (.iface 82 (.agg #[.slice a2 es.length c2])) := by
        have := (one_new (wr.alloc (.cells #[.slice a2 es.length c2] 43)) (.iface 82 (.agg #[.slice a2 es.length c2])) 79)
        rw [World.size_alloc] at this; exact this
      have HC := hide hc1
      have hsz := hbw2.size
      clear hs he hal hal2 HO HD hc1 HU hc
      go_wp2_with (at_builtin; refine wpList_put1 _ rfl _ _ 66 79 .nilIface 16 Tryd.underlying66 info_std rfl (by decide) rfl w.heap.size k (stn 82 us) _ _ rfl HO2.out _ _ _ rfl HC.out rfl (by omega) hsz ?_)
      intro a3 c3 w3 hO3 hg3 _
      have hbw3 : Below w.heap.size w w3 := hbw2.grown hg3 hsz (fun j hj => (own_lt HO2.out hj).1)
      have HO3 := hide (show w3.ownsRow w.heap.size 79 1 (.slice a3 (k + 1) c3) (k + 1) (stn 82 (us ++ [.slice a2 es.length c2])) from by rw [stn_app]; exact hO3)
      clear hO3 hg3 HO2 HC hbw2 hsz
      go_wp2
      exact ⟨⟨k + 1, us ++ [.slice a2 es.length c2], a3, c3, by omega, by go_num, by go_num, HU2, HO3, HD2, hbw3⟩, by simp [intOf]; omega⟩
    · obtain rfl : k = bs.length := by omega
      have hd := HD.out.below hbw
      rw [List.take_length] at hd
      have ho := HO.out
      rw [← HU.out] at ho
      have HS := hide (show StdOf 82 wr (.slice a' bs.length c') bs by rw [← HU.out]; exact std_of ho hd)
      clear hd ho HV HO HD HU
      go_wp2
      go_ret
      exact ⟨⟨_, rfl, HS.out⟩, hbw⟩
set_option maxRecDepth 20000 in
set_option maxHeartbeats 4000000 in
theorem stand_rising (v : Value) (bs : Brs) (b : Bool) (w : World) (hv : StdOf 82 w v bs) (hf : FineS bs) (hb : BP b (RsK bs bs.length)) :
    Calls Tryd.prog 33 #[v] w fun e w' => e = .returned (.bool b) ∧ Below w.heap.size w w' := by
  have HV := hide hv
  have HF := hide hf
  have HB := hide hb
  have hn := hf.1
  obtain ⟨a, cap, rfl⟩ := hv.form
  clear hv hf hb
  go_enter Tryd.func33, Tryd.ntmps33
  go_wp2
  go_loopw [3] (fun i wr => ∃ k : Nat, i = .int .i64 ((k + 1 : Nat) : Int) ∧ k ≤ bs.length ∧ Hid (RsK bs (k + 1)) ∧ Below w.heap.size w wr) (fun i _ => bs.length - (intOf i).toNat)
  case atStart => exact ⟨0, rfl, Nat.zero_le _, hide (RsK.one (by omega)), Below.refl _ _⟩
  case round =>
    obtain ⟨k, rfl, hk, HR, hbw⟩ := hrel
    by_cases hlt : k + 1 < bs.length
    · obtain ⟨x, hx⟩ : ∃ x, bs[k]? = some x := ⟨bs[k], List.getElem?_eq_getElem (by omega)⟩
      obtain ⟨y, hy⟩ : ∃ y, bs[k + 1]? = some y := ⟨bs[k + 1], List.getElem?_eq_getElem hlt⟩
      obtain ⟨g, off, rfl, hlg, a1, c1, hc1, hs1⟩ := HV.out.at hx
      obtain ⟨g', off', hgg, -, a2, c2, hc2, hs2⟩ := HV.out.at hy
      simp only [Option.some.injEq, Addr.mk.injEq, and_true] at hgg
      obtain ⟨rfl, rfl⟩ := hgg
      have d1 := (hbw.cell (p := ⟨g, off + k, none⟩) hlg).trans hc1
      have d2 := (hbw.cell (p := ⟨g, off + (k + 1), none⟩) hlg).trans hc2
      have hl1 := (HF.out.at hx).1
      have hl2 := (HF.out.at hy).1
      have hcm := fun u W => cm_ev u W
      have hkI : ((k + 1 : Nat) : Int) - 1 = (k : Int) := by omega
      have hkJ : (k : Int) + 1 - 1 = (k : Int) := by omega
      have hi0 : (0 : Int) ≤ (k : Int) := by omega
      have hi1 : (k : Int) < (bs.length : Int) := by omega
      have hi2 : (0 : Int) ≤ (k : Int) + 1 := by omega
      have hi3 : (k : Int) + 1 < (bs.length : Int) := by omega
      have hi4 : ((k : Int) + 1).toNat = k + 1 := by omega
      have hi5 : k < bs.length := by omega
      have hw1 : IntKind.i64.wrap (k : Int) = (k : Int) := by rw [IntKind.wrap_i64]; omega
      have hw2 : IntKind.i64.wrap ((k + 1 : Nat) : Int) = ((k + 1 : Nat) : Int) := by rw [IntKind.wrap_i64]; omega
      have hi6 : (0 : Int) ≤ ((k + 1 : Nat) : Int) := by omega
      have hi7 : ((k + 1 : Nat) : Int) < (bs.length : Int) := by omega
      have HE := hide (fun W (hb : Below wr.heap.size wr W) => ahead_ev (.slice a1 x.length c1) (.slice a2 y.length c2) x y W (hs1.below (hbw.trans (hb.mono hbw.size))) (hs2.below (hbw.trans (hb.mono hbw.size))) hl1 hl2)
      have HX := hide hx
      have HY := hide hy
      clear hx hy hs1 hs2 hc1 hc2 hl1 hl2
      by_cases hz : cL x y < 0
      · have hzd : decide (cL x y < 0) = true := decide_eq_true hz
        rw [hzd] at HE
        have HN := hide (HR.out.succ HX.out HY.out hz)
        clear hz hzd HR HX HY HB HF
        go_upto_region 4 with fail
        go_region_with (go_at_call 105; refine (HE.out _ (by first | with_reducible exact (Below.refl _ _).drew | with_reducible exact Below.refl _ _)).mono ?_; rintro e w2 ⟨rfl, hb2⟩)
        all_goals
          have hbw2 := hbw.trans (((Below.refl wr.heap.size wr).drew.trans hb2).mono hbw.size)
          clear hb2 HE
          go_wp2
          go_roundw
          case rel => exact ⟨k + 1, by go_num, by omega, HN, hbw2⟩
          case measure => simp [intOf]; omega
      · have hzd : decide (cL x y < 0) = false := decide_eq_false hz
        rw [hzd] at HE
        have HN := hide (HB.out.no (RsK.bad HX.out HY.out hz))
        clear hz hzd HR HX HY HB HF
        go_upto_region 4 with fail
        go_region_with (go_at_call 105; refine (HE.out _ (by first | with_reducible exact (Below.refl _ _).drew | with_reducible exact Below.refl _ _)).mono ?_; rintro e w2 ⟨rfl, hb2⟩)
        all_goals
          have hbw2 := hbw.trans (((Below.refl wr.heap.size wr).drew.trans hb2).mono hbw.size)
          clear hb2 HE
          go_wp2
          go_ret
          exact ⟨ret_bool HN.out.symm, hbw2⟩
    · have HN := hide (HB.out.yes (fun i p q hi hp hq => HR.out i p q (by omega) hp hq))
      clear HV HR HB HF
      go_wp2
      go_ret
      exact ⟨ret_bool HN.out.symm, hbw⟩
end Go.Proofs.YtfkeokglifpkoaaDoor

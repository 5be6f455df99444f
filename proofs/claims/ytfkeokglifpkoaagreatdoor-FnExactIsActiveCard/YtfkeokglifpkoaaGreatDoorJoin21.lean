/-
  Texts that follow one another, joined: BrG, BrH, BrHs, BrL.
-/
import Derived.Test.YtfkeokglifpkoaaGreatDoorJoin20
import Derived.Test.YtfkeokglifpkoaaGreatDoorJoin9
import Derived.Deep.RegionWith
/-
  Places in an order of histories: rows of values behind an interface, the order of branches, whether a row rises, and how many of some that rise stand ahead of another one.
-/
namespace Go.Proofs.YtfkeokglifpkoaaGreatDoor
open Go.RowKit M
open Go.Sort (grow)
namespace M
/-- Histories that stand behind an interface, each under one name. -/
def stn (T : TypeId) (us : List Value) : List Value := us.map (fun u => .iface T (.agg #[u]))
theorem stn_len (T : TypeId) (us : List Value) : (stn T us).length = us.length := by simp [stn]
theorem stn_at {T : TypeId} {us : List Value} {i : Nat} {u : Value} (h : us[i]? = some u) : (stn T us)[i]? = some (.iface T (.agg #[u])) := by simp [stn, h]
theorem stn_app (T : TypeId) (us : List Value) (u : Value) : stn T (us ++ [u]) = stn T us ++ [.iface T (.agg #[u])] := by simp [stn]
/-- A row of them in memory. -/
def StdOf (T : TypeId) (w : World) (v : Value) (bs : Brs) : Prop :=
  ∃ a cap, v = .slice a bs.length cap ∧ (0 < bs.length → ∃ b off, a = some ⟨b, off, none⟩ ∧ b < w.heap.size ∧ ∀ (i : Nat) es, bs[i]? = some es → ∃ u, w.cell? ⟨b, off + i, none⟩ = some (.iface T (.agg #[u])) ∧ SliceOf w u es)
theorem StdOf.below {T : TypeId} {w w' : World} {v : Value} {bs : Brs} (h : StdOf T w v bs) (hb : Below w.heap.size w w') : StdOf T w' v bs := by
  obtain ⟨a, cap, hv, hr⟩ := h
  refine ⟨a, cap, hv, fun hp => ?_⟩
  obtain ⟨b, off, ha, hlt, hrow⟩ := hr hp
  refine ⟨b, off, ha, Nat.lt_of_lt_of_le hlt hb.size, fun i es hi => ?_⟩
  obtain ⟨u, hu, hs⟩ := hrow i es hi
  exact ⟨u, (hb.cell (p := ⟨b, off + i, none⟩) hlt).trans hu, hs.below hb⟩
theorem StdOf.form {T : TypeId} {w : World} {v : Value} {bs : Brs} (h : StdOf T w v bs) : ∃ a cap, v = .slice a bs.length cap := by
  obtain ⟨a, cap, hv, _⟩ := h; exact ⟨a, cap, hv⟩
theorem StdOf.at {T : TypeId} {w : World} {a : Option Addr} {n cap : Nat} {bs : Brs} (h : StdOf T w (.slice a n cap) bs) {i : Nat} {es : Evs} (hi : bs[i]? = some es) : ∃ b off, a = some ⟨b, off, none⟩ ∧ b < w.heap.size ∧ ∃ a' c', w.cell? ⟨b, off + i, none⟩ = some (.iface T (.agg #[.slice a' es.length c'])) ∧ SliceOf w (.slice a' es.length c') es := by
  obtain ⟨a2, cap2, hv, hr⟩ := h
  simp only [Value.slice.injEq] at hv
  obtain ⟨rfl, rfl, rfl⟩ := hv
  have hl := (List.getElem?_eq_some_iff.1 hi).1
  obtain ⟨b, off, ha, hlt, hrow⟩ := hr (by omega)
  obtain ⟨u, hu, hs⟩ := hrow i es hi
  obtain ⟨a', c', rfl⟩ := hs.form
  exact ⟨b, off, ha, hlt, a', c', hu, hs⟩
/-- Values that hold histories one by one. -/
def Hds (w : World) (us : List Value) (bs : Brs) : Prop := us.length = bs.length ∧ ∀ (i : Nat) u es, us[i]? = some u → bs[i]? = some es → SliceOf w u es
theorem Hds.nil (w : World) : Hds w [] [] := ⟨rfl, fun i u es h => by simp at h⟩
theorem Hds.below {w w' : World} {us : List Value} {bs : Brs} (h : Hds w us bs) (hb : Below w.heap.size w w') : Hds w' us bs := ⟨h.1, fun i u es hu he => (h.2 i u es hu he).below hb⟩
theorem Hds.snoc {w : World} {us : List Value} {bs : Brs} {u : Value} {es : Evs} (h : Hds w us bs) (hu : SliceOf w u es) : Hds w (us ++ [u]) (bs ++ [es]) := by
  refine ⟨by simp [h.1], fun i x y hx hy => ?_⟩
  by_cases hi : i < us.length
  · rw [List.getElem?_append_left hi] at hx
    rw [List.getElem?_append_left (by rw [← h.1]; exact hi)] at hy
    exact h.2 i x y hx hy
  · have hl := (List.getElem?_eq_some_iff.1 hx).1
    simp at hl
    obtain rfl : i = us.length := by omega
    rw [List.getElem?_append_right (by omega)] at hx
    rw [h.1, List.getElem?_append_right (by omega)] at hy
    simp at hx hy
    subst hx; subst hy; exact hu
theorem std_of {T e : TypeId} {w : World} {B : Nat} {v : Value} {us : List Value} {bs : Brs} (h : w.ownsRow B e 1 v us.length (stn T us)) (hd : Hds w us bs) : StdOf T w v bs := by
  obtain ⟨a, cap, hv, hr⟩ := own_cells h (by rw [stn_len]; omega)
  refine ⟨a, cap, by rw [← hd.1]; exact hv, fun hp => ?_⟩
  obtain ⟨g, ha, _, hlt, hc⟩ := hr (by rw [hd.1]; exact hp)
  refine ⟨g, 0, ha, hlt, fun i es hi => ?_⟩
  have hl := (List.getElem?_eq_some_iff.1 hi).1
  obtain ⟨u, hu⟩ : ∃ u, us[i]? = some u := ⟨us[i]'(by rw [hd.1]; exact hl), List.getElem?_eq_getElem _⟩
  exact ⟨u, by rw [Nat.zero_add]; exact hc i _ (stn_at hu), hd.2 i u es hu hi⟩
/-- A row rises up to a place. -/
def RsK (bs : Brs) (k : Nat) : Prop := ∀ (i : Nat) (a b : Evs), i + 1 < k → bs[i]? = some a → bs[i + 1]? = some b → cL a b < 0
theorem RsK.one {bs : Brs} {k : Nat} (hk : k ≤ 1) : RsK bs k := fun i a b h => by omega
theorem RsK.succ {bs : Brs} {k : Nat} {a b : Evs} (h : RsK bs (k + 1)) (ha : bs[k]? = some a) (hb : bs[k + 1]? = some b) (hl : cL a b < 0) : RsK bs (k + 2) := fun i x y hi hx hy => by
  by_cases c : i = k
  · subst c; rw [ha] at hx; rw [hb] at hy
    simp only [Option.some.injEq] at hx hy
    subst hx; subst hy; exact hl
  · exact h i x y (by omega) hx hy
theorem RsK.bad {bs : Brs} {k : Nat} {a b : Evs} (ha : bs[k]? = some a) (hb : bs[k + 1]? = some b) (hl : ¬ cL a b < 0) : ¬ RsK bs bs.length := fun h => hl (h k a b (List.getElem?_eq_some_iff.1 hb).1 ha hb)
end M
theorem info_std : (Tryz.prog.info? 197).map (fun i => (i.zero, i.size, i.bytes)) = some (some .nilIface, 1, 16) := by kernel_rfl
theorem as_ev (v : Value) (w : World) : (Instr.typeAssert (.iface 182 v) 197 182 true).run Tryz.prog w = .ok (.tuple #[v, .bool true]) w := by kernel_rfl
theorem cm_ev (v : Value) (w : World) : (method 369 182 (.agg #[v]) "loop.example/g00269/impl.isAhead").run Tryz.prog w = .ok (234, .agg #[v]) w := by kernel_rfl
set_option maxHeartbeats 1000000 in
theorem ahead_ev (v u : Value) (a b : Evs) (w : World) (hv : SliceOf w v a) (hu : SliceOf w u b) (ha : a.length ≤ 1048576) (hb : b.length ≤ 1048576) :
    Calls Tryz.prog 234 #[.agg #[v], .iface 182 (.agg #[u])] w fun e w' => e = .returned (.bool (decide (cL a b < 0))) ∧ Below w.heap.size w w' := by
  have hal := ((Below.refl w.heap.size w).alloc (Nat.le_refl _) (.cells #[v] 182)).alloc (by simp) (.cells #[u] 182)
  have HV := hide (hv.below hal)
  have HU := hide (hu.below hal)
  have has := fun x W => as_ev x W
  obtain ⟨a1, c1, rfl⟩ := hv.form
  obtain ⟨a2, c2, rfl⟩ := hu.form
  clear hv hu
  go_enter Tryz.func234, Tryz.ntmps234
  go_wp2_with fail
  refine (cmp_func _ _ a b _ HV.out HU.out ha hb).mono ?_
  rintro e w2 ⟨rfl, hb2⟩
  have hbw := hal.trans (hb2.mono hal.size)
  clear hb2 hal
  go_wp2
  go_ret
  exact ⟨rfl, hbw⟩
set_option maxRecDepth 20000 in
set_option maxHeartbeats 2000000 in
/-- The places of branches in their order. -/
theorem in_events (v : Value) (bs : Brs) (w : World) (hv : BrsOf w v bs) (hn : bs.length ≤ 1048576) :
    Calls Tryz.prog 136 #[v] w fun e w' => (∃ r, e = .returned r ∧ StdOf 182 w' r bs) ∧ Below w.heap.size w w' := by
  have HV := hide hv
  obtain ⟨a, cap, rfl⟩ := hv.form
  clear hv
  go_enter Tryz.func136, Tryz.ntmps136
  go_wp2
  go_loopw [3, 8] (fun x i wr => ∃ (k : Nat) (us : List Value) (a' : Option Addr) (c' : Nat), k ≤ bs.length ∧ i = .int .i64 k ∧ x = .slice a' k c' ∧ Hid (us.length = k) ∧ Hid (wr.ownsRow w.heap.size 197 1 (.slice a' k c') k (stn 182 us)) ∧ Hid (Hds w us (bs.take k)) ∧ Below w.heap.size w wr) (fun _ i _ => bs.length - (intOf i).toNat)
  case atStart => exact ⟨0, [], none, 0, Nat.zero_le _, rfl, rfl, hide rfl, hide ⟨rfl, .inl ⟨rfl, rfl⟩⟩, hide (Hds.nil _), Below.refl _ _⟩
  case round =>
    obtain ⟨k, us, a', c', hk, rfl, rfl, HU, HO, HD, hbw⟩ := hrel
    by_cases hlt : k < bs.length
    · obtain ⟨es, he⟩ : ∃ e, bs[k]? = some e := ⟨bs[k], List.getElem?_eq_getElem hlt⟩
      obtain ⟨b, off, rfl, hlb, a2, c2, hc, hs⟩ := HV.out.at he
      have hcw := (hbw.cell (p := ⟨b, off + k, none⟩) hlb).trans hc
      have hal := (Below.refl wr.heap.size wr).alloc (Nat.le_refl _) (.cells #[.slice a2 es.length c2] 81)
      have hal2 := hal.alloc (by simp) (.cells #[.iface 182 (.agg #[.slice a2 es.length c2])] 197)
      have HO2 := hide (owns_below HO.out hal2)
      have HD2 := hide (show Hds w (us ++ [.slice a2 es.length c2]) (bs.take (k + 1)) by rw [take_snocB he]; exact HD.out.snoc hs)
      have HU2 := hide (show (us ++ [Value.slice a2 es.length c2]).length = k + 1 by rw [List.length_append, HU.out]; rfl)
      have hbw2 := hbw.trans (hal2.mono hbw.size)
      have hc1 : ((wr.alloc (.cells #[.slice a2 es.length c2] 81)).alloc (.cells #[.iface 182 (.agg #[.slice a2 es.length c2])] 197)).cell? ⟨wr.heap.size + 1, 0, none⟩ = some (.iface 182 (.agg #[.slice a2 es.length c2])) := by
        have := (one_new (wr.alloc (.cells #[.slice a2 es.length c2] 81)) (.iface 182 (.agg #[.slice a2 es.length c2])) 197)
        rw [World.size_alloc] at this; exact this
      have HC := hide hc1
      have hsz := hbw2.size
      clear hs he hal hal2 HO HD hc1 HU hc
      go_wp2_with (at_builtin; refine wpList_put1 _ rfl _ _ 158 197 .nilIface 16 Tryz.underlying158 info_std rfl (by decide) rfl w.heap.size k (stn 182 us) _ _ rfl HO2.out _ _ _ rfl HC.out rfl (by omega) hsz ?_)
      intro a3 c3 w3 hO3 hg3 _
      have hbw3 : Below w.heap.size w w3 := hbw2.grown hg3 hsz (fun j hj => (own_lt HO2.out hj).1)
      have HO3 := hide (show w3.ownsRow w.heap.size 197 1 (.slice a3 (k + 1) c3) (k + 1) (stn 182 (us ++ [.slice a2 es.length c2])) from by rw [stn_app]; exact hO3)
      clear hO3 hg3 HO2 HC hbw2 hsz
      go_wp2
      exact ⟨⟨k + 1, us ++ [.slice a2 es.length c2], a3, c3, by omega, by go_num, by go_num, HU2, HO3, HD2, hbw3⟩, by simp [intOf]; omega⟩
    · obtain rfl : k = bs.length := by omega
      have hd := HD.out.below hbw
      rw [List.take_length] at hd
      have ho := HO.out
      rw [← HU.out] at ho
      have HS := hide (show StdOf 182 wr (.slice a' bs.length c') bs by rw [← HU.out]; exact std_of ho hd)
      clear hd ho HV HO HD HU
      go_wp2
      go_ret
      exact ⟨⟨_, rfl, HS.out⟩, hbw⟩
set_option maxRecDepth 20000 in
set_option maxHeartbeats 4000000 in
theorem stand_rising (v : Value) (bs : Brs) (b : Bool) (w : World) (hv : StdOf 182 w v bs) (hf : FineS bs) (hb : BP b (RsK bs bs.length)) :
    Calls Tryz.prog 135 #[v] w fun e w' => e = .returned (.bool b) ∧ Below w.heap.size w w' := by
  have HV := hide hv
  have HF := hide hf
  have HB := hide hb
  have hn := hf.1
  obtain ⟨a, cap, rfl⟩ := hv.form
  clear hv hf hb
  go_enter Tryz.func135, Tryz.ntmps135
  go_wp2
  go_loopw [3] (fun i wr => ∃ k : Nat, i = .int .i64 ((k + 1 : Nat) : Int) ∧ k ≤ bs.length ∧ Hid (RsK bs (k + 1)) ∧ Below w.heap.size w wr) (fun i _ => bs.length - (intOf i).toNat)
  case atStart => exact ⟨0, rfl, Nat.zero_le _, hide (RsK.one (by omega)), Below.refl _ _⟩
  case round =>
    obtain ⟨k, rfl, hk, HR, hbw⟩ := hrel
    by_cases hlt : k + 1 < bs.length
    · obtain ⟨x, hx⟩ : ∃ x, bs[k]? = some x := ⟨bs[k], List.getElem?_eq_getElem (by omega)⟩
      obtain ⟨y, hy⟩ : ∃ y, bs[k + 1]? = some y := ⟨bs[k + 1], List.getElem?_eq_getElem hlt⟩
      obtain ⟨g, off, rfl, hlg, a1, c1, hc1, hs1⟩ := HV.out.at hx
      obtain ⟨g', off', hgg, -, a2, c2, hc2, hs2⟩ := HV.out.at hy
      simp only [Option.some.injEq, Addr.mk.injEq, and_true] at hgg
      obtain ⟨rfl, rfl⟩ := hgg
      have d1 := (hbw.cell (p := ⟨g, off + k, none⟩) hlg).trans hc1
      have d2 := (hbw.cell (p := ⟨g, off + (k + 1), none⟩) hlg).trans hc2
      have hl1 := (HF.out.at hx).1
      have hl2 := (HF.out.at hy).1
      have hcm := fun u W => cm_ev u W
      have hkI : ((k + 1 : Nat) : Int) - 1 = (k : Int) := by omega
      have hkJ : (k : Int) + 1 - 1 = (k : Int) := by omega
      have hi0 : (0 : Int) ≤ (k : Int) := by omega
      have hi1 : (k : Int) < (bs.length : Int) := by omega
      have hi2 : (0 : Int) ≤ (k : Int) + 1 := by omega
      have hi3 : (k : Int) + 1 < (bs.length : Int) := by omega
      have hi4 : ((k : Int) + 1).toNat = k + 1 := by omega
      have hi5 : k < bs.length := by omega
      have hw1 : IntKind.i64.wrap (k : Int) = (k : Int) := by rw [IntKind.wrap_i64]; omega
      have hw2 : IntKind.i64.wrap ((k + 1 : Nat) : Int) = ((k + 1 : Nat) : Int) := by rw [IntKind.wrap_i64]; omega
      have hi6 : (0 : Int) ≤ ((k + 1 : Nat) : Int) := by omega
      have hi7 : ((k + 1 : Nat) : Int) < (bs.length : Int) := by omega
      have HE := hide (fun W (hb : Below wr.heap.size wr W) => ahead_ev (.slice a1 x.length c1) (.slice a2 y.length c2) x y W (hs1.below (hbw.trans (hb.mono hbw.size))) (hs2.below (hbw.trans (hb.mono hbw.size))) hl1 hl2)
      have HX := hide hx
      have HY := hide hy
      clear hx hy hs1 hs2 hc1 hc2 hl1 hl2
      by_cases hz : cL x y < 0
      · have hzd : decide (cL x y < 0) = true := decide_eq_true hz
        rw [hzd] at HE
        have HN := hide (HR.out.succ HX.out HY.out hz)
        clear hz hzd HR HX HY HB HF
        go_upto_region 4 with fail
        go_region_with (go_at_call 234; refine (HE.out _ (by first | with_reducible exact (Below.refl _ _).drew | with_reducible exact Below.refl _ _)).mono ?_; rintro e w2 ⟨rfl, hb2⟩)
        all_goals
          have hbw2 := hbw.trans (((Below.refl wr.heap.size wr).drew.trans hb2).mono hbw.size)
          clear hb2 HE
          go_wp2
          go_roundw
          case rel => exact ⟨k + 1, by go_num, by omega, HN, hbw2⟩
          case measure => simp [intOf]; omega
      · have hzd : decide (cL x y < 0) = false := decide_eq_false hz
        rw [hzd] at HE
        have HN := hide (HB.out.no (RsK.bad HX.out HY.out hz))
        clear hz hzd HR HX HY HB HF
        go_upto_region 4 with fail
        go_region_with (go_at_call 234; refine (HE.out _ (by first | with_reducible exact (Below.refl _ _).drew | with_reducible exact Below.refl _ _)).mono ?_; rintro e w2 ⟨rfl, hb2⟩)
        all_goals
          have hbw2 := hbw.trans (((Below.refl wr.heap.size wr).drew.trans hb2).mono hbw.size)
          clear hb2 HE
          go_wp2
          go_ret
          exact ⟨ret_bool HN.out.symm, hbw2⟩
    · have HN := hide (HB.out.yes (fun i p q hi hp hq => HR.out i p q (by omega) hp hq))
      clear HV HR HB HF
      go_wp2
      go_ret
      exact ⟨ret_bool HN.out.symm, hbw⟩
end Go.Proofs.YtfkeokglifpkoaaGreatDoor

/-
  GoodTellings in both texts. Condition of the program's: the table knownKinds reads as its text lays it.
-/
namespace Go.Proofs.YtfkeokglifpkoaaGreatDoor
open Go.RowKit M
open Go.Sort (grow)
namespace M
def IvK (bs : Brs) (k : Nat) : Prop := (∀ i b, i < k → bs[i]? = some b → Tl b) ∧ ∀ i a b, i + 1 < k → bs[i]? = some a → bs[i + 1]? = some b → com a b ≠ a.length
theorem IvK.zero (bs : Brs) : IvK bs 0 := ⟨fun _ _ h => absurd h (Nat.not_lt_zero _), fun _ _ _ h => absurd h (Nat.not_lt_zero _)⟩
theorem IvK.succ {bs : Brs} {k : Nat} {x : Evs} (h : IvK bs k) (hx : bs[k]? = some x) (ht : Tl x) (hp : ∀ j a, j + 1 = k → bs[j]? = some a → com a x ≠ a.length) : IvK bs (k + 1) := by
  refine ⟨fun i b hi hb => ?_, fun i a b hi ha hb => ?_⟩
  · by_cases c : i = k
    · subst c; rw [hx] at hb; simp only [Option.some.injEq] at hb; subst hb; exact ht
    · exact h.1 i b (by omega) hb
  · by_cases c : i + 1 = k
    · subst c; rw [hx] at hb; simp only [Option.some.injEq] at hb; subst hb; exact hp i a rfl ha
    · exact h.2 i a b (by omega) ha hb
theorem lt_ofA {α : Type} {l : List α} {i : Nat} {x : α} (h : l[i]? = some x) : i < l.length := (List.getElem?_eq_some_iff.1 h).1
theorem IvK.good {bs : Brs} (h : IvK bs bs.length) (hl : bs.length ≤ 12) : RsK bs bs.length ↔ GdT bs := by
  constructor
  · intro hr
    refine ⟨hl, fun b hb => ?_, Ups.up (fun i a b ha hb => ⟨hr i a b (lt_ofA hb) ha hb, h.2 i a b (lt_ofA hb) ha hb⟩)⟩
    obtain ⟨i, hi, rfl⟩ := List.mem_iff_getElem.1 hb
    exact h.1 i _ hi (List.getElem?_eq_getElem hi)
  · intro hg i a b hi ha hb
    exact (hg.2.2 i (i + 1) a b (by omega) ha hb).1
theorem gd_tl {bs : Brs} {k : Nat} {x : Evs} (hx : bs[k]? = some x) (ht : ¬ Tl x) : ¬ GdT bs := fun h => ht (h.2.1 x (List.mem_of_getElem? hx))
theorem gd_no {bs : Brs} {i j : Nat} {a b : Evs} (hij : i < j) (ha : bs[i]? = some a) (hb : bs[j]? = some b) (hn : ¬ cL a b < 0 ∨ com a b = a.length) : ¬ GdT bs := fun h => by
  have := h.2.2 i j a b hij ha hb
  rcases hn with hn | hn
  · exact hn this.1
  · exact this.2 hn
/-- The specification's way: each against all ahead of it. -/
def UpK (bs : Brs) (k : Nat) : Prop := (∀ i b, i < k → bs[i]? = some b → Tl b) ∧ ∀ i j a b, i < j → j < k → bs[i]? = some a → bs[j]? = some b → cL a b < 0 ∧ com a b ≠ a.length
def InK (bs : Brs) (x : Evs) (m : Nat) : Prop := ∀ j a, j < m → bs[j]? = some a → cL a x < 0 ∧ com a x ≠ a.length
theorem UpK.zero (bs : Brs) : UpK bs 0 := ⟨fun _ _ h => absurd h (Nat.not_lt_zero _), fun _ _ _ _ _ h => absurd h (Nat.not_lt_zero _)⟩
theorem InK.zero (bs : Brs) (x : Evs) : InK bs x 0 := fun _ _ h => absurd h (Nat.not_lt_zero _)
theorem InK.succ {bs : Brs} {x a : Evs} {m : Nat} (h : InK bs x m) (ha : bs[m]? = some a) (h1 : cL a x < 0) (h2 : com a x ≠ a.length) : InK bs x (m + 1) := fun j b hj hb => by
  by_cases c : j = m
  · subst c; rw [ha] at hb; simp only [Option.some.injEq] at hb; subst hb; exact ⟨h1, h2⟩
  · exact h j b (by omega) hb
theorem UpK.succ {bs : Brs} {k : Nat} {x : Evs} (h : UpK bs k) (hx : bs[k]? = some x) (ht : Tl x) (hi : InK bs x k) : UpK bs (k + 1) := by
  refine ⟨fun i b hi hb => ?_, fun i j a b hij hj ha hb => ?_⟩
  · by_cases c : i = k
    · subst c; rw [hx] at hb; simp only [Option.some.injEq] at hb; subst hb; exact ht
    · exact h.1 i b (by omega) hb
  · by_cases c : j = k
    · subst c; rw [hx] at hb; simp only [Option.some.injEq] at hb; subst hb; exact hi i a hij ha
    · exact h.2 i j a b hij (by omega) ha hb
theorem UpK.good {bs : Brs} (h : UpK bs bs.length) : bs.length ≤ 12 ↔ GdT bs := by
  constructor
  · intro hl
    refine ⟨hl, fun b hb => ?_, fun i j a b hij ha hb => h.2 i j a b hij (lt_ofA hb) ha hb⟩
    obtain ⟨i, hi, rfl⟩ := List.mem_iff_getElem.1 hb
    exact h.1 i _ hi (List.getElem?_eq_getElem hi)
  · exact fun hg => hg.1
end M
set_option maxRecDepth 20000 in
set_option maxHeartbeats 4000000 in
theorem impl_gt (v : Value) (bs : Brs) (b : Bool) (w : World) (hv : BrsOf w v bs) (hf : FineS bs) (hkk : KK w) (hb : BP b (GdT bs)) :
    Calls Tryz.prog 87 #[.agg #[v]] w fun e w' => e = .returned (.bool b) ∧ Below w.heap.size w w' := by
  have HV := hide hv
  have HF := hide hf
  have HK := hide hkk
  have HB := hide hb
  have hn := hf.1
  obtain ⟨a, cap, rfl⟩ := hv.form
  have hal := (Below.refl w.heap.size w).alloc (Nat.le_refl _) (.cells #[.slice a bs.length cap] 32)
  have HX0 := hide (one_new w (.slice a bs.length cap) 32)
  clear hv hf hkk hb
  by_cases h12 : bs.length ≤ 12
  case neg =>
    have hgt : (bs.length : Int) > 12 := by omega
    have hgt2 : 12 < bs.length := by omega
    have HN := hide (HB.out.no (fun h => h12 h.1))
    go_enter Tryz.func87, Tryz.ntmps87
    go_wp2
    go_ret
    exact ⟨ret_bool HN.out.symm, hal⟩
  have hgt : ¬ (bs.length : Int) > 12 := by omega
  have hgt2 : ¬ 12 < bs.length := by omega
  have H12 := hide h12
  go_enter Tryz.func87, Tryz.ntmps87
  go_wp2
  go_loopw [12] (fun i wr => ∃ k : Nat, k ≤ bs.length ∧ i = .int .i64 k ∧ Hid (IvK bs k) ∧ Hid (wr.cell? ⟨w.heap.size, 0, none⟩ = some (.slice a bs.length cap)) ∧ Below w.heap.size w wr) (fun i _ => bs.length - (intOf i).toNat)
  case atStart => exact ⟨0, Nat.zero_le _, rfl, hide (IvK.zero bs), HX0, hal⟩
  case round =>
    obtain ⟨k, hk, rfl, HI, HX, hbw⟩ := hrel
    clear HX0 hal
    have hxl : w.heap.size < wr.heap.size := World.block_lt_of_cell? wr _ HX.out
    by_cases hlt : k < bs.length
    · obtain ⟨es, he⟩ : ∃ e, bs[k]? = some e := ⟨bs[k], List.getElem?_eq_getElem hlt⟩
      obtain ⟨g, off, rfl, hlg, a2, c2, hc, hs⟩ := HV.out.at he
      have hcw := (hbw.cell (p := ⟨g, off + k, none⟩) hlg).trans hc
      have hE0 := hide (HF.out.at he)
      obtain ⟨wq, hwq⟩ : ∃ wq, wr.alloc (.cells #[.slice a2 es.length c2] 81) = wq := ⟨_, rfl⟩
      have hrq : Below wr.heap.size wr wq := by rw [← hwq]; exact (Below.refl _ _).alloc (Nat.le_refl _) _
      have hbq : Below w.heap.size w wq := hbw.trans (hrq.mono hbw.size)
      have k4 := cell_regrown (show wq.cell? ⟨wr.heap.size, 0, none⟩ = some (.slice a2 es.length c2) by rw [← hwq]; exact one_new wr _ _)
      have k1 := cell_regrown ((hrq.cell (p := ⟨w.heap.size, 0, none⟩) hxl).trans HX.out)
      have HX2 := hide ((hrq.cell (p := ⟨w.heap.size, 0, none⟩) hxl).trans HX.out)
      obtain ⟨tb, htb⟩ := bp_ex (Tl es)
      have HTB := hide htb
      have HT := hide (show ∀ dd os, Calls Tryz.prog 90 #[.slice a2 es.length c2] (grow (redrawn wq dd) os) fun e' w'' => e' = .returned (.bool tb) ∧ ∃ p : Regrown, w'' = grow (redrawn wq p.d) p.os from fun dd os => Calls.regrown_of (impl_tl _ es tb _ (hs.below (hbq.trans ((below_regrown wq dd os).mono hbq.size))) hE0.out.1 hE0.out.2 (HK.out.below (Below.trans (hbq.mono (Nat.le_refl _)) ((below_regrown wq dd os).mono hbq.size))) htb))
      have HE := hide he
      have hwq' := hide hwq
      have HS := hide hs
      clear hc hs he htb hwq hrq
      cases tb
      · have HN := hide (HB.out.no (gd_tl HE.out (fun h => by have := HTB.out.yes h; cases this)))
        clear HI HF
        go_upto_region 6 with fail
        rw [hwq'.out]
        refine wp_region_quiet_below (by kernel_rfl) (by kernel_rfl) ?_
        repeat (go_big_quiet_step (with_reducible exact HT.out _ _))
        refine wpQuiet_nil ?_
        intro _ hw'
        obtain ⟨⟨dq, osq⟩, hw''⟩ := hw'
        subst hw''
        have hbw2 := hbq.trans ((below_regrown wq dq osq).mono hbq.size)
        clear HT k4 k1
        go_wp2
        go_ret
        exact ⟨ret_bool HN.out.symm, hbw2⟩
      · have htl := HTB.out.1 rfl
        have HTL := hide htl
        by_cases hk0 : k = 0
        · have hg0 : decide ((k : Int) > 0) = false := decide_eq_false (by omega)
          have hg1 : decide (0 < k) = false := decide_eq_false (by omega)
          have hg2 : decide ((0 : Int) < (k : Int)) = false := decide_eq_false (by omega)
          have HI2 := hide (HI.out.succ HE.out htl (fun j a hj => by omega))
          clear hk0 htl HI
          go_upto_region 6 with fail
          rw [hwq'.out]
          refine wp_region_quiet_below (by kernel_rfl) (by kernel_rfl) ?_
          repeat (go_big_quiet_step (with_reducible exact HT.out _ _))
          refine wpQuiet_nil ?_
          intro _ hw'
          obtain ⟨⟨dq, osq⟩, hw''⟩ := hw'
          subst hw''
          have hbw2 := hbq.trans ((below_regrown wq dq osq).mono hbq.size)
          have HX3 := hide (k1 dq osq)
          clear HT k4 k1 HX2
          go_wp2
          go_roundw
          case rel => exact ⟨k + 1, by omega, by go_num, HI2, HX3, hbw2⟩
          case measure => simp [intOf]; omega
        · obtain ⟨j, hj⟩ : ∃ j, k = j + 1 := ⟨k - 1, by omega⟩
          obtain ⟨d, hd⟩ : ∃ d, bs[j]? = some d := ⟨bs[j], List.getElem?_eq_getElem (by omega)⟩
          obtain ⟨g', off', hgg, -, a3, c3, hc3, hs3⟩ := HV.out.at hd
          simp only [Option.some.injEq, Addr.mk.injEq, and_true] at hgg
          obtain ⟨rfl, rfl⟩ := hgg
          have k7 := cell_regrown ((hbq.cell (p := ⟨g, off + j, none⟩) hlg).trans hc3)
          have hdl := (HI.out.1 j d (by omega) hd)
          have HD := hide (HF.out.at hd)
          have HS3 := hide hs3
          have HBG := hide (show ∀ dd os, Calls Tryz.prog 134 #[.slice a3 d.length c3, .slice a2 es.length c2] (grow (redrawn wq dd) os) fun e' w'' => e' = .returned (.bool (com d es == d.length)) ∧ ∃ p : Regrown, w'' = grow (redrawn wq p.d) p.os from fun dd os => Calls.regrown_of (impl_beg _ _ d es _ (HS3.out.below (hbq.trans ((below_regrown wq dd os).mono hbq.size))) (HS.out.below (hbq.trans ((below_regrown wq dd os).mono hbq.size))) HD.out.1 hE0.out.1 hdl.pl htl.pl))
          have hg0 : decide ((k : Int) > 0) = true := decide_eq_true (by omega)
          have hg1 : decide (0 < k) = true := decide_eq_true (by omega)
          have hg2 : decide ((0 : Int) < (k : Int)) = true := decide_eq_true (by omega)
          have hkj : (k : Int) - 1 = (j : Int) := by omega
          have hj0 : (0 : Int) ≤ (j : Int) := by omega
          have hj1 : (j : Int) < (bs.length : Int) := by omega
          have HJ := hide (And.intro hj hd)
          clear hj hd hk0 hc3 hs3 hdl
          by_cases hz : com d es = d.length
          · have hzb : (com d es == d.length) = true := by simp [hz]
            rw [hzb] at HBG
            have HN := hide (HB.out.no (gd_no (i := j) (j := k) (by have := HJ.out.1; omega) HJ.out.2 HE.out (.inr hz)))
            clear hz hzb htl HI
            go_upto_region 6 with fail
            rw [hwq'.out]
            refine wp_region_quiet_below (by kernel_rfl) (by kernel_rfl) ?_
            repeat (go_big_quiet_step (first | with_reducible exact HT.out _ _ | with_reducible exact HBG.out _ _))
            refine wpQuiet_nil ?_
            intro _ hw'
            obtain ⟨⟨dq, osq⟩, hw''⟩ := hw'
            subst hw''
            have hbw2 := hbq.trans ((below_regrown wq dq osq).mono hbq.size)
            clear HT HBG k4 k1 k7 HX2
            go_wp2
            go_ret
            exact ⟨ret_bool HN.out.symm, hbw2⟩
          · have hzb : (com d es == d.length) = false := by simp [hz]
            rw [hzb] at HBG
            have HI2 := hide (HI.out.succ HE.out htl (fun j' a' hj' ha' => by
              obtain rfl : j' = j := by have := HJ.out.1; omega
              rw [HJ.out.2] at ha'
              simp only [Option.some.injEq] at ha'
              subst ha'; exact hz))
            clear hz hzb htl HI
            go_upto_region 6 with fail
            rw [hwq'.out]
            refine wp_region_quiet_below (by kernel_rfl) (by kernel_rfl) ?_
            repeat (go_big_quiet_step (first | with_reducible exact HT.out _ _ | with_reducible exact HBG.out _ _))
            refine wpQuiet_nil ?_
            intro _ hw'
            obtain ⟨⟨dq, osq⟩, hw''⟩ := hw'
            subst hw''
            have hbw2 := hbq.trans ((below_regrown wq dq osq).mono hbq.size)
            have HX3 := hide (k1 dq osq)
            clear HT HBG k4 k1 k7 HX2
            go_wp2
            go_roundw
            case rel => exact ⟨k + 1, by omega, by go_num, HI2, HX3, hbw2⟩
            case measure => simp [intOf]; omega
    · obtain rfl : k = bs.length := by omega
      have hcx := HX.out
      have HBR := hide (show BP b (RsK bs bs.length) from ⟨fun h => (HI.out.good H12.out).2 (HB.out.1 h), fun h => HB.out.2 ((HI.out.good H12.out).1 h)⟩)
      clear HI HB
      go_wp2_with fail
      refine (in_events _ bs _ (HV.out.below hbw) hn).mono ?_
      rintro e w2 ⟨⟨r, rfl, hr⟩, hb2⟩
      obtain ⟨a5, c5, rfl⟩ := hr.form
      have HR := hide hr
      have hbw2 := hbw.trans (hb2.mono hbw.size)
      clear hr hb2 hcx
      go_wp2_with fail
      refine (stand_rising _ bs b _ HR.out HF.out HBR.out).mono ?_
      rintro e w3 ⟨rfl, hb3⟩
      have hbw3 := hbw2.trans (hb3.mono hbw2.size)
      clear hb3 HR
      go_wp2
      go_ret
      exact ⟨rfl, hbw3⟩
end Go.Proofs.YtfkeokglifpkoaaGreatDoor

/-
  GoodTellings of the specification: each history against all ahead of it.
-/
namespace Go.Proofs.YtfkeokglifpkoaaGreatDoor
open Go.RowKit M
open Go.Sort (grow)
set_option maxRecDepth 20000 in
set_option maxHeartbeats 4000000 in
theorem spec_gt (v : Value) (bs : Brs) (b : Bool) (w : World) (hv : BrsOf w v bs) (hf : FineS bs) (hco : CapOk v) (hb : BP b (GdT bs)) :
    Calls Tryz.prog 95 #[.agg #[v]] w fun e w' => e = .returned (.bool b) ∧ Below w.heap.size w w' := by
  have HV := hide hv
  have HF := hide hf
  have HB := hide hb
  have hn := hf.1
  obtain ⟨a, cap, rfl⟩ := hv.form
  have hcap : bs.length ≤ cap := hco
  have hal := (Below.refl w.heap.size w).alloc (Nat.le_refl _) (.cells #[.slice a bs.length cap] 32)
  have HX0 := hide (one_new w (.slice a bs.length cap) 32)
  clear hv hf hb hco
  go_enter Tryz.func95, Tryz.ntmps95
  go_wp2
  go_loopw [12] (fun i wr => ∃ k : Nat, k ≤ bs.length ∧ i = .int .i64 k ∧ Hid (UpK bs k) ∧ Hid (wr.cell? ⟨w.heap.size, 0, none⟩ = some (.slice a bs.length cap)) ∧ Below w.heap.size w wr) (fun i _ => bs.length - (intOf i).toNat)
  case atStart => exact ⟨0, Nat.zero_le _, rfl, hide (UpK.zero bs), HX0, hal⟩
  case round =>
    rename World => wo
    obtain ⟨k, hk, rfl, HI, HX, hbw⟩ := hrel
    clear HX0 hal
    have hxl : w.heap.size < wo.heap.size := World.block_lt_of_cell? wo _ HX.out
    by_cases hlt : k < bs.length
    · obtain ⟨es, he⟩ : ∃ e, bs[k]? = some e := ⟨bs[k], List.getElem?_eq_getElem hlt⟩
      obtain ⟨g, off, rfl, hlg, a2, c2, hc, hs⟩ := HV.out.at he
      have hcw := (hbw.cell (p := ⟨g, off + k, none⟩) hlg).trans hc
      have hE0 := hide (HF.out.at he)
      have hrq : Below wo.heap.size wo (wo.alloc (.cells #[.slice a2 es.length c2] 81)) := (Below.refl _ _).alloc (Nat.le_refl _) _
      have hbq := hbw.trans (hrq.mono hbw.size)
      have HX2 := hide ((hrq.cell (p := ⟨w.heap.size, 0, none⟩) hxl).trans HX.out)
      have HY2 := hide (one_new wo (.slice a2 es.length c2) 81)
      obtain ⟨tb, htb⟩ := bp_ex (Tl es)
      have HTB := hide htb
      have HE := hide he
      have HS := hide hs
      clear hc hs he htb hrq
      go_wp2_with fail
      refine (spec_tl _ es tb _ (HS.out.below hbq) hE0.out.1 hE0.out.2 HTB.out).mono ?_
      rintro e w2 ⟨rfl, hb2⟩
      have hbw2 := hbq.trans (hb2.mono hbq.size)
      have hcx := (hb2.cell (p := ⟨w.heap.size, 0, none⟩) (by simp; omega)).trans HX2.out
      have hcy := (hb2.cell (p := ⟨wo.heap.size, 0, none⟩) (by simp)).trans HY2.out
      have HXX := hide hcx
      have HYY := hide hcy
      clear hb2 hbq HX2 HY2 hcw
      cases tb
      · have HN := hide (HB.out.no (gd_tl HE.out (fun h => by have := HTB.out.yes h; cases this)))
        clear HI HF
        go_wp2
        go_ret
        exact ⟨ret_bool HN.out.symm, hbw2⟩
      · have HTL := hide (HTB.out.1 rfl)
        have hk0 : (0 : Int) ≤ (k : Int) := by omega
        have hkc : (k : Int) ≤ (cap : Int) := by omega
        have hkc2 : k ≤ cap := by omega
        go_wp2
        go_loopw [26] (fun i wr => ∃ m : Nat, m ≤ k ∧ i = .int .i64 m ∧ Hid (InK bs es m) ∧ Hid (wr.cell? ⟨w.heap.size, 0, none⟩ = some (.slice (some ⟨g, off, none⟩) bs.length cap)) ∧ Hid (wr.cell? ⟨wo.heap.size, 0, none⟩ = some (.slice a2 es.length c2)) ∧ Below w.heap.size w wr) (fun i _ => k - (intOf i).toNat)
        case atStart => exact ⟨0, Nat.zero_le _, rfl, hide (InK.zero bs es), HXX, HYY, hbw2⟩
        case round =>
          obtain ⟨m, hm, rfl, HIn, HXr, HYr, hbr⟩ := hrel
          clear hcx hcy HXX HYY hbw2
          have hxr : w.heap.size < wr.heap.size := World.block_lt_of_cell? wr _ HXr.out
          have hyr : wo.heap.size < wr.heap.size := World.block_lt_of_cell? wr _ HYr.out
          by_cases hlm : m < k
          · obtain ⟨d, hd⟩ : ∃ d, bs[m]? = some d := ⟨bs[m], List.getElem?_eq_getElem (by omega)⟩
            obtain ⟨g', off', hgg, -, a3, c3, hc3, hs3⟩ := HV.out.at hd
            simp only [Option.some.injEq, Addr.mk.injEq, and_true] at hgg
            obtain ⟨rfl, rfl⟩ := hgg
            have hcw := (hbr.cell (p := ⟨g, off + m, none⟩) hlg).trans hc3
            have HD0 := hide (HF.out.at hd)
            obtain ⟨wq, hwq⟩ : ∃ wq, wr.alloc (.cells #[.slice a3 d.length c3] 81) = wq := ⟨_, rfl⟩
            have hrq : Below wr.heap.size wr wq := by rw [← hwq]; exact (Below.refl _ _).alloc (Nat.le_refl _) _
            have hbq : Below w.heap.size w wq := hbr.trans (hrq.mono hbr.size)
            have q0 : wq.cell? ⟨wr.heap.size, 0, none⟩ = some (.slice a3 d.length c3) := by rw [← hwq]; exact one_new wr _ _
            have q1 := (hrq.cell (p := ⟨w.heap.size, 0, none⟩) hxr).trans HXr.out
            have q2 := (hrq.cell (p := ⟨wo.heap.size, 0, none⟩) hyr).trans HYr.out
            have hwl : wr.heap.size < wq.heap.size := by rw [← hwq]; simp
            have HQ := hide (And.intro q0 (And.intro q1 q2))
            have q3 : (wr.alloc (.cells #[.slice a3 d.length c3] 81)).cell? ⟨wo.heap.size, 0, none⟩ = some (.slice a2 es.length c2) := by rw [hwq]; exact q2
            have HWQ := hide hwq
            have HDD := hide hd
            have HS3 := hide hs3
            have hrqs := hrq.size
            clear hc3 hs3 hd hwq hrq q0 q1 q2
            go_wp2_with fail
            rw [HWQ.out]
            refine (spec_cmp _ _ d es _ (HS3.out.below hbq) (HS.out.below hbq) HD0.out.1 hE0.out.1).mono ?_
            rintro e w3 ⟨rfl, hb3⟩
            have hbw3 := hbq.trans (hb3.mono hbq.size)
            have p0 := (hb3.cell (p := ⟨wr.heap.size, 0, none⟩) hwl).trans HQ.out.1
            have p1 := (hb3.cell (p := ⟨w.heap.size, 0, none⟩) (Nat.lt_of_lt_of_le hxr hrqs)).trans HQ.out.2.1
            have p2 := (hb3.cell (p := ⟨wo.heap.size, 0, none⟩) (Nat.lt_of_lt_of_le hyr hrqs)).trans HQ.out.2.2
            have HP := hide (And.intro p1 p2)
            have hkm : decide ((m : Int) > (k : Int)) = false := decide_eq_false (by omega)
            have hkm2 : decide (k < m) = false := decide_eq_false (by omega)
            have hkm3 : decide ((k : Int) < (m : Int)) = false := decide_eq_false (by omega)
            clear hb3 p1 q3 hcw HQ HWQ hrqs
            by_cases hz : cL d es < 0
            · have hz1 : decide (cL d es ≥ 0) = false := decide_eq_false (by omega)
              have hz2 : decide (0 ≤ cL d es) = false := decide_eq_false (by omega)
              by_cases hy : com d es = d.length
              · have hyb : (com d es == d.length) = true := by simp [hy]
                have HN := hide (HB.out.no (gd_no hlm HDD.out HE.out (.inr hy)))
                clear hz hy HI HIn
                go_wp2_with fail
                refine (spec_beg _ _ es d _ (HS.out.below hbw3) (HS3.out.below hbw3) hE0.out.1 HD0.out.1).mono ?_
                rw [hyb]
                rintro e w4 ⟨rfl, hb4⟩
                have hbw4 := hbw3.trans (hb4.mono hbw3.size)
                clear hb4 hyb p0 p2 HP
                go_wp2
                go_ret
                exact ⟨ret_bool HN.out.symm, hbw4⟩
              · have hyb : (com d es == d.length) = false := by simp [hy]
                have HI2 := hide (HIn.out.succ HDD.out hz hy)
                clear hz hy HIn
                go_wp2_with fail
                refine (spec_beg _ _ es d _ (HS.out.below hbw3) (HS3.out.below hbw3) hE0.out.1 HD0.out.1).mono ?_
                rw [hyb]
                rintro e w4 ⟨rfl, hb4⟩
                have hbw4 := hbw3.trans (hb4.mono hbw3.size)
                have HX4 := hide ((hb4.cell (p := ⟨w.heap.size, 0, none⟩) (World.block_lt_of_cell? w3 _ HP.out.1)).trans HP.out.1)
                have HY4 := hide ((hb4.cell (p := ⟨wo.heap.size, 0, none⟩) (World.block_lt_of_cell? w3 _ HP.out.2)).trans HP.out.2)
                clear hb4 hyb p0 p2 HP
                go_wp2
                go_roundw
                case rel => exact ⟨m + 1, by omega, by go_num, HI2, HX4, HY4, hbw4⟩
                case measure => simp [intOf]; omega
            · have hz1 : decide (cL d es ≥ 0) = true := decide_eq_true (by omega)
              have hz2 : decide (0 ≤ cL d es) = true := decide_eq_true (by omega)
              have HN := hide (HB.out.no (gd_no hlm HDD.out HE.out (.inl hz)))
              clear hz HI HIn
              go_wp2
              go_ret
              exact ⟨ret_bool HN.out.symm, hbw3⟩
          · obtain rfl : m = k := by omega
            have HI2 := hide (HI.out.succ HE.out HTL.out HIn.out)
            clear HI HIn
            go_wp2
            go_roundw
            case rel => exact ⟨m + 1, by omega, by go_num, HI2, HXr, hbr⟩
            case measure => simp [intOf]; omega
    · obtain rfl : k = bs.length := by omega
      have hcx := HX.out
      have HBB := hide (show b = decide (bs.length ≤ 12) from by
        rw [Bool.eq_iff_iff, decide_eq_true_eq]
        exact ⟨fun h => (HI.out.good).2 (HB.out.1 h), fun h => HB.out.2 ((HI.out.good).1 h)⟩)
      clear HI HB
      by_cases h12 : bs.length ≤ 12
      · have h12' : (bs.length : Int) ≤ 12 := by omega
        go_wp2
        go_ret
        exact ⟨ret_bool (by rw [HBB.out, decide_eq_true h12]), hbw⟩
      · have h12' : ¬ (bs.length : Int) ≤ 12 := by omega
        go_wp2
        go_ret
        exact ⟨ret_bool (by rw [HBB.out, decide_eq_false h12]), hbw⟩
end Go.Proofs.YtfkeokglifpkoaaGreatDoor

/-
  The laws of chapter 15 whose answers are numbers and bools, walked: they return true and turn nothing that was there, wherever both texts tell the same.
-/
namespace Go.Proofs.YtfkeokglifpkoaaGreatDoor
open Go.RowKit M
open Go.Sort (grow)
namespace M
def SmE (es : Evs) : Prop := es.length ≤ 1048576 ∧ ∀ e ∈ es, e.name.size ≤ maxLen
theorem sm_e {es : Evs} (h : ∀ e ∈ es, e.name.size ≤ maxLen) (hl : wt es ≤ 1048576) : SmE es := ⟨by unfold wt at hl; omega, h⟩
theorem fine_small {bs : Brs} (h : Fine bs) (hl : bs.length + wb bs ≤ 1048576) : FineS bs := ⟨by omega, fun b hb => ⟨by
  have := wb_mem hb
  unfold wt at this; omega, (h.2 b hb).2⟩⟩
end M
end Go.Proofs.YtfkeokglifpkoaaGreatDoor

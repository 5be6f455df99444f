/-
  Texts that follow one another, joined: BrP, RgQi.
-/
import Derived.Test.YtfkeokglifpkoaaGreatDoorJoin41
import Derived.Test.YtfkeokglifpkoaaGreatDoorJoin23
import Derived.Test.YtfkeokglifpkoaaGreatDoorJoin4
import Derived.Test.YtfkeokglifpkoaaGreatDoorJoin19
import Derived.Deep.RegionWith
import Derived.Test.YtfkeokglifpkoaaGreatDoorJoin32
/-
  LostSignals in the program's text. Condition: the table knownKinds reads as its text lays it.
-/
namespace Go.Proofs.YtfkeokglifpkoaaGreatDoor
open Go.RowKit M
open Go.Sort (grow)
set_option maxRecDepth 20000 in
set_option maxHeartbeats 4000000 in
theorem tell_lost (v : Value) (bs : Brs) (w : World) (hv : BrsOf w v bs) (hf : FineS bs) (hkk : KK w) (hg : GdT bs) :
    Calls Tryz.prog 70 #[.agg #[v]] w fun e w' => (∃ a n c, e = .returned (.slice a n c) ∧ OwnT w' w.heap.size (.slice a n c) (lsl bs)) ∧ Below w.heap.size w w' := by
  have hal := (Below.refl w.heap.size w).alloc (Nat.le_refl _) (.cells #[v] 32)
  have HV := hide (hv.below hal)
  have HC := hide (show M.One (w.alloc (.cells #[v] 32)) w.heap.size v 32 from heap_alloc_new w _)
  have HF := hide hf
  have HG := hide hg
  have HK := hide (hkk.below hal)
  have hn := hf.1
  have h12 := hg.1
  obtain ⟨a1, c1, rfl⟩ := hv.form
  have d0 := HC.out.cell
  clear hv hf hkk hg
  obtain ⟨kb, hkb⟩ := bp_ex (Hist (cB bs))
  have HKB := hide hkb
  have HKL := hide (show (kb = true → keptOf bs = (sk (cB bs) (cB bs).length).sg) ∧ (kb = false → keptOf bs = []) from ⟨fun _ => rfl, fun h => by
    subst h
    by_cases h0 : bs = []
    · subst h0; rfl
    · have hp : 0 < bs.length := List.length_pos_iff.2 h0
      have ht := HG.out.2.1 (curB bs) (List.mem_of_getElem? (cur_b hp))
      have hcb : cB bs = curB bs := if_neg h0
      rw [hcb] at hkb
      have := hkb.2 ht.2
      cases this⟩)
  have HCN := hide (show (cB bs).length ≤ 1048576 ∧ ∀ e ∈ cB bs, e.name.size ≤ maxLen from by
    by_cases h0 : bs = []
    · subst h0; exact ⟨by simp [cB], fun e he => by simp [cB] at he⟩
    · have hp : 0 < bs.length := List.length_pos_iff.2 h0
      have hcb : cB bs = curB bs := if_neg h0
      rw [hcb]
      exact HF.out.2 _ (List.mem_of_getElem? (cur_b hp)))
  obtain ⟨kp, hkp⟩ : ∃ kp, keptOf bs = kp := ⟨_, rfl⟩
  have HKP := hide hkp
  clear hkb hkp
  go_enter Tryz.func70, Tryz.ntmps70
  go_wp2_with fail
  refine (impl_current _ bs _ HV.out HF.out HG.out).mono ?_
  rintro e w3 ⟨⟨a3, c3, rfl, hs3⟩, hb13⟩
  have HS3 := hide hs3
  clear hs3 d0
  go_wp2_with fail
  refine (impl_signalsIn _ (cB bs) kb (keptOf bs) _ HS3.out HCN.out.1 HCN.out.2 (HK.out.below hb13) HKB.out HKL.out).mono ?_
  rintro e w4 ⟨⟨a4, n4, c4, rfl, hO4⟩, hb4⟩
  have hb14 := hb13.trans (hb4.mono hb13.size)
  have hbw := hal.trans (hb14.mono hal.size)
  have d0 := (HC.out.down hb14).cell
  rw [HKP.out] at hO4
  have hn4 := hO4.len
  subst hn4
  have HKT := hide hO4.txs
  have hkl : kp.length ≤ 1048576 := by
    rcases Nat.lt_or_ge 1048576 kp.length with h | h
    · have := HKL.out
      rw [HKP.out] at this
      cases kb
      · rw [this.2 rfl] at h; simp at h
      · have hE := (HKB.out.1 rfl).2.1
        have hg := hE.2.1.good (Nat.le_refl _)
        have h3 := hg.2.2.1.1
        rw [← this.1 rfl] at h3
        omega
    · exact h
  have hw4 := hbw.size
  clear hO4 hb4 hb13 HS3 HKB HKL HCN
  go_wp2
  go_loopw [5, 21] (fun x i wr => ∃ (k n c : Nat) (ao : Option Addr), k ≤ bs.length ∧ i = .int .i64 k ∧ x = .slice ao n c ∧ Hid (OwnT wr w4.heap.size (.slice ao n c) (gat kp (allS (bs.take k)))) ∧ Hid ((gat kp (allS (bs.take k))).length ≤ 60 * k) ∧ Below w4.heap.size w4 wr) (fun _ i _ => bs.length - (intOf i).toNat)
  case atStart => exact ⟨0, 0, 0, none, Nat.zero_le _, rfl, rfl, hide (OwnT.nil _ _), hide (by simp [allS, gat]), Below.refl _ _⟩
  case round =>
    obtain ⟨k, n, c, ao, hk, rfl, rfl, HO, HN, hbr⟩ := hrel
    clear d0
    by_cases hlt : k < bs.length
    · obtain ⟨es, he⟩ : ∃ e, bs[k]? = some e := ⟨bs[k], List.getElem?_eq_getElem hlt⟩
      have hW1 := hb14.trans (hbr.mono hb14.size)
      obtain ⟨g, off, rfl, hlg, a2, c2, hc, hs⟩ := HV.out.at he
      have hcw := (hW1.cell (p := ⟨g, off + k, none⟩) hlg).trans hc
      have hal2 := (Below.refl wr.heap.size wr).alloc (Nat.le_refl _) (.cells #[.slice a2 es.length c2] 81)
      have q0 : (wr.alloc (.cells #[.slice a2 es.length c2] 81)).cell? ⟨wr.heap.size, 0, none⟩ = some (.slice a2 es.length c2) := one_new wr _ _
      have htl := HG.out.2.1 es (List.mem_of_getElem? he)
      have hfe := HF.out.2 es (List.mem_of_getElem? he)
      obtain ⟨ns, hns⟩ : ∃ ns, sgB es = ns := ⟨_, rfl⟩
      have hnl : ns.length ≤ 60 := by
        have hg := htl.2.2.1.2.1.good (Nat.le_refl _)
        have h3 := hg.2.2.1.1
        rw [← hns]; unfold sgB; omega
      have HSG := hide (fun W (h : Below (wr.alloc (.cells #[.slice a2 es.length c2] 81)).heap.size (wr.alloc (.cells #[.slice a2 es.length c2] 81)) W) => impl_signalsIn (.slice a2 es.length c2) es true (sgB es) W (hs.below ((hW1.trans (hal2.mono hW1.size)).trans (h.mono (hW1.trans (hal2.mono hW1.size)).size))) hfe.1 hfe.2 (HK.out.below ((hW1.trans (hal2.mono hW1.size)).trans (h.mono (hW1.trans (hal2.mono hW1.size)).size))) ⟨fun _ => htl.2, fun _ => rfl⟩ ⟨fun _ => rfl, fun h => by cases h⟩)
      have HNS := hide hns
      have HES := hide he
      clear hc hs htl hfe hns he hW1
      go_wp2_with fail
      refine (HSG.out _ (Below.refl _ _)).mono ?_
      rw [HNS.out]
      rintro e w5 ⟨⟨a5, n5, c5, rfl, hO5⟩, hb5⟩
      have hn5 := hO5.len
      subst hn5
      have hr5 := hal2.trans (hb5.mono hal2.size)
      have hbr5 := hbr.trans (hr5.mono hbr.size)
      have HO5 := hide (HO.out.down hr5)
      obtain ⟨sz, hsz⟩ : ∃ sz, wr.heap.size + 1 = sz := ⟨_, rfl⟩
      have HX := hide (show OwnT w5 sz (.slice a5 ns.length c5) ns from by rw [← hsz]; simpa using hO5)
      have HAP := hide (show ∀ q, (Value.slice a5 ns.length c5).ownBlock = some q → (Value.slice ao n c).ownBlock ≠ some q ∧ q < w5.heap.size from fun q hq => ⟨fun h2 => by
        have h3 := (HX.out.lt hq).1
        have h4 := (HO.out.lt h2).2
        omega, (HX.out.lt hq).2⟩)
      have hw5 : w4.heap.size ≤ w5.heap.size := hbr5.size
      obtain ⟨L, hL⟩ : ∃ L, gat kp (allS (bs.take k)) = L := ⟨_, rfl⟩
      have HLE := hide hL
      rw [hL] at HO5 HN
      clear hL hO5 hb5 hal2 hr5 q0 hcw HSG HO
      go_wp2
      go_loopw [5, 33] (fun x i wi => ∃ (j n c : Nat) (ao : Option Addr), j ≤ ns.length ∧ i = .int .i64 j ∧ x = .slice ao n c ∧ Hid (OwnT wi w4.heap.size (.slice ao n c) (L ++ gat kp (ns.take j))) ∧ Hid (OwnT wi sz (.slice a5 ns.length c5) ns ∧ ∀ q, (Value.slice a5 ns.length c5).ownBlock = some q → (Value.slice ao n c).ownBlock ≠ some q ∧ q < wi.heap.size) ∧ Below w4.heap.size w4 wi) (fun _ i _ => ns.length - (intOf i).toNat)
      case atStart => exact ⟨0, n, c, ao, Nat.zero_le _, rfl, rfl, hide (by have := HO5.out; simpa [gat] using this), hide ⟨HX.out, HAP.out⟩, hbr5⟩
      case round =>
        obtain ⟨j, m, cm, am, hj, rfl, rfl, HM, HY, hbi⟩ := hrel
        clear hbr5 HO5 HX HAP
        by_cases hjl : j < ns.length
        · obtain ⟨y, hy⟩ : ∃ y, ns[j]? = some y := ⟨ns[j], List.getElem?_eq_getElem hjl⟩
          rcases HY.out.1.split with ⟨h0, h1⟩ | ⟨g5, cap5, hv5, -⟩
          · rw [h1] at hjl; simp at hjl
          · simp only [Value.slice.injEq] at hv5
            obtain ⟨rfl, -, rfl⟩ := hv5
            have c0 := HY.out.1.cell hy
            obtain ⟨cb, hcb⟩ := bp_ex (y ∈ kp)
            have HCB := hide hcb
            have HKW := hide (HKT.out.below hbi)
            have HTK := hide (take_snoc' hy)
            have hgl : (L ++ gat kp (ns.take j)).length ≤ 780 := by
              have h1 := HN.out
              have h2 := gat_len kp (ns.take j)
              rw [List.length_take] at h2
              rw [List.length_append]; omega
            have HGL := hide hgl
            clear hcb hy hgl
            cases cb
            · have HNI := hide (show ¬ y ∈ kp from fun h => by have := HCB.out.2 h; cases this)
              go_wp2_with fail
              refine (contains_txs _ kp y false _ HKW.out hkl HCB.out).mono ?_
              rintro e wv ⟨rfl, hwv⟩
              rw [hwv]
              clear hwv wv
              have hown := HM.out.alloc (.cells #[.string y] 9)
              have hlit := lit_txc (w := wr.alloc (.cells #[.string y] 9)) (heap_alloc_new wr (.cells #[.string y] 9))
              clear c0
              go_wp2_with (at_builtin; refine wpList_app _ rfl _ _ rfl w4.heap.size (L ++ gat kp (ns.take j)) [y] _ _ rfl hown rfl hlit (by have := HGL.out; simp only [List.length_singleton]; omega) (by have := hbi.size; simp; omega) ?_)
              intro a6 n6 c6 w6 hO6 hgr hblk
              have hb6 : Below w4.heap.size w4 w6 := (hbi.alloc hbi.size _).grown hgr (by have := hbi.size; simp; omega) (fun j hj => (hown.lt hj).1)
              have HO6 := hide (show OwnT w6 w4.heap.size (.slice a6 n6 c6) (L ++ gat kp (ns.take (j + 1))) from by rw [HTK.out, gat_app, gat_out HNI.out]; simpa using hO6)
              have hsz6 : wr.heap.size + 1 ≤ w6.heap.size := by have := hgr.size; simpa using this
              have HY6 := hide (show OwnT w6 sz (.slice (some ⟨g5, 0, none⟩) ns.length c5) ns ∧ ∀ q, (Value.slice (some ⟨g5, 0, none⟩) ns.length c5).ownBlock = some q → (Value.slice a6 n6 c6).ownBlock ≠ some q ∧ q < w6.heap.size from
                ⟨(HY.out.1.alloc (.cells #[.string y] 9)).other hgr (fun q hq e => (HY.out.2 q hq).1 e.symm), fun q hq => by
                  have h1 := HY.out.2 q hq
                  refine ⟨fun h2 => ?_, by omega⟩
                  rcases hblk with h | h
                  · rw [h] at h2; exact h1.1 h2
                  · rw [h] at h2; simp at h2; omega⟩)
              clear hO6 hgr hblk hown hlit hbi HM HY HKW HTK HGL HNI HCB hsz6
              go_wp2
              go_roundw
              case rel => exact ⟨j + 1, n6, c6, a6, by omega, by go_num, rfl, HO6, HY6, hb6⟩
              case measure => simp [intOf]; omega
            · have HM2 := hide (show OwnT wr w4.heap.size (.slice am m cm) (L ++ gat kp (ns.take (j + 1))) from by rw [HTK.out, gat_app, gat_in (HCB.out.1 rfl), List.append_nil]; exact HM.out)
              go_wp2_with fail
              refine (contains_txs _ kp y true _ HKW.out hkl HCB.out).mono ?_
              rintro e wv ⟨rfl, hwv⟩
              rw [hwv]
              clear hwv wv
              clear c0 HM HKW HTK HGL HCB
              go_wp2
              go_roundw
              case rel => exact ⟨j + 1, m, cm, am, by omega, by go_num, rfl, HM2, HY, hbi⟩
              case measure => simp [intOf]; omega
        · obtain rfl : j = ns.length := by omega
          have HS1 := hide (show gat kp (allS (bs.take (k + 1))) = L ++ gat kp ns by rw [take_snocB HES.out, allS_app, gat_app, HLE.out]; simp [allS, HNS.out])
          have HM2 := hide (show OwnT wr w4.heap.size (.slice am m cm) (gat kp (allS (bs.take (k + 1)))) from by
            have := HM.out
            rw [List.take_length] at this
            rw [HS1.out]; exact this)
          have HN3 := hide (show (gat kp (allS (bs.take (k + 1)))).length ≤ 60 * (k + 1) from by
            rw [HS1.out, List.length_append]
            have h1 := HN.out
            have h2 := gat_len kp ns
            omega)
          clear HM HY HS1 HN
          go_wp2
          go_roundw
          case rel => exact ⟨k + 1, m, cm, am, by omega, by go_num, rfl, HM2, HN3, hbi⟩
          case measure => simp [intOf]; omega
    · obtain rfl : k = bs.length := by omega
      have HZ := hide (show OwnT wr w4.heap.size (.slice ao n c) (gat kp (allS bs)) from by have := HO.out; rwa [List.take_length] at this)
      have HZL := hide (show (gat kp (allS bs)).length ≤ 1048576 from by have := HN.out; rw [List.take_length] at this; omega)
      clear HO HN
      go_wp2_with fail
      refine (sort_txs w4.heap.size _ _ _ HZ.out HZL.out).mono ?_
      rintro e w7 ⟨rfl, hO7, hg7⟩
      have hb7 : Below w4.heap.size w4 w7 := hbr.grown hg7 hbr.size (fun j hj => (HZ.out.lt hj).1)
      have HO7 := hide hO7
      clear hO7 hg7
      go_wp2_with fail
      refine (compact_txs w4.heap.size _ _ _ HO7.out HZL.out).mono ?_
      rintro e w8 ⟨a8, n8, c8, rfl, hO8, hg8⟩
      have hb8 : Below w4.heap.size w4 w8 := hb7.grown hg8 hb7.size (fun j hj => (HO7.out.lt hj).1)
      have HO8 := hide hO8
      clear hO8 hg8
      go_wp2
      go_ret
      exact ⟨⟨_, _, _, rfl, by rw [← lsl_is, HKP.out]; exact HO8.out.mono hw4⟩, hbw.trans (hb8.mono hbw.size)⟩
set_option maxHeartbeats 2000000 in
theorem impl_lost (v : Value) (bs : Brs) (b : Bool) (l : Txs) (w : World) (hv : BrsOf w v bs) (hf : FineS bs) (hkk : KK w) (hb : BP b (GdT bs)) (hl : (b = true → l = lsl bs) ∧ (b = false → l = [])) :
    Calls Tryz.prog 49 #[.agg #[v]] w fun e w' => SgA w w' e l b ∧ Below w.heap.size w w' := by
  have hal := (Below.refl w.heap.size w).alloc (Nat.le_refl _) (.cells #[v] 32)
  have HV := hide (hv.below hal)
  have HC := hide (show M.One (w.alloc (.cells #[v] 32)) w.heap.size v 32 from heap_alloc_new w _)
  have HF := hide hf
  have HB := hide hb
  have HL := hide hl
  have HK := hide (hkk.below hal)
  obtain ⟨a1, c1, rfl⟩ := hv.form
  have d0 := HC.out.cell
  clear hv hf hkk hb hl
  cases b
  · have HN2 := hide (HL.out.2 rfl)
    go_enter Tryz.func49, Tryz.ntmps49
    go_wp2_with fail
    refine (impl_gt _ bs false _ HV.out HF.out HK.out HB.out).mono ?_
    rintro e w2 ⟨rfl, hb2⟩
    have hbw := hal.trans (hb2.mono hal.size)
    go_wp2
    go_ret2
    exact ⟨⟨_, _, _, rfl, by rw [HN2.out]; exact OwnT.nil _ _⟩, hbw⟩
  · have HG := hide (HB.out.1 rfl)
    have HN2 := hide (HL.out.1 rfl)
    go_enter Tryz.func49, Tryz.ntmps49
    go_wp2_with fail
    refine (impl_gt _ bs true _ HV.out HF.out HK.out HB.out).mono ?_
    rintro e w2 ⟨rfl, hb2⟩
    clear d0
    have d0 := (HC.out.down hb2).cell
    have hbx := hal.trans (hb2.mono hal.size)
    go_wp2_with fail
    refine (tell_lost _ bs _ (HV.out.below hb2) HF.out (HK.out.below hb2) HG.out).mono ?_
    rintro e w3 ⟨⟨a3, n3, c3, rfl, hO⟩, hb3⟩
    have HO := hide (hO.mono hbx.size)
    have hbw := hbx.trans (hb3.mono hbx.size)
    clear hO hb2 hb3 d0
    go_wp2
    go_ret2
    exact ⟨⟨_, _, _, rfl, by rw [HN2.out]; exact HO.out⟩, hbw⟩
end Go.Proofs.YtfkeokglifpkoaaGreatDoor

/-
  Reapply in the program's text. Condition: the table knownKinds reads as its text lays it.
-/
namespace Go.Proofs.YtfkeokglifpkoaaGreatDoor
open Go.RowKit M
open Go.Sort (grow)
namespace M
theorem lsl_nm {bs : Brs} (hg : GdT bs) : ∀ x ∈ lsl bs, x.size ≤ maxLen := fun x hx => by
  obtain ⟨b, hb, hx'⟩ := lsl_mem hx
  exact nm12 ((hg.2.1 b hb).2.2.1.2.1.good (Nat.le_refl _)).2.2.1 x hx'
theorem one_blk (w : World) (v : Value) (t : TypeId) : Blk (w.alloc (.cells #[v] t)) w.heap.size 1 (fun _ => v) t := Blk.fresh _ _ _ _ _ rfl
theorem Blk.set1 {w : World} {g : Nat} {v : Value} {t : TypeId} (h : Blk w g 1 (fun _ => v) t) (u : Value) : Blk (w.setCell ⟨g, 0, none⟩ u) g 1 (fun _ => u) t :=
  (h.set 0 u).ext fun i hi => by
    obtain rfl : i = 0 := by omega
    rfl
theorem rps_yes {my : St → Ev → Bool} {id ver : Int} {s : Brs × Nat} {x : ByteArray} (h : tkc my ⟨id, ver, s.1⟩ 2 x = 0) : rps my id ver s x = (tkb my ⟨id, ver, s.1⟩ 2 x, s.2 + 1) := by unfold rps; rw [if_pos h]
theorem rps_no {my : St → Ev → Bool} {id ver : Int} {s : Brs × Nat} {x : ByteArray} (h : tkc my ⟨id, ver, s.1⟩ 2 x ≠ 0) : rps my id ver s x = (tkb my ⟨id, ver, s.1⟩ 2 x, s.2) := by unfold rps; rw [if_neg h]; rfl
/-- While names are put again: the keeper, the tally, the names. -/
structure QI (my : St → Ev → Bool) (w W : World) (B g tb nB : Nat) (nv v : Value) (ns : Txs) (bs : Brs) (id ver : Int) (k : Nat) : Prop where
  ex : ∃ u ps, KP W B g u ps id ver ∧ bsP ps = (rpl my id ver (ns.take k) (bs, 0)).1
  ta : Blk W tb 1 (fun _ => .int .i64 ((rpl my id ver (ns.take k) (bs, 0)).2 : Int)) 109
  nm : OwnT W nB nv ns
  r2 : R2 w W id ver v
theorem QI.down {my : St → Ev → Bool} {w W W' : World} {B g tb nB k : Nat} {nv v : Value} {ns : Txs} {bs : Brs} {id ver : Int} (h : QI my w W B g tb nB nv v ns bs id ver k) (hb : Below W.heap.size W W') : QI my w W' B g tb nB nv v ns bs id ver k := by
  obtain ⟨u, ps, h1, h2⟩ := h.ex
  exact ⟨⟨u, ps, h1.down hb, h2⟩, h.ta.down hb, h.nm.down hb, h.r2.down hb⟩
end M
set_option maxRecDepth 20000 in
set_option maxHeartbeats 8000000 in
theorem impl_reap_no (id ver : Int) (v : Value) (bs : Brs) (b : Bool) (w : World) (hv : BrsOf w v bs) (hf : FineS bs) (hkk : KK w) (hb : BP b (GdR ⟨id, ver, bs⟩)) (hno : (b && (rgv ver == id)) = false) :
    Calls Tryz.prog 33 #[rv id ver v] w fun e w' => (∃ v ps, e = .returned (.tuple #[rv 0 0 v, .int .i64 0, .bool false]) ∧ OwnP w' w.heap.size v ps ∧ bsP ps = []) ∧ Below w.heap.size w w' := by
  have HF := hide hf
  have HB := hide hb
  have HK := hide hkk
  obtain ⟨a1, c1, rfl⟩ := hv.form
  obtain ⟨W, hW⟩ : ∃ W, (w.alloc (.cells #[.int .i64 id, .int .i64 ver, .slice a1 bs.length c1] 34)).alloc (.cells #[.int .i64 0, .int .i64 0, .slice none 0 0] 34) = W := ⟨_, rfl⟩
  have HR := hide (show R2 w W id ver (.slice a1 bs.length c1) from by rw [← hW]; exact R2.new w _ _ _)
  have HV := hide (hv.below HR.out.low)
  have HW := hide hW
  obtain ⟨⟨d0, d1, d2⟩, -⟩ := HR.out.arg.tri
  rw [← hW] at d0 d1 d2
  have HN := hide hno
  clear hv hf hb hkk hW hno
  go_enter Tryz.func33, Tryz.ntmps33
  go_wp2_with fail
  rw [HW.out]
  clear HW d0 d1 d2
  refine (impl_active id ver _ bs b _ HV.out HF.out (HK.out.below HR.out.low) HB.out).mono ?_
  rw [HN.out]
  rintro e w1 ⟨rfl, hb1⟩
  have HR1 := hide (HR.out.down hb1)
  obtain ⟨WZ, hWZ⟩ : ∃ WZ, ((w1.setCell ⟨w.heap.size + 1, 0, none⟩ (.int .i64 0)).setCell ⟨w.heap.size + 1, 1, none⟩ (.int .i64 0)).setCell ⟨w.heap.size + 1, 2, none⟩ (.slice none 0 0) = WZ := ⟨_, rfl⟩
  obtain ⟨hz, hzb, -⟩ := HR1.out.fin (.int .i64 0) (.int .i64 0) (.slice none 0 0) WZ hWZ
  obtain ⟨⟨e0, e1, e2⟩, f0, f1, f2⟩ := HR1.out.res.tri
  have HWZ := hide hWZ
  have HZ := hide hz
  clear hz hWZ
  go_wp2
  rw [HWZ.out]
  clear e0 e1 e2 f0 f1 f2
  obtain ⟨⟨e0, e1, e2⟩, -⟩ := HZ.out.tri
  exact bodyPost_ret (v := .tuple #[rv 0 0 (.slice none 0 0), .int .i64 0, .bool false]) (by simp [results, Tryz.results33, go_sem, e0, e1, e2]) rfl ⟨⟨_, [], rfl, OwnP.nil _ _, rfl⟩, hzb⟩
set_option maxRecDepth 20000 in
set_option maxHeartbeats 8000000 in
theorem impl_reap_ok (my : St → Ev → Bool) (hmy : ∀ s e, BP (my s e) (May s e)) (id ver : Int) (v : Value) (bs : Brs) (w : World) (hv : BrsOf w v bs) (hf : FineS bs) (hkk : KK w) (hb : GdR ⟨id, ver, bs⟩) (hact : (rgv ver == id) = true) :
    Calls Tryz.prog 33 #[rv id ver v] w fun e w' => (∃ v ps, e = .returned (.tuple #[rv id ver v, .int .i64 ((rpA my ⟨id, ver, bs⟩).2 : Int), .bool true]) ∧ OwnP w' w.heap.size v ps ∧ bsP ps = (rpA my ⟨id, ver, bs⟩).1) ∧ Below w.heap.size w w' := by
  have HF := hide hf
  have HB := hide hb
  have HK := hide hkk
  obtain ⟨a1, c1, rfl⟩ := hv.form
  obtain ⟨W, hW⟩ : ∃ W, (w.alloc (.cells #[.int .i64 id, .int .i64 ver, .slice a1 bs.length c1] 34)).alloc (.cells #[.int .i64 0, .int .i64 0, .slice none 0 0] 34) = W := ⟨_, rfl⟩
  have HR := hide (show R2 w W id ver (.slice a1 bs.length c1) from by rw [← hW]; exact R2.new w _ _ _)
  have HV := hide (hv.below HR.out.low)
  have HW := hide hW
  obtain ⟨⟨d0, d1, d2⟩, -⟩ := HR.out.arg.tri
  rw [← hW] at d0 d1 d2
  have HBX := hide (show BP true (GdR ⟨id, ver, bs⟩) from ⟨fun _ => HB.out, fun _ => rfl⟩)
  have HACT := hide (show (true && (rgv ver == id)) = true from by rw [hact]; rfl)
  have HMY := hide hmy
  obtain ⟨ns, hns⟩ : ∃ ns, lsl bs = ns := ⟨_, rfl⟩
  have hln : ns.length ≤ 360 := by rw [← hns]; exact lsl_len HB.out.2.2.1
  have HNM := hide (show ∀ x ∈ ns, x.size ≤ maxLen from by rw [← hns]; exact lsl_nm HB.out.2.2.1)
  have HRA := hide (show rpA my ⟨id, ver, bs⟩ = rpl my id ver ns (bs, 0) from by unfold rpA; rw [hns])
  have HNS := hide hns
  rw [HRA.out]
  clear hv hf hb hkk hW hact hmy hns
  go_enter Tryz.func33, Tryz.ntmps33
  go_wp2_with fail
  rw [HW.out]
  clear HW d0 d1 d2
  refine (impl_active id ver _ bs true _ HV.out HF.out (HK.out.below HR.out.low) HBX.out).mono ?_
  rw [HACT.out]
  rintro e w1 ⟨rfl, hb1⟩
  have HR1 := hide (HR.out.down hb1)
  have HV1 := hide (HV.out.below hb1)
  obtain ⟨⟨d0, d1, d2⟩, -⟩ := HR1.out.arg.tri
  clear hb1 HR HV
  go_wp2_with fail
  refine (keeper_of id ver _ bs _ HV1.out HF.out HB.out.2.2.1.2.1).mono ?_
  rintro e w3 ⟨⟨g, u, ps, rfl, hKP, hps⟩, hb3⟩
  have HB1 := hide HR1.out.big
  have hB13 := hb3.size
  have hg3 : g < w3.heap.size := hKP.box.lt
  obtain ⟨W4, hW4⟩ : ∃ W4, w3.alloc (.cells #[.int .i64 0] 109) = W4 := ⟨_, rfl⟩
  have h34 : Below w3.heap.size w3 W4 := by rw [← hW4]; exact low1 _ _
  have HTA := hide (show Blk W4 w3.heap.size 1 (fun _ => .int .i64 0) 109 from by rw [← hW4]; exact one_blk _ _ _)
  have HKP := hide (hKP.down h34)
  have HR4 := hide ((HR1.out.down hb3).down h34)
  have HPS := hide hps
  have HW4 := hide hW4
  have h34s := h34.size
  clear hb3 hKP hps h34 d0 d1 d2 HR1 HV1 hW4
  obtain ⟨⟨y0, y1, y2⟩, -⟩ := HKP.out.box.tri
  go_upto_region 6 with fail
  rw [HW4.out]
  clear HW4
  go_wp2_with fail
  refine (tell_lost u bs _ (by have := HKP.out.own.brs; rwa [HPS.out] at this) HF.out (HK.out.below HR4.out.low) HB.out.2.2.1).mono ?_
  rintro e w5 ⟨⟨an, nn, cn, rfl, hN⟩, hb5⟩
  obtain ⟨ax, cx, hx3⟩ := hN.form
  simp only [Value.slice.injEq] at hx3
  obtain ⟨rfl, rfl, rfl⟩ := hx3
  rw [HNS.out] at hN ⊢
  have htg : g < w3.heap.size := hg3
  have HQ := hide (show QI my w w5 w1.heap.size g w3.heap.size W4.heap.size (.slice an ns.length cn) (.slice a1 bs.length c1) ns bs id ver 0 from
    ⟨⟨u, ps, HKP.out.down hb5, by rw [HPS.out]; rfl⟩, HTA.out.down hb5, hN, HR4.out.down hb5⟩)
  have h45s := hb5.size
  clear hb5 hN HR4 HKP HTA HPS y0 y1 y2 HRA HNS
  go_wp2_with fail
  go_loopw [27] (fun i wr => ∃ k : Nat, k ≤ ns.length ∧ i = .int .i64 k ∧ Hid (QI my w wr w1.heap.size g w3.heap.size W4.heap.size (.slice an ns.length cn) (.slice a1 bs.length c1) ns bs id ver k)) (fun i _ => ns.length - (intOf i).toNat)
  case atStart => exact ⟨0, Nat.zero_le _, rfl, HQ⟩
  case round =>
    obtain ⟨k, hk, rfl, HQ⟩ := hrel
    by_cases hlt : k < ns.length
    · obtain ⟨x, hx⟩ : ∃ x, ns[k]? = some x := ⟨ns[k], List.getElem?_eq_getElem hlt⟩
      obtain ⟨za, zc, hzv, hzr⟩ := HQ.out.nm.txs
      simp only [Value.slice.injEq, true_and] at hzv
      obtain ⟨hza, hzc'⟩ := hzv
      subst hza
      clear hzc'
      obtain ⟨zb, zo, rfl, hzl, hzc⟩ := hzr (by omega)
      have c0 := hzc k x hx
      have HX := hide hx
      have hxs := HNM.out x (List.mem_of_getElem? hx)
      have hws : w1.heap.size ≤ wr.heap.size := Nat.le_trans (by omega) (Nat.le_of_lt HQ.out.ta.lt)
      obtain ⟨u, ps, hKP, hps⟩ := HQ.out.ex
      have HKP := hide hKP
      have HPS := hide hps
      have hgr : GdR ⟨id, ver, bsP ps⟩ := by rw [hps]; exact rpl_good HMY.out _ _ HB.out
      have HGR := hide hgr
      have hkw : Below w.heap.size w wr := HQ.out.r2.low
      have HKK := hide (HK.out.below hkw)
      have hnt : ¬ KS g u w3.heap.size := by
        rintro (e | e)
        · omega
        · exact owns_ne_blk hKP.own.row HQ.out.ta (by decide) e
      have hnn : ∀ q, (Value.slice (some ⟨zb, zo, none⟩) ns.length cn).ownBlock = some q → ¬ KS g u q := fun q hq => by
        rintro (e | e)
        · have := (HQ.out.nm.lt hq).1; omega
        · exact owns_apart HQ.out.nm hKP.own.row (by decide) q hq e.symm
      have HNT := hide hnt
      have HNN := hide hnn
      clear hKP hps hzr hzc hx hgr hnt hnn hkw
      go_wp2_with fail
      refine (keeper_take my HMY.out id ver g w1.heap.size u ps 2 x _ HKP.out hws HGR.out hxs HKK.out).mono ?_
      rintro e w6 ⟨rfl, u6, ps6, hKP6, hps6, hch⟩
      have hsn := rpl_snoc (my := my) (id := id) (ver := ver) (s := (bs, 0)) HX.out
      have hTA6 := HQ.out.ta.chg hch HNT.out
      have hNM6 : OwnT w6 W4.heap.size (.slice (some ⟨zb, zo, none⟩) ns.length cn) ns := owns_chg HQ.out.nm hch HNN.out
      have hR6 := HQ.out.r2.chg hch (fun q hq => Nat.le_trans HB1.out (HKP.out.ks q hq))
      rw [HPS.out] at hps6
      have hmb : (rpl my id ver (ns.take k) (bs, 0)).2 ≤ 360 := by
        have := rpl_len (my := my) (id := id) (ver := ver) (ns.take k) (bs, 0)
        simp at this; omega
      obtain ⟨m, hm⟩ : ∃ m, (rpl my id ver (ns.take k) (bs, 0)).2 = m := ⟨_, rfl⟩
      rw [hm] at hTA6 hmb
      by_cases hc : tkc my ⟨id, ver, bsP ps⟩ 2 x = 0
      · have hst := rps_yes (my := my) (id := id) (ver := ver) (s := rpl my id ver (ns.take k) (bs, 0)) (x := x) (by rw [← HPS.out]; exact hc)
        rw [hst, hm] at hsn
        have HQ7 := hide (show QI my w (w6.setCell ⟨w3.heap.size, 0, none⟩ (.int .i64 ((m : Int) + 1))) w1.heap.size g w3.heap.size W4.heap.size (.slice (some ⟨zb, zo, none⟩) ns.length cn) (.slice a1 bs.length c1) ns bs id ver (k + 1) from by
          refine ⟨⟨u6, ps6, ⟨hKP6.box.off (by omega) _, hKP6.own.set_off hTA6 (by decide) (by decide) _, hKP6.lo⟩, by rw [hsn]; exact hps6⟩, ?_, owns_set hNM6 (owns_ne_blk hNM6 hTA6 (by decide)) 0 _, ⟨hR6.low.setCell (p := ⟨w3.heap.size, 0, none⟩) (by have := HB1.out; simp only; omega) _, hR6.arg.off (by have := HB1.out; omega) _, hR6.res.off (by have := HB1.out; omega) _, by simpa using hR6.big⟩⟩
          have := hTA6.set1 (.int .i64 ((m : Int) + 1))
          rw [hsn]; exact_mod_cast this)
        have HC6 := hide (count_yes w3.heap.size (m : Int) w6 (hTA6.cell (i := 0) (by omega)) (hTA6.thaw 0) (by omega) (by omega))
        rw [hc]
        clear hsn hTA6 hNM6 hR6 hps6 hm hKP6 hch hst c0 HQ HKP HPS HGR HKK HNT HNN
        go_wp2_with fail
        refine HC6.out.mono ?_
        rintro e w7 ⟨rfl, rfl⟩
        go_wp2
        exact ⟨⟨k + 1, by omega, by go_num, HQ7⟩, by simp [intOf]; omega⟩
      · have hst := rps_no (my := my) (id := id) (ver := ver) (s := rpl my id ver (ns.take k) (bs, 0)) (x := x) (by rw [← HPS.out]; exact hc)
        rw [hst, hm] at hsn
        have HQ7 := hide (show QI my w w6 w1.heap.size g w3.heap.size W4.heap.size (.slice (some ⟨zb, zo, none⟩) ns.length cn) (.slice a1 bs.length c1) ns bs id ver (k + 1) from
          ⟨⟨u6, ps6, hKP6, by rw [hsn]; exact hps6⟩, by rw [hsn]; exact hTA6, hNM6, hR6⟩)
        have HC6 := hide (count_no w3.heap.size _ w6 hc)
        clear hsn hTA6 hNM6 hR6 hps6 hm hKP6 hch hst c0 HQ HKP HPS HGR HKK HNT HNN
        go_wp2_with fail
        refine HC6.out.mono ?_
        rintro e w7 ⟨rfl, rfl⟩
        go_wp2
        exact ⟨⟨k + 1, by omega, by go_num, HQ7⟩, by simp [intOf]; omega⟩
    · obtain rfl : k = ns.length := by omega
      obtain ⟨u, ps, hKP, hps⟩ := HQ.out.ex
      rw [List.take_length] at hps
      have HKP := hide hKP
      have HPS := hide hps
      obtain ⟨au, cu, rfl⟩ := hKP.own.form
      have hta := HQ.out.ta
      rw [List.take_length] at hta
      obtain ⟨m, hm⟩ : ∃ m, (rpl my id ver ns (bs, 0)).2 = m := ⟨_, rfl⟩
      rw [hm] at hta
      have HTA := hide hta
      have HM := hide hm
      clear hKP hps hta hm
      go_wp2_with fail
      refine (keeper_region id ver g w1.heap.size _ ps _ HKP.out).mono ?_
      rintro e w6 ⟨rfl, hb6⟩
      have HR6 := hide (HQ.out.r2.down hb6)
      have HO6 := hide (HKP.out.own.down hb6)
      have hm6 := how_many w3.heap.size (m : Int) w6 ((HTA.out.down hb6).cell (i := 0) (by omega))
      have HM6 := hide hm6
      clear hm6 hb6 HKP HTA HQ
      go_wp2_with fail
      refine HM6.out.mono ?_
      rintro e w7 ⟨rfl, hw7⟩
      rw [hw7]
      clear hw7 w7
      obtain ⟨WZ, hWZ⟩ : ∃ WZ, ((w6.setCell ⟨w.heap.size + 1, 0, none⟩ (.int .i64 id)).setCell ⟨w.heap.size + 1, 1, none⟩ (.int .i64 ver)).setCell ⟨w.heap.size + 1, 2, none⟩ (.slice au ps.length cu) = WZ := ⟨_, rfl⟩
      obtain ⟨hz, hzb, hzo⟩ := HR6.out.fin (.int .i64 id) (.int .i64 ver) (.slice au ps.length cu) WZ hWZ
      have HZO := hide (hzo _ _ _ HO6.out HB1.out)
      obtain ⟨⟨e0, e1, e2⟩, f0, f1, f2⟩ := HR6.out.res.tri
      have HWZ := hide hWZ
      have HZ := hide hz
      clear hz hWZ hzo HR6 HO6
      go_wp2
      rw [HWZ.out]
      clear e0 e1 e2 f0 f1 f2
      obtain ⟨⟨e0, e1, e2⟩, -⟩ := HZ.out.tri
      exact bodyPost_ret (v := .tuple #[rv id ver (.slice au ps.length cu), .int .i64 (m : Int), .bool true]) (by simp [results, Tryz.results33, go_sem, e0, e1, e2]) rfl ⟨⟨_, ps, by rw [HM.out], HZO.out, HPS.out⟩, hzb⟩
end Go.Proofs.YtfkeokglifpkoaaGreatDoor

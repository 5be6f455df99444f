/-
  Texts that follow one another, joined: BrJ, BrP.
-/
import Derived.Test.YtcbkeabfnldmhaaGreatDoorJoin42
import Derived.Test.YtcbkeabfnldmhaaGreatDoorJoin7
import Derived.Test.YtcbkeabfnldmhaaGreatDoorJoin13
import Derived.Sort.OwnSorted
import Derived.Test.YtcbkeabfnldmhaaGreatDoorJoin43
import Derived.Test.YtcbkeabfnldmhaaGreatDoorJoin24
import Derived.Deep.RegionWith
/-
  slices.Sort and slices.Compact at texts of the call's own: the same block, what it holds sorted, freed of what is told twice.
-/
namespace Go.Proofs.YtcbkeabfnldmhaaGreatDoor
open Go.RowKit M
open Go.Sort (grow)
open Go Go.Sort Go.Proofs
namespace M
theorem enc_to (zs : List Bs) : zs.map encStr = sv (zs.map toB) := by
  simp [sv, toB, List.map_map, Function.comp_def]
theorem enc_un (l : Txs) : (l.map unB).map encStr = sv l := by
  rw [enc_to, List.map_map]
  congr 1
  conv => rhs; rw [← List.map_id l]
  exact List.map_congr_left fun x _ => toB_un x
def srtT (l : Txs) : Txs := (srt l).map toB
theorem srtT_len (l : Txs) : (srtT l).length = l.length := by unfold srtT; rw [List.length_map, srt_len]
theorem srtT_un (l : Txs) : (srtT l).map unB = srt l := by
  unfold srtT
  rw [List.map_map]
  conv => rhs; rw [← List.map_id (srt l)]
  exact List.map_congr_left fun x _ => unB_to x
theorem cpt_len (zs : List Bs) : (Lib.compact zs).length ≤ zs.length := by
  unfold Lib.compact Lib.compactUpTo
  rw [List.length_map]
  exact Nat.le_trans (List.length_filter_le _ _) (by simp)
theorem fnl_len (l : Txs) : (fnl l).length ≤ l.length := by
  unfold fnl
  rw [List.length_map]
  exact Nat.le_trans (cpt_len _) (by rw [srt_len]; exact Nat.le_refl _)
theorem fnl_nil : fnl [] = [] := List.eq_nil_of_length_eq_zero (Nat.le_zero.1 (fnl_len []))
end M
theorem ins_nil (w : World) :
    Calls Tryz.prog 136 #[.slice none 0 0, .int .i64 0, .int .i64 0] w fun e w' => e = .returned (.tuple #[]) ∧ w' = w := by
  go_enter Tryz.func136, Tryz.ntmps136
  go_wp2
  go_loop [6] (fun y => y = .int .i64 1) (fun _ => 0)
  case atStart => rfl
  case round =>
    obtain rfl := hrel
    go_wp2
    first | go_end0 | (simp only [Exit.inBlock, Exit.then]; refine bodyPost_ret (results_none rfl _ _ _) rfl ?_) | refine bodyPost_ret (results_none rfl _ _ _) rfl ?_
    exact ⟨rfl, rfl⟩
theorem pdq_nil (w : World) (k : Int) :
    Calls Tryz.prog 118 #[.slice none 0 0, .int .i64 0, .int .i64 0, .int .i64 k] w fun e w' => e = .returned (.tuple #[]) ∧ w' = w := by
  go_enter Tryz.func118, Tryz.ntmps118
  go_wp2
  go_loop [1, 2] (fun x y => x = .int .i64 0 ∧ y = .int .i64 0) (fun _ _ => 0)
  case atStart => exact ⟨rfl, rfl⟩
  case round =>
    obtain ⟨rfl, rfl⟩ := hrel
    go_wp2_with fail
    refine (ins_nil w).mono ?_
    rintro e w' ⟨rfl, rfl⟩
    go_wp2
    first | go_end0 | (simp only [Exit.inBlock, Exit.then]; refine bodyPost_ret (results_none rfl _ _ _) rfl ?_) | refine bodyPost_ret (results_none rfl _ _ _) rfl ?_
    exact ⟨rfl, rfl⟩
theorem bits_nil (w : World) :
    Calls Tryz.prog 119 #[.int .u64 0] w fun e w' => (∃ k : Int, e = .returned (.int .i64 k)) ∧ w' = w := by
  go_enter Tryz.func119, Tryz.ntmps119
  go_wp2
  go_ret
  exact ⟨⟨_, rfl⟩, rfl⟩
theorem sort_nil (w : World) :
    Calls Tryz.prog 93 #[.slice none 0 0] w fun e w' => e = .returned (.tuple #[]) ∧ w.grownBy w' none := by
  go_enter Tryz.func93, Tryz.ntmps93
  go_wp2_with fail
  refine (bits_nil _).mono ?_
  rintro e w1 ⟨⟨kb, rfl⟩, hw1⟩
  have hw2 := hw1.symm
  subst hw2
  clear hw1
  go_wp2_with (go_at_call 118; refine (pdq_nil _ _).mono ?_; rintro e w' ⟨rfl, rfl⟩) 
  first | go_end0 | (simp only [Exit.inBlock, Exit.then]; refine bodyPost_ret (results_none rfl _ _ _) rfl ?_) | refine bodyPost_ret (results_none rfl _ _ _) rfl ?_
  exact ⟨rfl, gbT_refl _ _⟩
theorem sort_txs (B : Nat) (v : Value) (l : Txs) (w : World) (h : OwnT w B v l) (hn : l.length ≤ 1048576) :
    Calls Tryz.prog 93 #[v] w fun e w' => e = .returned (.tuple #[]) ∧ OwnT w' B v (srtT l) ∧ w.grownBy w' v.ownBlock := by
  rcases h.2 with ⟨rfl, h0⟩ | ⟨g, cap, cur, rfl, hB, hb, h1, h2, h3, h4⟩
  · have h0' := List.eq_nil_of_length_eq_zero h0
    subst h0'
    refine (sort_nil w).mono ?_
    rintro e w' ⟨rfl, hg⟩
    have hs0 : srtT [] = [] := List.eq_nil_of_length_eq_zero (srtT_len [])
    rw [hs0]
    exact ⟨rfl, OwnT.nil _ _, hg⟩
  · have hcur : cur.toList.take (l.map unB).length = (l.map unB).map encStr := by
      rw [enc_un, List.length_map]; simpa using h4
    have hg : g < w.heap.size := (Array.getElem?_eq_some_iff.1 hb).1
    have hc := Tryz.slices_Sort_string g 0 cap (l.map unB) w (holds_of_block hb hcur) hg (by rw [List.length_map]; omega)
    rw [List.length_map] at hc
    refine hc.mono ?_
    rintro e w' ⟨rfl, n, os, rfl⟩
    refine ⟨rfl, ?_, grownBy_sorted _⟩
    have hl : (srt l).length = (l.map unB).length := by rw [srt_len, List.length_map]
    have := ownsRow_sorted (n := n) (os := os) hl hB hb (by rw [List.length_map]; exact h1) h2 h3
    rw [List.length_map, enc_to] at this
    unfold OwnT
    rw [srtT_len]
    exact this
theorem compact_txs (B : Nat) (v : Value) (l : Txs) (w : World) (h : OwnT w B v (srtT l)) (hn : l.length ≤ 1048576) :
    Calls Tryz.prog 94 #[v] w fun e w' => ∃ a n c, e = .returned (.slice a n c) ∧ OwnT w' B (.slice a n c) (fnl l) ∧ w.grownBy w' v.ownBlock := by
  have hk := h
  unfold OwnT at hk
  rw [srtT_len] at hk
  rcases hk.2 with ⟨rfl, h0⟩ | ⟨g, cap, cur, rfl, hB, hb, h1, h2, h3, h4⟩
  · have h0' := List.eq_nil_of_length_eq_zero h0
    subst h0'
    refine (Tryz.slices_Compact_string_empty none 0 w).mono ?_
    rintro e w' ⟨rfl, rfl⟩
    exact ⟨_, _, _, rfl, by rw [fnl_nil]; exact OwnT.nil _ _, gbT_refl _ _⟩
  · have hcur : cur.toList.take (srt l).length = (srt l).map encStr := by
      rw [enc_to, srt_len]; simpa [srtT] using h4
    have hg : g < w.heap.size := (Array.getElem?_eq_some_iff.1 hb).1
    have hc := Tryz.slices_Compact_string g 0 cap (srt l) w (holds_of_block hb hcur) (by rw [srt_len]; omega) (by rw [srt_len]; exact h1)
    rw [srt_len] at hc
    refine hc.mono ?_
    rintro e w' ⟨rfl, q, rfl⟩
    have hcl : (Lib.compact (srt l)).length ≤ l.length := by have := cpt_len (srt l); rw [srt_len] at this; exact this
    obtain ⟨zs, hzs⟩ : ∃ zs, Lib.compact (srt l) ++ List.replicate (l.length - (Lib.compact (srt l)).length) ([] : List UInt8) = zs := ⟨_, rfl⟩
    have hzl : zs.length = l.length := by rw [← hzs, List.length_append, List.length_replicate]; omega
    rw [hzs]
    have hgr : grow (putRow encStr (Sort.ahead w q) g 0 zs.toArray) #[] = putRow encStr (Sort.ahead w q) g 0 zs.toArray := by simp [grow, putRow, mapBlock, Sort.ahead]
    have hhp := heap_sorted (n := q) (os := #[]) zs.toArray hb
    have hgb := grownBy_sorted (w := w) (g := g) (n := q) (os := #[]) zs.toArray
    rw [hgr] at hhp hgb
    refine ⟨some ⟨g, 0, none⟩, _, cap, rfl, ?_, hgb⟩
    have hfl : (fnl l).length = (Lib.compact (srt l)).length := by unfold fnl; rw [List.length_map]
    unfold OwnT
    rw [← hfl]
    refine ⟨by rw [sv_len, Nat.mul_one], .inr ⟨g, cap, _, rfl, hB, hhp, by omega, h2, by simp [putCells, h3], ?_⟩⟩
    rw [Nat.mul_one]
    have ht := take_putCells cur zs (by rw [hzl]; omega)
    have h5 := congrArg (List.take (fnl l).length) ht
    rw [List.take_take, Nat.min_eq_left (by rw [hzl, hfl]; exact hcl)] at h5
    rw [h5, ← List.map_take, ← hzs, hfl, List.take_left, enc_to]
    rfl
end Go.Proofs.YtcbkeabfnldmhaaGreatDoor

/-
  LostSignals in the program's text. Condition: the table knownKinds reads as its text lays it.
-/
namespace Go.Proofs.YtcbkeabfnldmhaaGreatDoor
open Go.RowKit M
open Go.Sort (grow)
set_option maxRecDepth 20000 in
set_option maxHeartbeats 4000000 in
theorem tell_lost (v : Value) (bs : Brs) (w : World) (hv : BrsOf w v bs) (hf : FineS bs) (hkk : KK w) (hg : GdT bs) :
    Calls Tryz.prog 61 #[.agg #[v]] w fun e w' => (∃ a n c, e = .returned (.slice a n c) ∧ OwnT w' w.heap.size (.slice a n c) (lsl bs)) ∧ Below w.heap.size w w' := by
  have hal := (Below.refl w.heap.size w).alloc (Nat.le_refl _) (.cells #[v] 30)
  have HV := hide (hv.below hal)
  have HC := hide (show M.One (w.alloc (.cells #[v] 30)) w.heap.size v 30 from heap_alloc_new w _)
  have HF := hide hf
  have HG := hide hg
  have HK := hide (hkk.below hal)
  have hn := hf.1
  have h12 := hg.1
  obtain ⟨a1, c1, rfl⟩ := hv.form
  have d0 := HC.out.cell
  clear hv hf hkk hg
  obtain ⟨kb, hkb⟩ := bp_ex (Hist (cB bs))
  have HKB := hide hkb
  have HKL := hide (show (kb = true → keptOf bs = (sk (cB bs) (cB bs).length).sg) ∧ (kb = false → keptOf bs = []) from ⟨fun _ => rfl, fun h => by
    subst h
    by_cases h0 : bs = []
    · subst h0; rfl
    · have hp : 0 < bs.length := List.length_pos_iff.2 h0
      have ht := HG.out.2.1 (curB bs) (List.mem_of_getElem? (cur_b hp))
      have hcb : cB bs = curB bs := if_neg h0
      rw [hcb] at hkb
      have := hkb.2 ht.2
      cases this⟩)
  have HCN := hide (show (cB bs).length ≤ 1048576 ∧ ∀ e ∈ cB bs, e.name.size ≤ maxLen from by
    by_cases h0 : bs = []
    · subst h0; exact ⟨by simp [cB], fun e he => by simp [cB] at he⟩
    · have hp : 0 < bs.length := List.length_pos_iff.2 h0
      have hcb : cB bs = curB bs := if_neg h0
      rw [hcb]
      exact HF.out.2 _ (List.mem_of_getElem? (cur_b hp)))
  obtain ⟨kp, hkp⟩ : ∃ kp, keptOf bs = kp := ⟨_, rfl⟩
  have HKP := hide hkp
  clear hkb hkp
  go_enter Tryz.func61, Tryz.ntmps61
  go_wp2_with fail
  refine (impl_current _ bs _ HV.out HF.out HG.out).mono ?_
  rintro e w3 ⟨⟨a3, c3, rfl, hs3⟩, hb13⟩
  have HS3 := hide hs3
  clear hs3 d0
  go_wp2_with fail
  refine (impl_signalsIn _ (cB bs) kb (keptOf bs) _ HS3.out HCN.out.1 HCN.out.2 (HK.out.below hb13) HKB.out HKL.out).mono ?_
  rintro e w4 ⟨⟨a4, n4, c4, rfl, hO4⟩, hb4⟩
  have hb14 := hb13.trans (hb4.mono hb13.size)
  have hbw := hal.trans (hb14.mono hal.size)
  have d0 := (HC.out.down hb14).cell
  rw [HKP.out] at hO4
  have hn4 := hO4.len
  subst hn4
  have HKT := hide hO4.txs
  have hkl : kp.length ≤ 1048576 := by
    rcases Nat.lt_or_ge 1048576 kp.length with h | h
    · have := HKL.out
      rw [HKP.out] at this
      cases kb
      · rw [this.2 rfl] at h; simp at h
      · have hE := (HKB.out.1 rfl).2.1
        have hg := hE.2.1.good (Nat.le_refl _)
        have h3 := hg.2.2.1.1
        rw [← this.1 rfl] at h3
        omega
    · exact h
  have hw4 := hbw.size
  clear hO4 hb4 hb13 HS3 HKB HKL HCN
  go_wp2
  go_loopw [5, 21] (fun x i wr => ∃ (k n c : Nat) (ao : Option Addr), k ≤ bs.length ∧ i = .int .i64 k ∧ x = .slice ao n c ∧ Hid (OwnT wr w4.heap.size (.slice ao n c) (gat kp (allS (bs.take k)))) ∧ Hid ((gat kp (allS (bs.take k))).length ≤ 60 * k) ∧ Below w4.heap.size w4 wr) (fun _ i _ => bs.length - (intOf i).toNat)
  case atStart => exact ⟨0, 0, 0, none, Nat.zero_le _, rfl, rfl, hide (OwnT.nil _ _), hide (by simp [allS, gat]), Below.refl _ _⟩
  case round =>
    obtain ⟨k, n, c, ao, hk, rfl, rfl, HO, HN, hbr⟩ := hrel
    clear d0
    by_cases hlt : k < bs.length
    · obtain ⟨es, he⟩ : ∃ e, bs[k]? = some e := ⟨bs[k], List.getElem?_eq_getElem hlt⟩
      have hW1 := hb14.trans (hbr.mono hb14.size)
      obtain ⟨g, off, rfl, hlg, a2, c2, hc, hs⟩ := HV.out.at he
      have hcw := (hW1.cell (p := ⟨g, off + k, none⟩) hlg).trans hc
      have hal2 := (Below.refl wr.heap.size wr).alloc (Nat.le_refl _) (.cells #[.slice a2 es.length c2] 55)
      have q0 : (wr.alloc (.cells #[.slice a2 es.length c2] 55)).cell? ⟨wr.heap.size, 0, none⟩ = some (.slice a2 es.length c2) := one_new wr _ _
      have htl := HG.out.2.1 es (List.mem_of_getElem? he)
      have hfe := HF.out.2 es (List.mem_of_getElem? he)
      obtain ⟨ns, hns⟩ : ∃ ns, sgB es = ns := ⟨_, rfl⟩
      have hnl : ns.length ≤ 60 := by
        have hg := htl.2.2.1.2.1.good (Nat.le_refl _)
        have h3 := hg.2.2.1.1
        rw [← hns]; unfold sgB; omega
      have HSG := hide (fun W (h : Below (wr.alloc (.cells #[.slice a2 es.length c2] 55)).heap.size (wr.alloc (.cells #[.slice a2 es.length c2] 55)) W) => impl_signalsIn (.slice a2 es.length c2) es true (sgB es) W (hs.below ((hW1.trans (hal2.mono hW1.size)).trans (h.mono (hW1.trans (hal2.mono hW1.size)).size))) hfe.1 hfe.2 (HK.out.below ((hW1.trans (hal2.mono hW1.size)).trans (h.mono (hW1.trans (hal2.mono hW1.size)).size))) ⟨fun _ => htl.2, fun _ => rfl⟩ ⟨fun _ => rfl, fun h => by cases h⟩)
      have HNS := hide hns
      have HES := hide he
      clear hc hs htl hfe hns he hW1
      go_wp2_with fail
      refine (HSG.out _ (Below.refl _ _)).mono ?_
      rw [HNS.out]
      rintro e w5 ⟨⟨a5, n5, c5, rfl, hO5⟩, hb5⟩
      have hn5 := hO5.len
      subst hn5
      have hr5 := hal2.trans (hb5.mono hal2.size)
      have hbr5 := hbr.trans (hr5.mono hbr.size)
      have HO5 := hide (HO.out.down hr5)
      obtain ⟨sz, hsz⟩ : ∃ sz, wr.heap.size + 1 = sz := ⟨_, rfl⟩
      have HX := hide (show OwnT w5 sz (.slice a5 ns.length c5) ns from by rw [← hsz]; simpa using hO5)
      have HAP := hide (show ∀ q, (Value.slice a5 ns.length c5).ownBlock = some q → (Value.slice ao n c).ownBlock ≠ some q ∧ q < w5.heap.size from fun q hq => ⟨fun h2 => by
        have h3 := (HX.out.lt hq).1
        have h4 := (HO.out.lt h2).2
        omega, (HX.out.lt hq).2⟩)
      have hw5 : w4.heap.size ≤ w5.heap.size := hbr5.size
      obtain ⟨L, hL⟩ : ∃ L, gat kp (allS (bs.take k)) = L := ⟨_, rfl⟩
      have HLE := hide hL
      rw [hL] at HO5 HN
      clear hL hO5 hb5 hal2 hr5 q0 hcw HSG HO
      go_wp2
      go_loopw [5, 33] (fun x i wi => ∃ (j n c : Nat) (ao : Option Addr), j ≤ ns.length ∧ i = .int .i64 j ∧ x = .slice ao n c ∧ Hid (OwnT wi w4.heap.size (.slice ao n c) (L ++ gat kp (ns.take j))) ∧ Hid (OwnT wi sz (.slice a5 ns.length c5) ns ∧ ∀ q, (Value.slice a5 ns.length c5).ownBlock = some q → (Value.slice ao n c).ownBlock ≠ some q ∧ q < wi.heap.size) ∧ Below w4.heap.size w4 wi) (fun _ i _ => ns.length - (intOf i).toNat)
      case atStart => exact ⟨0, n, c, ao, Nat.zero_le _, rfl, rfl, hide (by have := HO5.out; simpa [gat] using this), hide ⟨HX.out, HAP.out⟩, hbr5⟩
      case round =>
        obtain ⟨j, m, cm, am, hj, rfl, rfl, HM, HY, hbi⟩ := hrel
        clear hbr5 HO5 HX HAP
        by_cases hjl : j < ns.length
        · obtain ⟨y, hy⟩ : ∃ y, ns[j]? = some y := ⟨ns[j], List.getElem?_eq_getElem hjl⟩
          rcases HY.out.1.split with ⟨h0, h1⟩ | ⟨g5, cap5, hv5, -⟩
          · rw [h1] at hjl; simp at hjl
          · simp only [Value.slice.injEq] at hv5
            obtain ⟨rfl, -, rfl⟩ := hv5
            have c0 := HY.out.1.cell hy
            obtain ⟨cb, hcb⟩ := bp_ex (y ∈ kp)
            have HCB := hide hcb
            have HKW := hide (HKT.out.below hbi)
            have HTK := hide (take_snoc' hy)
            have hgl : (L ++ gat kp (ns.take j)).length ≤ 780 := by
              have h1 := HN.out
              have h2 := gat_len kp (ns.take j)
              rw [List.length_take] at h2
              rw [List.length_append]; omega
            have HGL := hide hgl
            clear hcb hy hgl
            cases cb
            · have HNI := hide (show ¬ y ∈ kp from fun h => by have := HCB.out.2 h; cases this)
              go_wp2_with fail
              refine (contains_txs _ kp y false _ HKW.out hkl HCB.out).mono ?_
              rintro e wv ⟨rfl, hwv⟩
              rw [hwv]
              clear hwv wv
              have hown := HM.out.alloc (.cells #[.string y] 9)
              have hlit := lit_txc (w := wr.alloc (.cells #[.string y] 9)) (heap_alloc_new wr (.cells #[.string y] 9))
              clear c0
              go_wp2_with (at_builtin; refine wpList_app _ rfl _ _ rfl w4.heap.size (L ++ gat kp (ns.take j)) [y] _ _ rfl hown rfl hlit (by have := HGL.out; simp only [List.length_singleton]; omega) (by have := hbi.size; simp; omega) ?_)
              intro a6 n6 c6 w6 hO6 hgr hblk
              have hb6 : Below w4.heap.size w4 w6 := (hbi.alloc hbi.size _).grown hgr (by have := hbi.size; simp; omega) (fun j hj => (hown.lt hj).1)
              have HO6 := hide (show OwnT w6 w4.heap.size (.slice a6 n6 c6) (L ++ gat kp (ns.take (j + 1))) from by rw [HTK.out, gat_app, gat_out HNI.out]; simpa using hO6)
              have hsz6 : wr.heap.size + 1 ≤ w6.heap.size := by have := hgr.size; simpa using this
              have HY6 := hide (show OwnT w6 sz (.slice (some ⟨g5, 0, none⟩) ns.length c5) ns ∧ ∀ q, (Value.slice (some ⟨g5, 0, none⟩) ns.length c5).ownBlock = some q → (Value.slice a6 n6 c6).ownBlock ≠ some q ∧ q < w6.heap.size from
                ⟨(HY.out.1.alloc (.cells #[.string y] 9)).other hgr (fun q hq e => (HY.out.2 q hq).1 e.symm), fun q hq => by
                  have h1 := HY.out.2 q hq
                  refine ⟨fun h2 => ?_, by omega⟩
                  rcases hblk with h | h
                  · rw [h] at h2; exact h1.1 h2
                  · rw [h] at h2; simp at h2; omega⟩)
              clear hO6 hgr hblk hown hlit hbi HM HY HKW HTK HGL HNI HCB hsz6
              go_wp2
              go_roundw
              case rel => exact ⟨j + 1, n6, c6, a6, by omega, by go_num, rfl, HO6, HY6, hb6⟩
              case measure => simp [intOf]; omega
            · have HM2 := hide (show OwnT wr w4.heap.size (.slice am m cm) (L ++ gat kp (ns.take (j + 1))) from by rw [HTK.out, gat_app, gat_in (HCB.out.1 rfl), List.append_nil]; exact HM.out)
              go_wp2_with fail
              refine (contains_txs _ kp y true _ HKW.out hkl HCB.out).mono ?_
              rintro e wv ⟨rfl, hwv⟩
              rw [hwv]
              clear hwv wv
              clear c0 HM HKW HTK HGL HCB
              go_wp2
              go_roundw
              case rel => exact ⟨j + 1, m, cm, am, by omega, by go_num, rfl, HM2, HY, hbi⟩
              case measure => simp [intOf]; omega
        · obtain rfl : j = ns.length := by omega
          have HS1 := hide (show gat kp (allS (bs.take (k + 1))) = L ++ gat kp ns by rw [take_snocB HES.out, allS_app, gat_app, HLE.out]; simp [allS, HNS.out])
          have HM2 := hide (show OwnT wr w4.heap.size (.slice am m cm) (gat kp (allS (bs.take (k + 1)))) from by
            have := HM.out
            rw [List.take_length] at this
            rw [HS1.out]; exact this)
          have HN3 := hide (show (gat kp (allS (bs.take (k + 1)))).length ≤ 60 * (k + 1) from by
            rw [HS1.out, List.length_append]
            have h1 := HN.out
            have h2 := gat_len kp ns
            omega)
          clear HM HY HS1 HN
          go_wp2
          go_roundw
          case rel => exact ⟨k + 1, m, cm, am, by omega, by go_num, rfl, HM2, HN3, hbi⟩
          case measure => simp [intOf]; omega
    · obtain rfl : k = bs.length := by omega
      have HZ := hide (show OwnT wr w4.heap.size (.slice ao n c) (gat kp (allS bs)) from by have := HO.out; rwa [List.take_length] at this)
      have HZL := hide (show (gat kp (allS bs)).length ≤ 1048576 from by have := HN.out; rw [List.take_length] at this; omega)
      clear HO HN
      go_wp2_with fail
      refine (sort_txs w4.heap.size _ _ _ HZ.out HZL.out).mono ?_
      rintro e w7 ⟨rfl, hO7, hg7⟩
      have hb7 : Below w4.heap.size w4 w7 := hbr.grown hg7 hbr.size (fun j hj => (HZ.out.lt hj).1)
      have HO7 := hide hO7
      clear hO7 hg7
      go_wp2_with fail
      refine (compact_txs w4.heap.size _ _ _ HO7.out HZL.out).mono ?_
      rintro e w8 ⟨a8, n8, c8, rfl, hO8, hg8⟩
      have hb8 : Below w4.heap.size w4 w8 := hb7.grown hg8 hb7.size (fun j hj => (HO7.out.lt hj).1)
      have HO8 := hide hO8
      clear hO8 hg8
      go_wp2
      go_ret
      exact ⟨⟨_, _, _, rfl, by rw [← lsl_is, HKP.out]; exact HO8.out.mono hw4⟩, hbw.trans (hb8.mono hbw.size)⟩
set_option maxHeartbeats 2000000 in
theorem impl_lost (v : Value) (bs : Brs) (b : Bool) (l : Txs) (w : World) (hv : BrsOf w v bs) (hf : FineS bs) (hkk : KK w) (hb : BP b (GdT bs)) (hl : (b = true → l = lsl bs) ∧ (b = false → l = [])) :
    Calls Tryz.prog 22 #[.agg #[v]] w fun e w' => SgA w w' e l b ∧ Below w.heap.size w w' := by
  have hal := (Below.refl w.heap.size w).alloc (Nat.le_refl _) (.cells #[v] 30)
  have HV := hide (hv.below hal)
  have HC := hide (show M.One (w.alloc (.cells #[v] 30)) w.heap.size v 30 from heap_alloc_new w _)
  have HF := hide hf
  have HB := hide hb
  have HL := hide hl
  have HK := hide (hkk.below hal)
  obtain ⟨a1, c1, rfl⟩ := hv.form
  have d0 := HC.out.cell
  clear hv hf hkk hb hl
  cases b
  · have HN2 := hide (HL.out.2 rfl)
    go_enter Tryz.func22, Tryz.ntmps22
    go_wp2_with fail
    refine (impl_gt _ bs false _ HV.out HF.out HK.out HB.out).mono ?_
    rintro e w2 ⟨rfl, hb2⟩
    have hbw := hal.trans (hb2.mono hal.size)
    go_wp2
    go_ret2
    exact ⟨⟨_, _, _, rfl, by rw [HN2.out]; exact OwnT.nil _ _⟩, hbw⟩
  · have HG := hide (HB.out.1 rfl)
    have HN2 := hide (HL.out.1 rfl)
    go_enter Tryz.func22, Tryz.ntmps22
    go_wp2_with fail
    refine (impl_gt _ bs true _ HV.out HF.out HK.out HB.out).mono ?_
    rintro e w2 ⟨rfl, hb2⟩
    clear d0
    have d0 := (HC.out.down hb2).cell
    have hbx := hal.trans (hb2.mono hal.size)
    go_wp2_with fail
    refine (tell_lost _ bs _ (HV.out.below hb2) HF.out (HK.out.below hb2) HG.out).mono ?_
    rintro e w3 ⟨⟨a3, n3, c3, rfl, hO⟩, hb3⟩
    have HO := hide (hO.mono hbx.size)
    have hbw := hbx.trans (hb3.mono hbx.size)
    clear hO hb2 hb3 d0
    go_wp2
    go_ret2
    exact ⟨⟨_, _, _, rfl, by rw [HN2.out]; exact HO.out⟩, hbw⟩
end Go.Proofs.YtcbkeabfnldmhaaGreatDoor

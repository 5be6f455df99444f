/-
  The specification's search: all markings that come of one, and the steps that led to each.
-/
import Derived.Test.YthilapalgakhhaaNetRows
import Derived.Test.YthilapalgakhhaaNetIntss
import Derived.Laws.AppendOwnNone
import Derived.RegionTactic
namespace Go.Proofs.Ythilapalgakhhaa
open Go.RowKit M
open Clk (upd upd_same upd_other)
namespace M
/-- What the search tells. -/
def FrA (n : Nat) (r : Option Bs) (e : Ending) (w' : World) : Prop :=
  match r with
  | none => e = .returned (.tuple #[.slice none 0 0, .slice none 0 0, .bool false])
  | some s => ∃ r1 r2 pb, e = .returned (.tuple #[r1, r2, .bool true]) ∧ IsPath s pb ∧ RowO w' 0 r1 s.c n s.M ∧ RowP w' 0 r2 s.c pb
theorem RowO.mono {w : World} {B B' c n : Nat} {x : Value} {K : Nat → Nat → Int} (h : RowO w B x c n K) (hB : B' ≤ B) : RowO w B' x c n K := by
  obtain ⟨vo, h1, h2⟩ := h; exact ⟨vo, owns_mono h1 hB, h2⟩
theorem RowP.mono {w : World} {B B' c : Nat} {x : Value} {pb : Nat → List Nat} (h : RowP w B x c pb) (hB : B' ≤ B) : RowP w B' x c pb := by
  obtain ⟨vb, h1, h2⟩ := h; exact ⟨vb, owns_mono h1 hB, h2⟩
/-- What holds between two rounds. -/
def FrR (w wr : World) (n : Nat) (xo xb : Value) (s : Bs) (pb : Nat → List Nat) (nv : Nat → Value) : Prop :=
  RowO wr w.heap.size xo s.c n s.M ∧ RowP wr w.heap.size xb s.c pb ∧ Blk wr w.heap.size 2 nv 29 ∧ Below w.heap.size w wr
theorem FrR.down {w wr w' : World} {n : Nat} {xo xb : Value} {s : Bs} {pb : Nat → List Nat} {nv : Nat → Value} (h : FrR w wr n xo xb s pb nv) (hb : Below wr.heap.size wr w') : FrR w w' n xo xb s pb nv :=
  ⟨h.1.down hb, h.2.1.down hb, h.2.2.1.down hb, h.2.2.2.trans (hb.mono h.2.2.2.size)⟩
end M
theorem info_ints2 : (Try.prog.info? 33).map (fun i => (i.zero, i.size, i.bytes)) = some (some (.slice none 0 0), 1, 24) := by kernel_rfl
set_option maxRecDepth 20000 in
set_option maxHeartbeats 2000000 in
theorem l3from (n : Nat) (v : Value) (k : Nat) (st : Nat → Sp) (u : Value) (f : Nat → Int) (w : World) (hv : StepsOf w v k st) (hu : IntsOf w u n f) (hs : Short k st) (hn1 : 1 ≤ n) (hn8 : n ≤ 8) (hg : ∀ t, t < k → GoodS n (st t)) (hm : Mk n f) :
    Calls Try.prog 59 #[netV (n : Int) v, u] w fun e w' => FrA n (foundB st k f) e w' ∧ Below w.heap.size w w' := by
  obtain ⟨i0, hi, hz0, hz1, hz2⟩ := info_parts info_int
  obtain ⟨i1, hj, hy0, hy1, hy2⟩ := info_parts info_ints2
  have HS := hide hs
  have HG := hide hg
  have HM := hide hm
  have hk := hs.1
  obtain ⟨a, cap, rfl, hrow⟩ := hv
  have HR := hide hrow
  obtain ⟨au, cu, rfl, hru⟩ := hu
  obtain ⟨bu, ou, rfl, hbu, hrowu⟩ := hru (by omega)
  have HRU := hide hrowu
  have hbA := ((Below.refl w.heap.size w).alloc (Nat.le_refl _) (.cells #[.int .i64 (n : Int), .slice a k cap] 29))
  have hNA := Blk.fresh w _ 2 (p2 (.int .i64 (n : Int)) (.slice a k cap)) 29 rfl
  have hbC := hbA.alloc hbA.size (.cells #[] 3)
  clear hs hg hm hrow hru hrowu
  go_enter Try.func59, Try.ntmps59
  go_wp2_with (at_builtin; refine wpList_append_own _ rfl _ _ 33 rfl (w.heap.size + 1) 3 i0 _ 1 8 Try.underlying33 hi hz0 hz1 hz2 rfl (by decide) _ 0 [] rfl ?own ⟨bu, ou, none⟩ n cu ((List.range n).map (iv f)) rfl ?c0 ?c1 ?c2 ?c3 ?c4 ?c5 ?_)
  case own =>
    have := World.ownsRow_made (base := w.heap.size + 1) (e := 3) (size := 1) (w.alloc (.cells #[.int .i64 (n : Int), .slice a k cap] 29)) #[] 0 (by simp) (Nat.zero_le _) rfl
    rw [World.size_alloc] at this
    exact this
  case c0 => simp
  case c1 =>
    intro j u hj
    have hjn : j < n := by have := (List.getElem?_eq_some_iff.1 hj).1; simpa using this
    rw [List.getElem?_map, List.getElem?_range hjn] at hj
    simp only [Option.map_some, Option.some.injEq] at hj
    subst hj
    rw [Addr.add_lit]
    exact (hbC.cell (p := ⟨bu, ou + j, none⟩) hbu).trans (HRU.out j hjn)
  case c2 => intro u hu; obtain ⟨j, _, rfl⟩ := List.mem_map.1 hu; rfl
  case c3 => unfold maxLen; omega
  case c4 => omega
  case c5 => simp
  intro v' w4 hown4 hgrow _
  obtain ⟨g, capg, rfl, hBg, hOB⟩ := own_b (by simpa using hown4) (by omega)
  have hb4 : Below w.heap.size w w4 := hbC.grown hgrow hbC.size (fun j hj => by simp [Value.ownBlock] at hj; omega)
  have hN4 : Blk w4 w.heap.size 2 (p2 (.int .i64 (n : Int)) (.slice a k cap)) 29 := by
    have h0 := hNA.alloc (.cells #[] 3)
    unfold Blk at h0 ⊢
    rw [hgrow.block w.heap.size (by simp; omega) (by simp [Value.ownBlock])]
    exact h0
  have hs4 := hb4.size
  have H0 := hide (show ∀ t1 t2, t1 = 33 → t2 = 33 → FrR w ((w4.alloc (.cells #[.slice (some ⟨g, 0, none⟩) n capg] t1)).alloc (.cells #[.slice none 0 0] t2)) n (.slice (some ⟨w4.heap.size, 0, none⟩) 1 1) (.slice (some ⟨w4.heap.size + 1, 0, none⟩) 1 1) (startB f) (fun _ => []) (p2 (.int .i64 (n : Int)) (.slice a k cap)) from by
    rintro t1 t2 rfl rfl
    have hb5 := (Below.refl w4.heap.size w4).alloc (Nat.le_refl _) (.cells #[.slice (some ⟨g, 0, none⟩) n capg] 33)
    have hb6 := hb5.alloc hb5.size (.cells #[.slice none 0 0] 33)
    refine ⟨⟨fun _ => .slice (some ⟨g, 0, none⟩) n capg, ⟨by simp [startB], .inr ⟨w4.heap.size, 1, #[.slice (some ⟨g, 0, none⟩) n capg], rfl, hs4, ?_, Nat.le_refl 1, by decide, rfl, by rfl⟩⟩, fun j hj => ⟨g, capg, rfl, hOB.down hb6⟩⟩, ⟨fun _ => .slice none 0 0, ⟨by simp [startB], .inr ⟨w4.heap.size + 1, 1, #[.slice none 0 0], rfl, by omega, ?_, Nat.le_refl 1, by decide, rfl, by rfl⟩⟩, fun j hj => World.ownsRow_nil _ _ _ _, rfl⟩, hN4.down hb6, hb4.trans (hb6.mono hs4)⟩
    · rw [heap_alloc_old _ _ (by simp)]; exact heap_alloc_new w4 _
    · have := heap_alloc_new (w4.alloc (.cells #[.slice (some ⟨g, 0, none⟩) n capg] 33)) (.cells #[.slice none 0 0] 33)
      rw [World.size_alloc] at this
      exact this)
  clear hown4 hgrow hOB hN4 hb4 hbC hbA hNA HRU
  go_wp2
  go_loopw [7, 8, 9] (fun x y z wr => ∃ (i : Nat) (s : Bs) (pb : Nat → List Nat), i ≤ s.c ∧ z = .int .i64 (i : Int) ∧ allB st k f i = some s ∧ Hid (IsPath s pb) ∧ Hid (FrR w wr n x y s pb (p2 (.int .i64 (n : Int)) (.slice a k cap)))) (fun _ _ z _ => 400 - (intOf z).toNat)
  case atStart => exact ⟨0, startB f, fun _ => [], Nat.zero_le _, rfl, rfl, hide ⟨rfl, fun j h0 hj => by have : j < 1 := hj; omega⟩, hide (H0.out _ _ rfl rfl)⟩
  case round =>
    rename World => wo
    obtain ⟨i, s, pb, his, rfl, hall, HP, HF⟩ := hrel
    have hok := allB_ok HG.out HM.out hall
    have hmost := hok.most
    obtain ⟨ao, co, rfl⟩ := HF.out.1.form
    obtain ⟨ap, cp, rfl⟩ := HF.out.2.1.form
    by_cases hlt : i < s.c
    · obtain ⟨e0, e1, -, -⟩ := HF.out.2.2.1.pair
      have hlti : ((i : Int) < (s.c : Int)) := by omega
      have HOk := hide hok
      clear hok
      go_wp2_with fail
      go_loopw [7, 8, 28] (fun x y z wr => ∃ (t : Nat) (s2 : Bs) (pb2 : Nat → List Nat), t ≤ k ∧ z = .int .i64 (t : Int) ∧ rowB st s i t = some s2 ∧ Hid (IsPath s2 pb2) ∧ Hid (FrR w wr n x y s2 pb2 (p2 (.int .i64 (n : Int)) (.slice a k cap)))) (fun _ _ z _ => k - (intOf z).toNat)
      case atStart => exact ⟨0, s, pb, Nat.zero_le _, rfl, rfl, HP, HF⟩
      case round =>
        rename World => wq
        obtain ⟨t, s2, pb2, htk, rfl, hrow2, HP2, HF2⟩ := hrel
        have hbk := (rowB_ok HG.out HOk.out hlt htk hrow2).1
        have hmost2 := hbk.most
        have hpos2 := hbk.pos
        have hcs := (rowB_keep hrow2).1
        clear e0 e1
        by_cases htl : t < k
        · obtain ⟨bb, off, rfl, hbb, hrw⟩ := HR.out (by omega)
          obtain ⟨vx, vy, q1, q2, ix, iy⟩ := hrw t htl
          obtain ⟨ax, cx, rfl⟩ := ix.form
          obtain ⟨ay, cy, rfl⟩ := iy.form
          have hbw := HF2.out.2.2.2
          have c0 := (hbw.cell (p := ⟨bb, off + t * 2, none⟩) hbb).trans q1
          have c1 := (hbw.cell (p := ⟨bb, off + t * 2 + 1, none⟩) hbb).trans q2
          obtain ⟨ob, oc, go, gc, rfl, d0, hio⟩ := HF2.out.1.at (show i < s2.c by omega)
          obtain ⟨a3, c3, rfl⟩ := HF2.out.2.1.form
          have hi0 : (0 : Int) ≤ (i : Int) := by omega
          have hi1 : (i : Int) < (s2.c : Int) := by omega
          have hbB := (Below.refl wq.heap.size wq).alloc (Nat.le_refl _) (.cells #[.slice ax (st t).ni cx, .slice ay (st t).no cy] 60)
          have HF3 := hide (HF2.out.down hbB)
          have hbox : Blk (wq.alloc (.cells #[.slice ax (st t).ni cx, .slice ay (st t).no cy] 60)) wq.heap.size 2 (p2 (.slice ax (st t).ni cx) (.slice ay (st t).no cy)) 60 := Blk.fresh wq _ 2 (p2 (.slice ax (st t).ni cx) (.slice ay (st t).no cy)) 60 rfl
          have HRn := hide (show rowB st s i (t + 1) = stepB s2 i t (st t) by simp only [rowB, hrow2])
          have hGt := HG.out t htl
          have hMt := hbk.mark i (show i < s2.c by omega)
          have hb3 := hbw.trans (hbB.mono hbw.size)
          have hsB : wq.heap.size + 1 = (wq.alloc (.cells #[.slice ax (st t).ni cx, .slice ay (st t).no cy] 60)).heap.size := by simp
          cases hr : fire (st t) (s2.M i) with
          | none =>
            have HFi := hide (show ∀ wx : World, Below w.heap.size w wx → Below wq.heap.size wq wx → Calls Try.prog 52 #[.agg #[.slice ax (st t).ni cx, .slice ay (st t).no cy], .slice (some ⟨go, 0, none⟩) n gc] wx fun e w' => e = .returned (.tuple #[.slice none 0 0, .bool false]) ∧ Below wx.heap.size wx w' from fun wx h1 h2 =>
              (l3fire_own _ _ _ (st t) n (s2.M i) none wx (ix.below h1) (iy.below h1) (hio.below h2) hGt hn1 hn8 hMt hr).mono fun e w' ⟨⟨R, he, hF⟩, hb⟩ => by
                rcases hF with ⟨_, rfl⟩ | ⟨c, hc, _⟩
                · exact ⟨he, hb⟩
                · cases hc)
            have HSt := hide (show rowB st s i (t + 1) = some s2 by rw [HRn.out]; simp only [stepB, hr])
            obtain ⟨k0, k1, -, -⟩ := hbox.pair
            have d1 := (hbB.cell (p := ⟨ob, i, none⟩) (World.block_lt_of_cell? _ _ d0)).trans d0
            clear HF HP H0 hr HRn hGt hMt hio q1 q2 ix iy hrw hbox HF2 HR
            go_wp2_with fail
            generalize hW : wq.alloc _ = w3 at *
            clear hW
            go_region_with (go_at_call 52; refine (HFi.out _ hb3.drew hbB.drew).mono ?_; rintro e w4 ⟨rfl, hb4⟩)
            all_goals
              have hb34 : Below w3.heap.size w3 w4 := drew_below hb4
              have HF4 := hide (HF3.out.down hb34)
              clear HF3 hb4 HFi k0 k1 d0 d1 c0 c1
              go_wp2
              exact ⟨⟨t + 1, s2, pb2, by omega, by go_num, HSt.out, HP2, HF4⟩, by simp [intOf]; omega⟩
          | some x =>
            have HFi := hide (show ∀ wx : World, Below w.heap.size w wx → Below wq.heap.size wq wx → Calls Try.prog 52 #[.agg #[.slice ax (st t).ni cx, .slice ay (st t).no cy], .slice (some ⟨go, 0, none⟩) n gc] wx fun e w' => (∃ gx xc, e = .returned (.tuple #[.slice (some ⟨gx, 0, none⟩) n xc, .bool true]) ∧ OwnB w' gx n xc x) ∧ Below wx.heap.size wx w' from fun wx h1 h2 =>
              (l3fire_own _ _ _ (st t) n (s2.M i) (some x) wx (ix.below h1) (iy.below h1) (hio.below h2) hGt hn1 hn8 hMt hr).mono fun e w' ⟨⟨R, he, hF⟩, hb⟩ => by
                rcases hF with ⟨hc, _⟩ | ⟨c, hc, gx, xc, rfl, hx⟩
                · cases hc
                · cases hc; exact ⟨⟨gx, xc, he, hx⟩, hb⟩)
            have hxm := fire_mk hGt hMt hr
            have hSx : stepB s2 i t (st t) = if kn s2.M x s2.c = true then some s2 else if s2.c = 400 then none else some (s2.add x i t) := by simp only [stepB, hr]
            have HSx := hide hSx
            have HBk := hide hbk
            obtain ⟨k0, k1, -, -⟩ := hbox.pair
            have d1 := (hbB.cell (p := ⟨ob, i, none⟩) (World.block_lt_of_cell? _ _ d0)).trans d0
            clear HF HP H0 hr hGt hMt hio q1 q2 ix iy hrw hbox HF2 HR hSx hbk
            go_wp2_with fail
            generalize hW : wq.alloc _ = w3 at *
            clear hW
            go_region_with (go_at_call 52; refine (HFi.out _ hb3.drew hbB.drew).mono ?_; rintro e w4 ⟨⟨gx, xc, rfl, hx4⟩, hb4⟩)
            all_goals
              have hb34 : Below w3.heap.size w3 w4 := drew_below hb4
              have HF4 := hide (HF3.out.down hb34)
              clear HF3 hb4 HFi k0 k1 d0 d1 c0 c1
              go_wp2_with fail
              refine (l3at _ _ s2.c n s2.M x _ HF4.out.1.intss hx4.ints (by omega) hn8 HBk.out.mark hxm).mono ?_
              rintro e w5 ⟨hat, hb5⟩
              have HF5 := hide (HF4.out.down hb5)
              have hx5 := hx4.down hb5
              clear hb5 hx4 HF4
              rcases hat with ⟨hkn, rfl⟩ | ⟨d, hd, hno, hyes, rfl⟩
              · by_cases h4 : s2.c = 400
                · have HNo := hide (found_of_stop hall hlt (by omega) (show t + 1 ≤ k by omega) (by rw [HRn.out, HSx.out, if_neg (by rw [hkn]; simp), if_pos h4]))
                  have hbz := HF5.out.2.2.2
                  have h4b : ((s2.c : Int) == 400) = true := by simp; omega
                  clear HF5 hx5 HRn HSx HBk h4
                  go_wp2
                  go_ret3
                  rw [HNo.out]
                  exact ⟨rfl, hbz⟩
                · have HSt := hide (show rowB st s i (t + 1) = some (s2.add x i t) by rw [HRn.out, HSx.out, if_neg (by rw [hkn]; simp), if_neg h4])
                  have h4b : ((s2.c : Int) == 400) = false := by simp; omega
                  have HPa := hide (HP2.out.add HBk.out (x := x) (t := t) (show i < s2.c by omega))
                  have hplen := HP2.out.len HBk.out i (by omega)
                  obtain ⟨⟨vo, ho1, ho2⟩, hP5, hN5, hbz5⟩ := HF5.out
                  have hs5 := hbz5.size
                  have hbE := (Below.refl w5.heap.size w5).alloc (Nat.le_refl _) (.cells #[.slice (some ⟨gx, 0, none⟩) n xc] 33)
                  have hoE := owns_below ho1 hbE
                  have HO2 := hide (show ∀ j, j < s2.c → ∃ g cap, vo j = .slice (some ⟨g, 0, none⟩) n cap ∧ OwnB (w5.alloc (.cells #[.slice (some ⟨gx, 0, none⟩) n xc] 33)) g n cap (s2.M j) from fun j hj => by
                    obtain ⟨g', c', e1, e2⟩ := ho2 j hj
                    exact ⟨g', c', e1, e2.down hbE⟩)
                  have HX5 := hide (hx5.down hbE)
                  have HPE := hide (hP5.down hbE)
                  have HNE := hide (hN5.down hbE)
                  have hbzE := hbz5.trans (hbE.mono hs5)
                  clear HF5 hx5 HRn HSx HBk h4 ho2 hP5 hN5 hkn ho1 hbE
                  go_wp2_with (at_builtin; refine wpList_append_own _ rfl _ _ 46 rfl w.heap.size 33 i1 _ 1 24 Try.underlying46 hj hy0 hy1 hy2 rfl (by decide) _ s2.c _ rfl hoE ⟨w5.heap.size, 0, none⟩ 1 1 [.slice (some ⟨gx, 0, none⟩) n xc] rfl rfl (news1 w5 _ _) (by intro u hu; simp at hu; subst hu; rfl) (by unfold maxLen; omega) (by omega) (by simp; omega) ?_)
                  intro v6 w6 hown6 hgrow6 _
                  have HO6 := hide (RowO.put hoE HO2.out HX5.out hown6 hgrow6)
                  have HP6 := hide (HPE.out.other (show 0 < s2.c by omega) hoE HO2.out hgrow6)
                  have HN6 := hide (HNE.out.grown hoE (by decide) hgrow6)
                  have hb6 : Below w.heap.size w w6 := hbzE.grown hgrow6 (by simp; omega) (fun j hj => (hoE.lt j hj).1)
                  have hs6 := hb6.size
                  obtain ⟨a6, c6, rfl⟩ := own_form hown6
                  clear hgrow6 hown6 HO2 HX5 HPE HNE hoE hbzE
                  obtain ⟨pbb, pcap, pr, hpe, hpl, hpc, hpo⟩ := HP6.out.at (show i < s2.c by omega)
                  obtain ⟨rfl, rfl⟩ : a3 = some ⟨pbb, 0, none⟩ ∧ c3 = pcap := by simpa using hpe
                  have hbF := (Below.refl w6.heap.size w6).alloc (Nat.le_refl _) (.cells #[] 3)
                  have hmade := World.ownsRow_made (base := w6.heap.size) (e := 3) (size := 1) w6 #[] 0 (Nat.le_refl _) (Nat.zero_le _) rfl
                  have hpcF := (hbF.cell (p := ⟨pbb, i, none⟩) hpl).trans hpc
                  have hpoF := owns_below hpo hbF
                  rcases hpo.2 with ⟨hpn, hpz⟩ | ⟨gp, cpp, cur, hpn, -, hgp, hcp1, hcp2, hcs, hct⟩
                  · subst hpn
                    have hpv : pv (pb2 i) = [] := by
                      have := hpo.1
                      rw [hpz] at this
                      exact List.eq_nil_of_length_eq_zero (by simpa using this)
                    have hmade2 : (w6.alloc (.cells #[] 3)).ownsRow w6.heap.size 3 1 (.slice (some ⟨w6.heap.size, 0, none⟩) 0 0) (pb2 i).length (pv (pb2 i)) := by rw [hpz, hpv]; exact hmade
                    have hnw := news1 (w6.alloc (.cells #[] 3)) (.int .i64 (t : Int)) 3
                    rw [World.size_alloc] at hnw
                    clear hpe hpl hpc hpo hpoF hpv hmade hpz
                    go_wp2_with (at_builtin; first | (refine wpList_append_own_none rfl _ _ 33 rfl w6.heap.size 3 i0 1 Try.underlying33 hi _ _ _ rfl hmade2 rfl ?_) | (refine wpList_append_own _ rfl _ _ 33 rfl w6.heap.size 3 i0 _ 1 8 Try.underlying33 hi hz0 hz1 hz2 rfl (by decide) _ (pb2 i).length _ rfl (hmade2.alloc _) ⟨w6.heap.size + 1, 0, none⟩ 1 1 [.int .i64 (t : Int)] rfl rfl hnw (by intro u hu; simp at hu; subst hu; rfl) (by unfold maxLen; omega) (by omega) (by simp; omega) ?_))
                    intro v8 w8 hown8 hgrow8 _
                    have hb8 : Below w6.heap.size w6 w8 := (hbF.alloc hbF.size _).grown hgrow8 (by simp; omega) (fun j hj => by simp [Value.ownBlock] at hj; omega)
                    obtain ⟨a8, c8, rfl⟩ := own_form hown8
                    have HW8 := hide hown8
                    clear hgrow8 hmade2 hnw hpcF hbF hown8
                    obtain ⟨vb, p1, pq, p3⟩ := HP6.out.down hb8
                    have hbG := (Below.refl w8.heap.size w8).alloc (Nat.le_refl _) (.cells #[.slice a8 ((pb2 i).length + 1) c8] 33)
                    have pE := owns_below p1 hbG
                    have PQ := hide (fun j (hj : j < s2.c) => owns_below (pq j hj) hbG)
                    have HOE := hide ((HO6.out.down hb8).down hbG)
                    have HNE := hide ((HN6.out.down hb8).down hbG)
                    have HWE := hide (show (w8.alloc (.cells #[.slice a8 ((pb2 i).length + 1) c8] 33)).ownsRow 0 3 1 (.slice a8 ((pb2 i).length + 1) c8) (pb2 i ++ [t]).length (pv (pb2 i ++ [t])) from by
                      rw [pv_snoc, List.length_append]; exact owns_mono (owns_below HW8.out hbG) (Nat.zero_le _))
                    have hbE8 := hb6.trans (hb8.mono hs6)
                    have hs8 := hbE8.size
                    have hbE9 := hbE8.trans (hbG.mono hs8)
                    clear p1 pq hbG hbE8 hb8 HW8 HO6 HN6 HP6
                    go_wp2_with (at_builtin; refine wpList_append_own _ rfl _ _ 46 rfl w.heap.size 33 i1 _ 1 24 Try.underlying46 hj hy0 hy1 hy2 rfl (by decide) _ s2.c _ rfl pE ⟨w8.heap.size, 0, none⟩ 1 1 [.slice a8 ((pb2 i).length + 1) c8] rfl rfl (news1 w8 _ _) (by intro u hu; simp at hu; subst hu; rfl) (by unfold maxLen; omega) (by omega) (by simp; omega) ?_)
                    intro v9 w9 hown9 hgrow9 _
                    have hfin := RowP.put pE PQ.out p3 (show 0 < s2.c by omega) HWE.out hown9 hgrow9 HOE.out (show 0 < s2.c + 1 by omega)
                    have hN9 := HNE.out.grown pE (by decide) hgrow9
                    have hb9 : Below w.heap.size w w9 := hbE9.grown hgrow9 (by simp; omega) (fun j hj => (pE.lt j hj).1)
                    obtain ⟨a9, c9, rfl⟩ := own_form hown9
                    have HF9 := hide (show FrR w w9 n (.slice a6 (s2.c + 1) c6) (.slice a9 (s2.c + 1) c9) (s2.add x i t) (upd pb2 s2.c (pb2 i ++ [t])) (p2 (.int .i64 (n : Int)) (.slice (some ⟨bb, off, none⟩) k cap)) from ⟨hfin.2, hfin.1, hN9, hb9⟩)
                    clear hfin hN9 hb9 hown9 hgrow9 pE PQ HOE HNE HWE hbE9 p3
                    go_wp2
                    exact ⟨⟨t + 1, s2.add x i t, _, by omega, by go_num, HSt.out, HPa, HF9⟩, by simp [intOf]; omega⟩
                  · subst hpn
                    have hnw : ∀ j u, (pv (pb2 i))[j]? = some u → (w6.alloc (.cells #[] 3)).cell? ((⟨gp, 0, none⟩ : Addr).add j) = some u := fun j u hj => by
                      obtain ⟨a', c', ha', hr'⟩ := own_cells hpoF (by rw [pv_len]; omega)
                      have hjl := (List.getElem?_eq_some_iff.1 hj).1
                      rw [pv_len] at hjl
                      obtain ⟨g', e', -, -, hc'⟩ := hr' (by omega)
                      subst e'
                      simp only [Value.slice.injEq, Option.some.injEq, Addr.mk.injEq, and_true] at ha'
                      rw [Addr.add_lit, Nat.zero_add, ha'.1]
                      exact hc' j u hj
                    have hpl2 : (pb2 i).length * 8 ≤ 140737488355328 := by omega
                    clear hpe hpl hpc hpo hpoF hgp hct
                    go_wp2_with (at_builtin; refine wpList_append_own _ rfl _ _ 33 rfl w6.heap.size 3 i0 _ 1 8 Try.underlying33 hi hz0 hz1 hz2 rfl (by decide) _ 0 [] rfl hmade ⟨gp, 0, none⟩ (pb2 i).length cpp (pv (pb2 i)) rfl (by rw [pv_len]; omega) hnw (pv_one _) (by unfold maxLen; omega) (by omega) (by simp) ?_)
                    intro v7 w7 hown7 hgrow7 _
                    have hb7 : Below w6.heap.size w6 w7 := hbF.grown hgrow7 hbF.size (fun j hj => by simp [Value.ownBlock] at hj; omega)
                    have hs7 := hb7.size
                    try simp only [Nat.zero_add, List.nil_append] at hown7
                    obtain ⟨a7, c7, rfl⟩ := own_form hown7
                    clear hgrow7 hmade hnw hpcF hbF
                    go_wp2_with (at_builtin; refine wpList_append_own _ rfl _ _ 33 rfl w6.heap.size 3 i0 _ 1 8 Try.underlying33 hi hz0 hz1 hz2 rfl (by decide) _ (pb2 i).length _ rfl (hown7.alloc _) ⟨w7.heap.size, 0, none⟩ 1 1 [.int .i64 (t : Int)] rfl rfl (news1 w7 _ _) (by intro u hu; simp at hu; subst hu; rfl) (by unfold maxLen; omega) (by omega) (by simp; omega) ?_)
                    intro v8 w8 hown8 hgrow8 _
                    have hb8 : Below w6.heap.size w6 w8 := (hb7.alloc hs7 _).grown hgrow8 (by simp; omega) (fun j hj => (hown7.lt j hj).1)
                    obtain ⟨a8, c8, rfl⟩ := own_form hown8
                    have HW8 := hide hown8
                    clear hgrow8 hown7 hb7 hs7 hown8 hpl2
                    obtain ⟨vb, p1, pq, p3⟩ := HP6.out.down hb8
                    have hbG := (Below.refl w8.heap.size w8).alloc (Nat.le_refl _) (.cells #[.slice a8 ((pb2 i).length + 1) c8] 33)
                    have pE := owns_below p1 hbG
                    have PQ := hide (fun j (hj : j < s2.c) => owns_below (pq j hj) hbG)
                    have HOE := hide ((HO6.out.down hb8).down hbG)
                    have HNE := hide ((HN6.out.down hb8).down hbG)
                    have HWE := hide (show (w8.alloc (.cells #[.slice a8 ((pb2 i).length + 1) c8] 33)).ownsRow 0 3 1 (.slice a8 ((pb2 i).length + 1) c8) (pb2 i ++ [t]).length (pv (pb2 i ++ [t])) from by
                      rw [pv_snoc, List.length_append]; exact owns_mono (owns_below HW8.out hbG) (Nat.zero_le _))
                    have hbE8 := hb6.trans (hb8.mono hs6)
                    have hs8 := hbE8.size
                    have hbE9 := hbE8.trans (hbG.mono hs8)
                    clear p1 pq hbG hbE8 hb8 HW8 HO6 HN6 HP6
                    go_wp2_with (at_builtin; refine wpList_append_own _ rfl _ _ 46 rfl w.heap.size 33 i1 _ 1 24 Try.underlying46 hj hy0 hy1 hy2 rfl (by decide) _ s2.c _ rfl pE ⟨w8.heap.size, 0, none⟩ 1 1 [.slice a8 ((pb2 i).length + 1) c8] rfl rfl (news1 w8 _ _) (by intro u hu; simp at hu; subst hu; rfl) (by unfold maxLen; omega) (by omega) (by simp; omega) ?_)
                    intro v9 w9 hown9 hgrow9 _
                    have hfin := RowP.put pE PQ.out p3 (show 0 < s2.c by omega) HWE.out hown9 hgrow9 HOE.out (show 0 < s2.c + 1 by omega)
                    have hN9 := HNE.out.grown pE (by decide) hgrow9
                    have hb9 : Below w.heap.size w w9 := hbE9.grown hgrow9 (by simp; omega) (fun j hj => (pE.lt j hj).1)
                    obtain ⟨a9, c9, rfl⟩ := own_form hown9
                    have HF9 := hide (show FrR w w9 n (.slice a6 (s2.c + 1) c6) (.slice a9 (s2.c + 1) c9) (s2.add x i t) (upd pb2 s2.c (pb2 i ++ [t])) (p2 (.int .i64 (n : Int)) (.slice (some ⟨bb, off, none⟩) k cap)) from ⟨hfin.2, hfin.1, hN9, hb9⟩)
                    clear hfin hN9 hb9 hown9 hgrow9 pE PQ HOE HNE HWE hbE9 p3
                    go_wp2
                    exact ⟨⟨t + 1, s2.add x i t, _, by omega, by go_num, HSt.out, HPa, HF9⟩, by simp [intOf]; omega⟩
              · have HSt := hide (show rowB st s i (t + 1) = some s2 by
                  rw [HRn.out, HSx.out, if_pos]
                  cases hk : kn s2.M x s2.c with
                  | true => rfl
                  | false => exact absurd hyes (by rw [kn_false.1 hk d hd]; simp))
                have hd0 : ((d : Int) ≥ 0) := by omega
                clear hx5 hno hyes HRn HSx HBk
                go_wp2
                exact ⟨⟨t + 1, s2, pb2, by omega, by go_num, HSt.out, HP2, HF5⟩, by simp [intOf]; omega⟩
        · obtain rfl : t = k := by omega
          obtain ⟨a2, c2, rfl⟩ := HF2.out.1.form
          obtain ⟨a3, c3, rfl⟩ := HF2.out.2.1.form
          have hall2 : allB st t f (i + 1) = some s2 := by simp only [allB, hall, if_pos hlt]; exact hrow2
          have hc2 : i + 1 ≤ s2.c := by omega
          clear HF HP H0
          go_wp2
          exact ⟨⟨i + 1, s2, pb2, hc2, by go_num, hall2, HP2, HF2⟩, by simp [intOf]; omega⟩
    · have HFd := hide (found_of_done hall (by omega) (by omega))
      have hnlt : ¬ ((i : Int) < (s.c : Int)) := by omega
      have hB := HF.out.2.2.2
      have HA := hide (And.intro (HF.out.1.mono (Nat.zero_le _)) (HF.out.2.1.mono (Nat.zero_le _)))
      clear HF H0
      go_wp2
      go_ret3
      rw [HFd.out]
      exact ⟨⟨_, _, pb, rfl, HP.out, HA.out.1, HA.out.2⟩, hB⟩
end Go.Proofs.Ythilapalgakhhaa

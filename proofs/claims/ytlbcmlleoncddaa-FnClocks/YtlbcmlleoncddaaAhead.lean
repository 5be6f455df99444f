/-
  The specification's table of who is ahead of whom, for good acts, in memory of its own.
-/
import Derived.Test.YtlbcmlleoncddaaClkL
import Derived.Test.YtlbcmlleoncddaaGoodB
import Derived.Test.YtlbcmlleoncddaaCmp2
namespace Go.Proofs.Ytlbcmlleoncddaa
open Go.RowKit M
open Clk (upd upd_same upd_other)
namespace M
def sl (gs : Nat → Nat) (n : Nat) : Nat → Value := fun i => .slice (some ⟨gs i, 0, none⟩) n n
/-- A table of m rows of n answers, all in memory at block B or behind it. -/
def Tab (w : World) (B : Nat) (r : Value) (m n : Nat) (T : Nat → Nat → Bool) : Prop :=
  ∃ gs : Nat → Nat, w.ownsRow B 52 1 r m ((List.range m).map (sl gs n)) ∧ ∀ i, i < m → B ≤ gs i ∧ Blk w (gs i) n (fun j => .bool (T i j)) 4
theorem Blk.drewN {w : World} {g n : Nat} {f : Nat → Value} {t : TypeId} (h : Blk w g n f t) (k : Nat) : Blk (w.drewN k) g n f t := h
theorem Tab.below {w w' : World} {B m n : Nat} {r : Value} {T : Nat → Nat → Bool} (h : Tab w B r m n T) (hb : Below w.heap.size w w') : Tab w' B r m n T := by
  obtain ⟨gs, h1, h2⟩ := h
  exact ⟨gs, owns_below h1 hb, fun i hi => ⟨(h2 i hi).1, (h2 i hi).2.down hb⟩⟩
theorem Tab.form {w : World} {B m n : Nat} {r : Value} {T : Nat → Nat → Bool} (h : Tab w B r m n T) : ∃ a cap, r = .slice a m cap := by
  obtain ⟨gs, h1, _⟩ := h; exact own_form h1
/-- The cells that reading place (i, j) of a table meets. -/
theorem Tab.read {w : World} {B m n : Nat} {r : Value} {T : Nat → Nat → Bool} (h : Tab w B r m n T) (hm : 0 < m) : ∃ (ob cap : Nat) (gs : Nat → Nat), r = .slice (some ⟨ob, 0, none⟩) m cap ∧ B ≤ ob ∧ ob < w.heap.size ∧ ∀ i, i < m → w.cell? ⟨ob, i, none⟩ = some (.slice (some ⟨gs i, 0, none⟩) n n) ∧ B ≤ gs i ∧ Blk w (gs i) n (fun j => .bool (T i j)) 4 := by
  obtain ⟨gs, h1, h2⟩ := h
  obtain ⟨a, cap, rfl, hr⟩ := own_cells h1 (by simp)
  obtain ⟨g, rfl, hB, hlt, hc⟩ := hr hm
  exact ⟨g, cap, gs, rfl, hB, hlt, fun i hi => ⟨hc i _ (by rw [List.getElem?_map, List.getElem?_range hi]; rfl), (h2 i hi).1, (h2 i hi).2⟩⟩
end M
theorem info_bools : (Try.prog.info? 52).map (fun i => (i.zero, i.size, i.bytes)) = some (some (.slice none 0 0), 1, 24) := by kernel_rfl
set_option maxHeartbeats 4000000 in
theorem l2_ahead (p : Int) (v : Value) (n : Nat) (l : Nat → Ac) (w : World) (hv : ActsOf w v n l) (hg : GoodL p n l) :
    Calls Try.prog 49 #[v] w fun e w' => (∃ r, e = .returned r ∧ Tab w' w.heap.size r n n (Ab l)) ∧ Below w.heap.size w w' := by
  obtain ⟨i0, hi, hz0, hz1, hz2⟩ := info_parts info_bools
  obtain ⟨a, cap, rfl, hr⟩ := hv
  have hn : n ≤ 60 := hg.2.1
  have HR := hide hr
  have HG := hide hg
  have hmk := make_bools n (by omega)
  clear hr hg
  go_enter Try.func49, Try.ntmps49
  go_wp2
  go_loopw [3, 11] (fun x y wr => ∃ (i : Nat) (ao : Option Addr) (c : Nat), i ≤ n ∧ y = .int .i64 i ∧ x = .slice ao i c ∧ Hid (Tab wr w.heap.size (.slice ao i c) i n (Ab l)) ∧ Below w.heap.size w wr) (fun _ y _ => n - (intOf y).toNat)
  case atStart => exact ⟨0, none, 0, Nat.zero_le _, rfl, rfl, hide ⟨fun _ => 0, World.ownsRow_nil _ _ _ _, fun i hi => absurd hi (by omega)⟩, Below.refl _ _⟩
  case round =>
    rename World => wo
    obtain ⟨i, ao, c, hin, rfl, rfl, HT, hbw⟩ := hrel
    by_cases hlt : i < n
    · obtain ⟨b, off, rfl, hb, hrow⟩ := HR.out (by omega)
      have hsz := hbw.size
      have c0 := (hbw.cell (p := ⟨b, off + i * 2, none⟩) hb).trans (hrow i hlt).1
      have c1 := (hbw.cell (p := ⟨b, off + i * 2 + 1, none⟩) hb).trans (hrow i hlt).2
      have HC := hide (And.intro c0 c1)
      have H3 := hide (show ∀ w3, (wo.alloc (.cells #[.int .i64 (l i).proc, .int .i64 (l i).frm] 54)).alloc (.cells (cf n fun _ => .bool false) 4) = w3 → Blk w3 (wo.heap.size + 1) n (fun _ => .bool false) 4 ∧ (w3.cell? ⟨wo.heap.size, 0, none⟩ = some (.int .i64 (l i).proc) ∧ w3.cell? ⟨wo.heap.size, 1, none⟩ = some (.int .i64 (l i).frm)) ∧ Below wo.heap.size wo w3 from by
        rintro w3 rfl
        have hb0 := Blk.new (wo.alloc (.cells #[.int .i64 (l i).proc, .int .i64 (l i).frm] 54)) n (fun _ => .bool false) 4
        rw [World.size_alloc] at hb0
        have ha := (Blk.fresh wo #[.int .i64 (l i).proc, .int .i64 (l i).frm] 2 (av fun _ => l i) 54 rfl).alloc (.cells (cf n fun _ => .bool false) 4)
        exact ⟨hb0, ⟨ha.cell (show 0 < 2 by omega), ha.cell (show 1 < 2 by omega)⟩, ((Below.refl _ _).alloc (Nat.le_refl _) _).alloc (by simp) _⟩)
      have HRow := hide (show ∀ k, k < n → wo.cell? ⟨b, off + k * 2, none⟩ = some (.int .i64 (l k).proc) from fun k hk => (hbw.cell (p := ⟨b, off + k * 2, none⟩) hb).trans (hrow k hk).1)
      have hbr : b < wo.heap.size := Nat.lt_of_lt_of_le hb hsz
      clear hrow HR
      go_wp2
      clear c0 c1
      generalize hW : (wo.alloc _).alloc _ = w3
      obtain ⟨b3, ⟨a30, a31⟩, hb3⟩ := H3.out w3 hW
      have HB3 := hide b3
      clear H3 hW HC b3
      go_loopw [7] (fun y wq => ∃ k : Nat, k ≤ i ∧ y = .int .i64 k ∧ Hid (Blk wq (wo.heap.size + 1) n (fun m => .bool (Xb l i k m)) 4) ∧ Below (wo.heap.size + 1) w3 wq) (fun y _ => i - (intOf y).toNat)
      case atStart => exact ⟨0, Nat.zero_le _, rfl, HB3, Below.refl _ _⟩
      case round =>
        rename World => wq
        obtain ⟨k, hki, rfl, HX, hbq⟩ := hrel
        by_cases hlt2 : k < i
        · obtain ⟨ob, oc, gs, hr', hBo, hob, hrd⟩ := HT.out.read (by omega)
          obtain ⟨rfl, rfl⟩ : ao = some ⟨ob, 0, none⟩ ∧ c = oc := by simpa using hr'
          have hX := HX.out
          have hrowk := (hbq.cell (p := ⟨b, off + k * 2, none⟩) (show b < wo.heap.size + 1 by omega)).trans ((hb3.cell (p := ⟨b, off + k * 2, none⟩) hbr).trans (HRow.out k (by omega)))
          have q0 := (hbq.cell (p := ⟨wo.heap.size, 0, none⟩) (show wo.heap.size < wo.heap.size + 1 by omega)).trans a30
          have q1 := (hbq.cell (p := ⟨wo.heap.size, 1, none⟩) (show wo.heap.size < wo.heap.size + 1 by omega)).trans a31
          have o0 := (hb3.cell (p := ⟨ob, k, none⟩) hob).trans (hrd k hlt2).1
          have hgk := (hrd k hlt2).2.2.lt
          have HK := hide ((hrd k hlt2).2.2.down hb3)
          have hi0 : (0 : Int) ≤ (k : Int) := by omega
          have hi1 : (k : Int) < (n : Int) := by omega
          clear hrd hr' HB3 HRow
          rcases (show (l k).proc = (l i).proc ∨ ((l k).proc ≠ (l i).proc ∧ (k : Int) = (l i).frm) ∨ ((l k).proc ≠ (l i).proc ∧ (k : Int) ≠ (l i).frm) by omega) with h1 | ⟨h1, h2⟩ | ⟨h1, h2⟩
          · have e1 : ((l k).proc != (l i).proc) = false := by simp [h1]
            have hdir := dirB_same h1
            clear h1
            go_wp2
            go_big_quiet (fail)
            have x2 := hX.cell (show k < n by omega)
            have x3 := hX.thaw k
            have HX2 := hide (show Blk ((wq.drewN nq).setCell ⟨wo.heap.size + 1, k, none⟩ (.bool true)) (wo.heap.size + 1) n (fun m => .bool (Yb l i k 0 m)) 4 by rw [Yb_zero]; exact hX.drewN nq |>.set k (.bool true))
            have hbX : Below (wo.heap.size + 1) w3 ((wq.drewN nq).setCell ⟨wo.heap.size + 1, k, none⟩ (.bool true)) := (below_drewN hbq _).setCell (Nat.le_refl _) _
            clear hX HX
            go_wp2
            go_loopw [8] (fun y wt => ∃ t : Nat, t ≤ k ∧ y = .int .i64 t ∧ Hid (Blk wt (wo.heap.size + 1) n (fun m => .bool (Yb l i k t m)) 4) ∧ Below (wo.heap.size + 1) w3 wt) (fun y _ => k - (intOf y).toNat)
            case atStart => exact ⟨0, Nat.zero_le _, rfl, HX2, hbX⟩
            case round =>
              rename World => wt
              obtain ⟨t, ht, rfl, HY, hbt⟩ := hrel
              by_cases htk : t < k
              · have x0 := HY.out.cell (show t < n by omega)
                have x1 := HY.out.thaw t
                have y0 := (hbt.cell (p := ⟨ob, k, none⟩) (show ob < wo.heap.size + 1 by omega)).trans o0
                have y1 := (HK.out.below hbt (by omega)).cell (show t < n by omega)
                have HS := hide (fun (b : Bool) (hb : b = (Yb l i k t t || Ab l k t)) => show Blk (wt.setCell ⟨wo.heap.size + 1, t, none⟩ (.bool b)) (wo.heap.size + 1) n (fun m => .bool (Yb l i k (t + 1) m)) 4 by rw [← Yb_succ l i k t b hb]; exact HY.out.set t (.bool b))
                have HB := hide (fun b : Bool => hbt.setCell (p := ⟨wo.heap.size + 1, t, none⟩) (Nat.le_refl _) (.bool b))
                clear HY
                cases hy : Yb l i k t t
                · simp only [hy] at x0 HS
                  go_wp2
                  exact ⟨⟨t + 1, by omega, by go_num, hide (HS.out _ (by simp)), HB.out _⟩, by simp [intOf]; omega⟩
                · simp only [hy] at x0 HS
                  go_wp2
                  exact ⟨⟨t + 1, by omega, by go_num, hide (HS.out _ (by simp)), HB.out _⟩, by simp [intOf]; omega⟩
              · obtain rfl : t = k := by omega
                have HZ := hide (HY.out.ext (f' := fun m => .bool (Xb l i (t + 1) m)) (fun m _ => by rw [Yb_all l i t m hdir]))
                clear HY
                go_wp2
                exact ⟨⟨t + 1, by omega, by go_num, HZ, hbt⟩, by simp [intOf]; omega⟩
          · have e1 : ((l k).proc != (l i).proc) = true := by simp [h1]
            have e2 : ((k : Int) != (l i).frm) = false := by simp [h2]
            have hdir := dirB_from HG.out hlt h2
            clear h1 h2
            go_wp2
            go_big_quiet (fail)
            have x2 := hX.cell (show k < n by omega)
            have x3 := hX.thaw k
            have HX2 := hide (show Blk ((wq.drewN nq).setCell ⟨wo.heap.size + 1, k, none⟩ (.bool true)) (wo.heap.size + 1) n (fun m => .bool (Yb l i k 0 m)) 4 by rw [Yb_zero]; exact hX.drewN nq |>.set k (.bool true))
            have hbX : Below (wo.heap.size + 1) w3 ((wq.drewN nq).setCell ⟨wo.heap.size + 1, k, none⟩ (.bool true)) := (below_drewN hbq _).setCell (Nat.le_refl _) _
            clear hX HX
            go_wp2
            go_loopw [8] (fun y wt => ∃ t : Nat, t ≤ k ∧ y = .int .i64 t ∧ Hid (Blk wt (wo.heap.size + 1) n (fun m => .bool (Yb l i k t m)) 4) ∧ Below (wo.heap.size + 1) w3 wt) (fun y _ => k - (intOf y).toNat)
            case atStart => exact ⟨0, Nat.zero_le _, rfl, HX2, hbX⟩
            case round =>
              rename World => wt
              obtain ⟨t, ht, rfl, HY, hbt⟩ := hrel
              by_cases htk : t < k
              · have x0 := HY.out.cell (show t < n by omega)
                have x1 := HY.out.thaw t
                have y0 := (hbt.cell (p := ⟨ob, k, none⟩) (show ob < wo.heap.size + 1 by omega)).trans o0
                have y1 := (HK.out.below hbt (by omega)).cell (show t < n by omega)
                have HS := hide (fun (b : Bool) (hb : b = (Yb l i k t t || Ab l k t)) => show Blk (wt.setCell ⟨wo.heap.size + 1, t, none⟩ (.bool b)) (wo.heap.size + 1) n (fun m => .bool (Yb l i k (t + 1) m)) 4 by rw [← Yb_succ l i k t b hb]; exact HY.out.set t (.bool b))
                have HB := hide (fun b : Bool => hbt.setCell (p := ⟨wo.heap.size + 1, t, none⟩) (Nat.le_refl _) (.bool b))
                clear HY
                cases hy : Yb l i k t t
                · simp only [hy] at x0 HS
                  go_wp2
                  exact ⟨⟨t + 1, by omega, by go_num, hide (HS.out _ (by simp)), HB.out _⟩, by simp [intOf]; omega⟩
                · simp only [hy] at x0 HS
                  go_wp2
                  exact ⟨⟨t + 1, by omega, by go_num, hide (HS.out _ (by simp)), HB.out _⟩, by simp [intOf]; omega⟩
              · obtain rfl : t = k := by omega
                have HZ := hide (HY.out.ext (f' := fun m => .bool (Xb l i (t + 1) m)) (fun m _ => by rw [Yb_all l i t m hdir]))
                clear HY
                go_wp2
                exact ⟨⟨t + 1, by omega, by go_num, HZ, hbt⟩, by simp [intOf]; omega⟩
          · have e1 : ((l k).proc != (l i).proc) = true := by simp [h1]
            have e2 : ((k : Int) != (l i).frm) = true := by simp [h2]
            have hdir := dirB_no HG.out hlt (by omega) h1 h2
            have HZ := hide (hX.ext (f' := fun m => .bool (Xb l i (k + 1) m)) (fun m _ => by rw [Xb_skip l i k m hdir]))
            clear h1 h2 hX HX
            go_wp2
            go_big_quiet (fail)
            go_wp2
            exact ⟨⟨k + 1, by omega, by go_num, hide (HZ.out.drewN nq), below_drewN hbq _⟩, by simp [intOf]; omega⟩
        · obtain rfl : k = i := by omega
          have HA := hide (HX.out.ext (f' := fun m => .bool (Ab l k m)) (fun m _ => by rw [Xb_all l k m]))
          obtain ⟨gs, hown0, hgs⟩ := HT.out
          have hbrq : Below wo.heap.size wo wq := hb3.trans (hbq.mono (by omega))
          have hbwq : Below w.heap.size w wq := hbw.trans (hbrq.mono hsz)
          have hown := owns_below hown0 hbrq
          have HGS := hide hgs
          have hszq := hbwq.size
          clear HX HT HB3 HRow hgs hown0
          go_wp2_with (at_builtin; refine wpList_append_own _ rfl _ _ 67 rfl w.heap.size 52 i0 _ 1 24 Try.underlying67 hi hz0 hz1 hz2 rfl (by decide) _ k _ rfl (hown.alloc _) ⟨wq.heap.size, 0, none⟩ 1 1 [.slice (some ⟨wo.heap.size + 1, 0, none⟩) n n] rfl rfl ?c1 ?c2 ?c3 ?c4 ?c5 ?_)
          try (case c1 => exact news1 wq _ _)
          case c2 => first | rfl | (intro u hu; simp at hu; subst hu; rfl)
          case c3 => unfold maxLen; omega
          case c4 => omega
          case c5 => simp; omega
          intro v' w4 hown4 hgrow _
          have hbw4 : Below w.heap.size w w4 := (hbwq.alloc hszq _).grown hgrow (by simp; omega) (fun j hj => (hown.lt j hj).1)
          obtain ⟨a4, c4, rfl⟩ := own_form hown4
          have HT4 := hide (show Tab w4 w.heap.size (.slice a4 (k + 1) c4) (k + 1) n (Ab l) from by
            refine ⟨upd gs k (wo.heap.size + 1), ?_, fun j hj => ?_⟩
            · rw [range_snoc]
              have e1 : (List.range k).map (sl (upd gs k (wo.heap.size + 1)) n) = (List.range k).map (sl gs n) := List.map_congr_left fun j hj => by
                have := List.mem_range.1 hj
                unfold sl; rw [upd_other _ _ _ _ (by omega)]
              have e2 : sl (upd gs k (wo.heap.size + 1)) n k = .slice (some ⟨wo.heap.size + 1, 0, none⟩) n n := by unfold sl; rw [upd_same]
              rw [e1, e2]; exact hown4
            · by_cases he : j = k
              · subst he; rw [upd_same]
                exact ⟨by omega, (HA.out.alloc _).grown (hown.alloc _) (by decide) hgrow⟩
              · rw [upd_other _ _ _ _ he]
                have h0 := HGS.out j (by omega)
                exact ⟨h0.1, ((h0.2.down hbrq).alloc _).grown (hown.alloc _) (by decide) hgrow⟩)
          clear hown4 hgrow hown HA HGS
          go_wp2
          exact ⟨⟨k + 1, a4, c4, by omega, by go_num, rfl, HT4, hbw4⟩, by simp [intOf]; omega⟩
    · obtain rfl : i = n := by omega
      clear HR HG
      go_wp2
      go_ret
      exact ⟨⟨_, rfl, HT.out⟩, hbw⟩
end Go.Proofs.Ytlbcmlleoncddaa

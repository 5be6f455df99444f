/-
  A packet that is taken, a text that is sent, a packet that is doubled, and a step: the program's text.
-/
import Derived.Test.YtfjdbenbiakbbaaQuR
import Derived.Deep.RegionWith
namespace Go.Proofs.Ytfjdbenbiakbbaa
open Go.RowKit M
open Go.Sort (grow)
namespace M
theorem GoodQ.tx12 {q : Qu} (h : GoodQ q) {k : Nat} {p : Pk} (hp : q.line[k]? = some p) : p.tx.size ≤ 12 := by
  rcases h.pk k p hp with ⟨_, _, _, e⟩ | ⟨_, _, _, _, e⟩
  · rw [e]; decide
  · exact h.tx _ _ e
theorem max_if (a b : Int) : max a b = if a < b then b else a := by split <;> omega
theorem got_eq {q : Qu} {p : Pk} (h : p.no = q.got.length) : gotQ q p = { q with got := q.got ++ [p.tx] } := by unfold gotQ; rw [if_pos h]
theorem got_ne {q : Qu} {p : Pk} (h : ¬ p.no = q.got.length) : gotQ q p = q := by unfold gotQ; rw [if_neg h]
theorem take_ack {q : Qu} {k : Nat} {p : Pk} (h : p.ack = true) : takeQ q k p = { outQ q k with base := max q.base p.no } := by
  unfold takeQ; rw [if_pos h]; unfold ackQ; rw [max_if]; rfl
theorem take_txt {q : Qu} {k : Nat} {p : Pk} (h : p.ack = false) : takeQ q k p = putQ (gotQ (outQ q k) p) ⟨true, ((gotQ (outQ q k) p).got.length : Nat), ⟨#[]⟩⟩ := by
  unfold takeQ; rw [if_neg (by rw [h]; decide)]
end M
set_option maxHeartbeats 1000000 in
theorem take_no (B g : Nat) (v1 v3 v4 : Value) (q : Qu) (k : Int) (w : World) (h : PQ w B g v1 v3 v4 q) (hl : q.line.length ≤ 40) (hk : inB k 0 ((q.line.length : Int) - 1) = false) :
    Calls Try.prog 76 #[.pointer (some ⟨g, 0, none⟩), .int .i64 k] w fun e w' => e = .returned (.bool false) ∧ Below w.heap.size w w' := by
  have HH := hide h
  clear h
  go_enter Try.func76, Try.ntmps76
  go_wp2_with fail
  refine (leave_no B g v1 v3 v4 q k _ HH.out hl hk).mono ?_
  rintro e w1 ⟨rfl, hb⟩
  have hb1 := hb.alloc hb.size (.cells #[.bool false, .int .i64 0, .string ⟨#[]⟩] 88)
  simp only [pk0]
  go_wp2
  go_ret
  exact ⟨rfl, hb1⟩
set_option maxRecDepth 20000 in
set_option maxHeartbeats 4000000 in
theorem take_yes (B g : Nat) (v1 v3 v4 : Value) (q : Qu) (k : Nat) (p : Pk) (w : World) (h : PQ w B g v1 v3 v4 q) (hB : B ≤ w.heap.size) (hg : GoodQ q) (hp : q.line[k]? = some p) :
    Calls Try.prog 76 #[.pointer (some ⟨g, 0, none⟩), .int .i64 (k : Int)] w fun e w' => e = .returned (.bool true) ∧ ∃ u3 u4, PQ w' B g v1 u3 u4 (takeQ q k p) ∧ Mv g w v1 v3 v4 w' v1 u3 u4 := by
  have HH := hide h
  have HP := hide hp
  have hl40 := hg.l40
  have hs40 := hg.s40
  have hgs := hg.gs
  have hkl : k < q.line.length := (List.getElem?_eq_some_iff.1 hp).1
  have hol := out_len hkl
  clear h hp hg
  obtain ⟨ack, no, tx⟩ := p
  go_enter Try.func76, Try.ntmps76
  go_wp2_with fail
  refine (leave_line B g v1 v3 v4 q k _ _ HH.out hB hl40 HP.out).mono ?_
  rintro e w1 ⟨rfl, u4, hQ1, hM1⟩
  cases ack with
  | true =>
    have hd := (Below.refl w1.heap.size w1).alloc (Nat.le_refl _) (.cells #[.bool true, .int .i64 no, .string tx] 88)
    have hQ2 := hQ1.down hd
    obtain ⟨⟨-, -, y2, -, -⟩, -, -, f2, -, -⟩ := hQ2.box.pen
    obtain ⟨⟨b0, b1, b2⟩, -⟩ := (newT3 w1 (.bool true) (.int .i64 no) (.string tx) 88).trp
    have HM2 := hide (hM1.trans (Mv.down hd))
    have HQ2 := hide hQ2
    have HT := hide (take_ack (q := q) (k := k) (p := ⟨true, no, tx⟩) rfl)
    clear hQ1 hM1 hd hQ2
    go_upto_region 5 with fail
    obtain ⟨W, hW⟩ : ∃ W, w1.alloc (.cells #[.bool true, .int .i64 no, .string tx] 88) = W := ⟨_, rfl⟩
    rw [hW] at y2 f2 b0 b1 b2 HM2 HQ2 ⊢
    clear hW
    go_region
    all_goals
      have hP := (HQ2.out.down (Below.refl W.heap.size W).drew).base (max q.base no)
      have HF := hide (show PQ _ B g v1 v3 u4 (takeQ q k ⟨true, no, tx⟩) ∧ Mv g w v1 v3 v4 _ v1 v3 u4 from ⟨by rw [HT.out]; exact hP.1, (HM2.out.trans (Mv.down (Below.refl W.heap.size W).drew)).trans hP.2⟩)
      clear hP y2 f2 b0 b1 b2
      go_wp2
      go_ret
      exact ⟨rfl, v3, u4, HF.out⟩
  | false =>
    have hd := (Below.refl w1.heap.size w1).alloc (Nat.le_refl _) (.cells #[.bool false, .int .i64 no, .string tx] 88)
    have hQ2 := hQ1.down hd
    obtain ⟨a3, c3, rfl⟩ := hQ1.o3.form
    obtain ⟨⟨-, -, -, y3, -⟩, -⟩ := hQ2.box.pen
    have hx := newT3 w1 (.bool false) (.int .i64 no) (.string tx) 88
    obtain ⟨⟨b0, b1, b2⟩, -⟩ := hx.trp
    have HM2 := hide (hM1.trans (Mv.down hd))
    have HQ2 := hide hQ2
    have HXB := hide hx
    have hsz : B ≤ w1.heap.size := Nat.le_trans hB hM1.chg.size
    have hg3 : (outQ q k).got = q.got := rfl
    rw [hg3] at y3
    have HT := hide (take_txt (q := q) (k := k) (p := ⟨false, no, tx⟩) rfl)
    clear hQ1 hM1 hd hQ2 hx hg3
    go_upto_region 7 with fail
    obtain ⟨W, hW⟩ : ∃ W, w1.alloc (.cells #[.bool false, .int .i64 no, .string tx] 88) = W := ⟨_, rfl⟩
    have hszW : B ≤ W.heap.size := by rw [← hW]; simp; omega
    rw [hW] at y3 b0 b1 b2 HM2 HQ2 HXB ⊢
    clear hW
    by_cases hno : no = (q.got.length : Int)
    · have hne : (no == (q.got.length : Int)) = true := by simpa using hno
      have HNO := hide hno
      clear hno
      go_big_quiet (fail)
      rename_i nq
      have hdn := below_drewN (Below.refl W.heap.size W) nq
      have hQ5 := HQ2.out.down hdn
      have hM5 := HM2.out.trans (Mv.down hdn)
      have hX5 := HXB.out.down hdn
      obtain ⟨W5, hW5⟩ : ∃ W5, W.drewN nq = W5 := ⟨_, rfl⟩
      have hsz5 : B ≤ W5.heap.size := by rw [← hW5]; exact Nat.le_trans hszW hdn.size
      rw [hW5] at hQ5 hM5 hX5 ⊢
      clear hW5 hdn y3 b0 b1 b2 HQ2 HM2 HXB
      obtain ⟨⟨-, -, -, y3, -⟩, -⟩ := hQ5.box.pen
      rw [show (outQ q k).got = q.got from rfl] at y3
      obtain ⟨⟨b0, b1, b2⟩, -⟩ := hX5.trp
      obtain ⟨i0, hi, hz0, hz1, hz2⟩ := info_parts info_str
      have hdl : Below W5.heap.size W5 ((W5.alloc (.cells #[.string tx] 9)).drew) := ((Below.refl W5.heap.size W5).alloc (Nat.le_refl _) _).drew
      have hQl := hQ5.down hdl
      have HQl := hide hQl
      have HMl := hide (hM5.trans (Mv.down hdl))
      have hlit : TxC ((W5.alloc (.cells #[.string tx] 9)).drew) (.slice (some ⟨W5.heap.size, 0, none⟩) 1 1) [tx] := (lit_txc (heap_alloc_new W5 _)).below (Below.refl _ _).drew
      have yl := (hQ5.box.alloc (.cells #[.string tx] 9)).pen.1.2.2.2.1
      rw [show (outQ q k).got = q.got from rfl] at yl
      have HG := hide (show ∀ w7 : World, ((W5.alloc (.cells #[.string tx] 9)).drew).grownBy w7 (Value.slice a3 q.got.length c3).ownBlock → w7.cell? ⟨g, 3, none⟩ = some (.slice a3 q.got.length c3) ∧ w7.frozen? ⟨g, 3, none⟩ = false from fun w7 hg => by
        have hbx := HQl.out.box.gb hg (fun e => HQl.out.n3 e.symm)
        exact ⟨hbx.pen.1.2.2.2.1, hbx.thaw 3⟩)
      have HO := hide (show ((W5.alloc (.cells #[.string tx] 9)).drew).ownsRow B 9 1 (.slice a3 q.got.length c3) q.got.length (sv q.got) from HQl.out.o3)
      clear hQ5 hM5 hX5 hQl hdl
      go_upto_region 8 with fail
      go_region_law (refine step_append_lies _ rfl (.tmp 39) (.tmp 42) 22 rfl B 9 i0 _ 1 16 Try.underlying22 hi hz0 hz1 hz2 rfl (by decide) (.slice a3 q.got.length c3) q.got.length _ (by simp [Act.eval]) HO.out ⟨W5.heap.size, 0, none⟩ 1 1 (sv [tx]) (by simp [Act.eval]) (by rw [sv_len]; rfl) hlit.1.src (sv_one [tx]) (by omega) (by unfold maxLen; omega) (by omega) (by simp; omega) _ rfl ?_; intro g7 cap7 w7 hown7 hgrow7 hat hlt7; obtain ⟨z0, z1⟩ := HG.out w7 hgrow7)
      all_goals
        have hO : OwnT w7 B (.slice (some ⟨g7, 0, none⟩) (q.got.length + 1) cap7) (q.got ++ [tx]) := by
          unfold OwnT; rw [List.length_append, sv_app]; exact hown7
        have hP := HQl.out.put3 (W2 := w7) (Chg.gb hgrow7 (fun k e => e)) hO (fun k e => by
          simp only [Value.ownBlock, Option.some.injEq] at e
          subst e
          rcases hat with h' | h'
          · exact .inl h'
          · exact .inr (Nat.le_of_eq h'.symm))
        have hM8 := HMl.out.trans hP.2
        have hP8 := hP.1
        obtain ⟨W8, hW8⟩ : ∃ W8, w7.setCell ⟨g, 3, none⟩ (.slice (some ⟨g7, 0, none⟩) (q.got.length + 1) cap7) = W8 := ⟨_, rfl⟩
        have y8 := hP8.box.pen.1.2.2.2.1
        rw [hW8] at hP8 hM8 y8
        have HP8 := hide hP8
        have HM8 := hide hM8
        have HW8 := hide hW8
        have hsz8 : B ≤ W8.heap.size := Nat.le_trans hB hM8.chg.size
        clear hP hO hown7 hgrow7 hat hlit yl HG HO HQl HMl y3 b0 b1 b2 hP8 hM8 hW8
        go_wp2_with (first | (rw [HW8.out]; fail) | fail)
        rw [HW8.out]
        clear HW8
        go_wp2_with fail
        refine (put_line B g _ _ _ _ ⟨true, ((q.got.length : Int) + 1), ⟨#[]⟩⟩ _ HP8.out hsz8 (by show (outQ q k).line.length < 40; omega) (by show ByteArray.size ⟨#[]⟩ ≤ 12; decide)).mono ?_
        rintro e w9 ⟨rfl, u5, hP9, hM9⟩
        have HF := hide (show PQ w9 B g v1 _ u5 (takeQ q k ⟨false, no, tx⟩) ∧ Mv g w v1 (.slice a3 q.got.length c3) v4 w9 v1 _ u5 from ⟨by
          rw [HT.out, got_eq (by exact HNO.out)]
          have : (((outQ q k).got ++ [tx]).length : Int) = (q.got.length : Int) + 1 := by simp [outQ]
          simp only [this]
          exact hP9, HM8.out.trans hM9⟩)
        clear hP9 hM9 y8 z0 z1
        go_wp2
        go_ret
        exact ⟨rfl, _, u5, HF.out⟩
    · have hne : (no == (q.got.length : Int)) = false := by simpa using hno
      have HNO := hide hno
      clear hno
      go_big_quiet (fail)
      rename_i nq
      have hdn := below_drewN (Below.refl W.heap.size W) nq
      have hQ5 := HQ2.out.down hdn
      have hM5 := HM2.out.trans (Mv.down hdn)
      obtain ⟨W5, hW5⟩ : ∃ W5, W.drewN nq = W5 := ⟨_, rfl⟩
      have hsz5 : B ≤ W5.heap.size := by rw [← hW5]; exact Nat.le_trans hszW hdn.size
      rw [hW5] at hQ5 hM5 ⊢
      clear hW5 hdn y3 b0 b1 b2 HQ2 HM2 HXB
      obtain ⟨⟨-, -, -, y3, -⟩, -⟩ := hQ5.box.pen
      rw [show (outQ q k).got = q.got from rfl] at y3
      have HP8 := hide hQ5
      have HM8 := hide hM5
      clear hQ5 hM5
      go_wp2_with fail
      refine (put_line B g _ _ _ _ ⟨true, (q.got.length : Int), ⟨#[]⟩⟩ _ HP8.out hsz5 (by omega) (by show ByteArray.size ⟨#[]⟩ ≤ 12; decide)).mono ?_
      rintro e w9 ⟨rfl, u5, hP9, hM9⟩
      have HF := hide (show PQ w9 B g v1 _ u5 (takeQ q k ⟨false, no, tx⟩) ∧ Mv g w v1 (.slice a3 q.got.length c3) v4 w9 v1 _ u5 from ⟨by
        rw [HT.out, got_ne (by exact HNO.out)]
        exact hP9, HM8.out.trans hM9⟩)
      clear hP9 hM9 y3
      go_wp2
      go_ret
      exact ⟨rfl, _, u5, HF.out⟩
end Go.Proofs.Ytfjdbenbiakbbaa

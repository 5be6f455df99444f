/-
  CurrentOf of the specification.
-/
import Derived.Test.YtjgopjnkkhkcnaaGreatDoorBrY
namespace Go.Proofs.YtjgopjnkkhkcnaaGreatDoor
open Go.RowKit M
open Go.Sort (grow)
namespace M
theorem btr_gt {b o : Evs} (h : lv o < lv b) : btr b o = true := by unfold btr; rw [decide_eq_true h]; rfl
theorem btr_eq {b o : Evs} (h : lv o = lv b) : btr b o = decide (o.length ≤ b.length) := by
  unfold btr; rw [decide_eq_false (by omega), decide_eq_true h]; simp
theorem btr_lt {b o : Evs} (h : lv b < lv o) : btr b o = false := by
  unfold btr; rw [decide_eq_false (by omega), decide_eq_false (by omega)]; rfl
theorem cur_btr {bs : Brs} {k : Nat} {o b : Evs} (hb : bs[k]? = some b) (ho : bs[cur bs k]? = some o) : cur bs (k + 1) = if btr b o = true then k else cur bs k := by
  rw [cur, getD_at hb, getD_at ho]
def curI (bs : Brs) (k : Nat) : Int := if k = 0 then -1 else (cur bs k : Int)
end M
set_option maxRecDepth 20000 in
set_option maxHeartbeats 4000000 in
theorem spec_current (v : Value) (bs : Brs) (w : World) (hv : BrsOf w v bs) (hf : FineS bs) (hg : GdT bs) :
    Calls Tryz.prog 164 #[v] w fun e w' => e = .returned (.int .i64 (curI bs bs.length)) ∧ Below w.heap.size w w' := by
  have HV := hide hv
  have HF := hide hf
  have HG := hide hg
  have hn := hf.1
  obtain ⟨a, cap, rfl⟩ := hv.form
  clear hv hf hg
  go_enter Tryz.func164, Tryz.ntmps164
  go_wp2
  go_loopw [3, 11] (fun x i wr => ∃ (k : Nat) (z : Int), k ≤ bs.length ∧ i = .int .i64 k ∧ x = .int .i64 z ∧ Hid (z = curI bs k) ∧ Below w.heap.size w wr) (fun _ i _ => bs.length - (intOf i).toNat)
  case atStart => exact ⟨0, -1, Nat.zero_le _, rfl, rfl, hide rfl, Below.refl _ _⟩
  case round =>
    obtain ⟨k, z, hk, rfl, rfl, HZ, hbw⟩ := hrel
    by_cases hlt : k < bs.length
    · obtain ⟨es, he⟩ : ∃ e, bs[k]? = some e := ⟨bs[k], List.getElem?_eq_getElem hlt⟩
      obtain ⟨g, off, rfl, hlg, a2, c2, hc, hs⟩ := HV.out.at he
      have hcw := (hbw.cell (p := ⟨g, off + k, none⟩) hlg).trans hc
      have hal := (Below.refl wr.heap.size wr).alloc (Nat.le_refl _) (.cells #[.slice a2 es.length c2] 148)
      have hbq := hbw.trans (hal.mono hbw.size)
      by_cases hk0 : k = 0
      · have hz := HZ.out
        unfold curI at hz
        rw [if_pos hk0] at hz
        have hzl : z < 0 := by omega
        have HN := hide (show (k : Int) = curI bs (k + 1) by unfold curI; rw [if_neg (by omega), hk0, cur_one])
        clear HZ hk0 hz hc hs he hal
        go_wp2
        exact ⟨⟨k + 1, k, by omega, by go_num, rfl, HN, hbq⟩, by simp [intOf]; omega⟩
      · have hz := HZ.out
        unfold curI at hz
        rw [if_neg hk0] at hz
        obtain ⟨q, hq⟩ : ∃ q, cur bs k = q := ⟨_, rfl⟩
        rw [hq] at hz
        subst hz
        obtain ⟨o, ho⟩ := cur_at hk (by omega)
        have HCB := hide (cur_btr he ho)
        rw [hq] at ho
        obtain ⟨g', off', hgg, -, a3, c3, hc3, hs3⟩ := HV.out.at ho
        simp only [Option.some.injEq, Addr.mk.injEq, and_true] at hgg
        obtain ⟨rfl, rfl⟩ := hgg
        have hql := (List.getElem?_eq_some_iff.1 ho).1
        have hzl : ¬ ((q : Int) < 0) := by omega
        have hi0 : (0 : Int) ≤ (q : Int) := by omega
        have hi1 : (q : Int) < (bs.length : Int) := by omega
        have q1 := (hbq.cell (p := ⟨g, off + q, none⟩) hlg).trans hc3
        have hpe := (HG.out.2.1 es (List.mem_of_getElem? he)).pos
        have hpo := (HG.out.2.1 o (List.mem_of_getElem? ho)).pos
        have hle := (HF.out.at he).1
        have hlo := (HF.out.at ho).1
        obtain ⟨je, hje⟩ : ∃ j, es.length - 1 = j := ⟨_, rfl⟩
        obtain ⟨jo, hjo⟩ : ∃ j, o.length - 1 = j := ⟨_, rfl⟩
        obtain ⟨x, hx⟩ : ∃ x, es[je]? = some x := ⟨es[je]'(by omega), List.getElem?_eq_getElem _⟩
        obtain ⟨y, hy⟩ : ∃ y, o[jo]? = some y := ⟨o[jo]'(by omega), List.getElem?_eq_getElem _⟩
        obtain ⟨a2', c2', hv2, hr2⟩ := hs
        obtain ⟨a3', c3', hv3, hr3⟩ := hs3
        simp only [Value.slice.injEq, true_and] at hv2 hv3
        obtain ⟨rfl, rfl⟩ := hv2
        obtain ⟨rfl, rfl⟩ := hv3
        obtain ⟨g1, o1, rfl, hl1, hrow1⟩ := hr2 (by intro h; subst h; simp at hpe)
        obtain ⟨g2, o2, rfl, hl2, hrow2⟩ := hr3 (by intro h; subst h; simp at hpo)
        have e1 := ((hrow1 je x hx).below hbq hl1).2.1
        have e2 := ((hrow2 jo y hy).below hbq hl2).2.1
        have hse : (es.length : Int) - 1 = (je : Int) := by omega
        have hso : (o.length : Int) - 1 = (jo : Int) := by omega
        have hj0 : (0 : Int) ≤ (je : Int) := by omega
        have hj1 : (je : Int) < (es.length : Int) := by omega
        have hj2 : (0 : Int) ≤ (jo : Int) := by omega
        have hj3 : (jo : Int) < (o.length : Int) := by omega
        have hlve := lv_at (show es[es.length - 1]? = some x by rw [hje]; exact hx)
        have hlvo := lv_at (show o[o.length - 1]? = some y by rw [hjo]; exact hy)
        have HQ := hide hq
        rcases (show y.ver < x.ver ∨ y.ver = x.ver ∨ x.ver < y.ver by omega) with h | h | h
        · have hg1 : x.ver > y.ver := h
          have HN := hide (show (k : Int) = curI bs (k + 1) by
            unfold curI
            rw [if_neg (by omega), HCB.out, btr_gt (by omega), if_pos rfl])
          clear HZ hk0 hc hc3 hr2 hr3 hrow1 hrow2 hx hy he ho hal hq hje hjo hlve hlvo HCB hpe hpo
          go_wp2
          exact ⟨⟨k + 1, k, by omega, by go_num, rfl, HN, hbq⟩, by simp [intOf]; omega⟩
        · have hg1 : ¬ x.ver > y.ver := by omega
          have hg2 : (x.ver == y.ver) = true := by simp [h]
          by_cases hll : o.length ≤ es.length
          · have hg3 : (es.length : Int) ≥ (o.length : Int) := by omega
            have HN := hide (show (k : Int) = curI bs (k + 1) by
              unfold curI
              rw [if_neg (by omega), HCB.out, btr_eq (by omega), decide_eq_true hll, if_pos rfl])
            clear HZ hk0 hc hc3 hr2 hr3 hrow1 hrow2 hx hy he ho hal hq hje hjo hlve hlvo HCB hpe hpo h
            go_wp2
            exact ⟨⟨k + 1, k, by omega, by go_num, rfl, HN, hbq⟩, by simp [intOf]; omega⟩
          · have hg3 : ¬ (es.length : Int) ≥ (o.length : Int) := by omega
            have HN := hide (show (q : Int) = curI bs (k + 1) by
              unfold curI
              rw [if_neg (by omega), HCB.out, btr_eq (by omega), decide_eq_false hll, if_neg (by simp), HQ.out])
            clear HZ hk0 hc hc3 hr2 hr3 hrow1 hrow2 hx hy he ho hal hq hje hjo hlve hlvo HCB hpe hpo h
            go_wp2
            exact ⟨⟨k + 1, q, by omega, by go_num, rfl, HN, hbq⟩, by simp [intOf]; omega⟩
        · have hg1 : ¬ x.ver > y.ver := by omega
          have hg2 : (x.ver == y.ver) = false := by simp; omega
          have HN := hide (show (q : Int) = curI bs (k + 1) by
            unfold curI
            rw [if_neg (by omega), HCB.out, btr_lt (by omega), if_neg (by simp), HQ.out])
          clear HZ hk0 hc hc3 hr2 hr3 hrow1 hrow2 hx hy he ho hal hq hje hjo hlve hlvo HCB hpe hpo h
          go_wp2
          exact ⟨⟨k + 1, q, by omega, by go_num, rfl, HN, hbq⟩, by simp [intOf]; omega⟩
    · obtain rfl : k = bs.length := by omega
      have HZ2 := hide HZ.out
      clear HV HZ
      go_wp2
      go_ret
      exact ⟨ret_int (by rw [HZ2.out]), hbw⟩
end Go.Proofs.YtjgopjnkkhkcnaaGreatDoor

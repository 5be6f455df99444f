/-
  The law's look whether marks are still there, on branches and tellings.
-/
import Derived.Test.YtjgopjnkkhkcnaaGreatDoorBrB
namespace Go.Proofs.YtjgopjnkkhkcnaaGreatDoor
open Go.RowKit M
open Go.Sort (grow)
namespace M
theorem mkP_at : ∀ (k0 : Nat) (ps : Prs) (k : Nat) (p : Value × Evs), ps[k]? = some p → (mkP k0 ps)[k]? = some (p.1, mkE (k0 + 4 * evn (ps.take k)) p.2.length)
  | k0, [], k, p, h => by simp at h
  | k0, q :: r, 0, p, h => by simp at h; subst h; simp [mkP, evn]
  | k0, q :: r, k + 1, p, h => by
    have := mkP_at (k0 + 4 * q.2.length) r k p (by simpa using h)
    simp only [mkP, List.getElem?_cons_succ, List.take_succ_cons, evn]
    rw [this]
    congr 3; omega
theorem evn_le {n : Nat} : ∀ {ps : Prs}, (∀ p ∈ ps, p.2.length ≤ n) → evn ps ≤ n * ps.length
  | [], _ => by simp [evn]
  | p :: r, h => by
    have h1 := h p (by simp)
    have h2 := evn_le (ps := r) (fun q hq => h q (by simp [hq]))
    simp only [evn, List.length_cons, Nat.mul_succ]
    omega
theorem vsP_len2 (k : Nat) (ps : Prs) : (mkP k ps).length = ps.length := mkP_len k ps
end M
set_option maxHeartbeats 2000000 in
theorem held_brs (B k0 : Nat) (v : Value) (ps : Prs) (w : World) (h : OwnP w B v (mkP k0 ps)) (hn : ps.length ≤ 1048576) (hl : ∀ p ∈ ps, p.2.length ≤ 1048576) (h1 : 1 ≤ k0) (hk0 : k0 + 4 * evn ps ≤ 20000000) :
    Calls Tryz.prog 126 #[v, .int .i64 (k0 : Int)] w fun e w' => e = .returned (.int .i64 ((k0 + 4 * evn ps : Nat) : Int)) ∧ Below w.heap.size w w' := by
  have HP := hide h
  have HL := hide hl
  obtain ⟨a, cap, hv⟩ := h.form
  rw [mkP_len] at hv
  subst hv
  clear h hl
  go_enter Tryz.func126, Tryz.ntmps126
  go_wp2
  go_loopw [1, 5] (fun x i wr => ∃ k q : Nat, k ≤ ps.length ∧ i = .int .i64 k ∧ x = .int .i64 q ∧ Hid (q = k0 + 4 * evn (ps.take k)) ∧ q ≤ 20000000 ∧ Below w.heap.size w wr) (fun _ i _ => ps.length - (intOf i).toNat)
  case atStart => exact ⟨0, k0, Nat.zero_le _, rfl, rfl, hide (by simp [evn]), by omega, Below.refl _ _⟩
  case round =>
    obtain ⟨k, q, hk, rfl, rfl, HQ, hq, hbw⟩ := hrel
    by_cases hlt : k < ps.length
    · obtain ⟨u, es, he⟩ : ∃ u es, ps[k]? = some (u, es) := ⟨ps[k].1, ps[k].2, List.getElem?_eq_getElem hlt⟩
      have hat := mkP_at k0 ps k (u, es) he
      rw [← HQ.out] at hat
      have hO := HP.out.down hbw
      rcases hO.split with ⟨h0, h0'⟩ | ⟨g, cap', hva, hB, hgl, -⟩
      · have := congrArg List.length h0'
        rw [mkP_len, List.length_nil] at this
        omega
      · simp only [Value.slice.injEq] at hva
        obtain ⟨rfl, -, -⟩ := hva
        have hcc := own1_cellm hO.row (j := k) (x := u) (vsP_at hat)
        have hev := hO.evs _ (List.mem_of_getElem? hat)
        have hsl : SliceOf wr u (mkE q es.length) := hev.slice
        obtain ⟨au, cu, hu⟩ := hsl.form
        rw [mkE_len] at hu
        subst hu
        have hle := HL.out _ (List.mem_of_getElem? he)
        have htk : evn (ps.take (k + 1)) = evn (ps.take k) + es.length := by
          rw [take_snocB he, evn_app]; simp [evn]
        have hq3 : q + 4 * es.length ≤ 20000000 := by
          have := HQ.out
          have := evn_take_le ps (k + 1)
          omega
        have hq1 : 1 ≤ q := by have := HQ.out; omega
        have HQ2 := hide (show q + 4 * es.length = k0 + 4 * evn (ps.take (k + 1)) by rw [htk, HQ.out]; omega)
        have HSL := hide hsl
        have hle2 : es.length ≤ 1048576 := hle
        have hkn : ¬ (((q + 4 * es.length : Nat) : Int) < 0) := by omega
        clear hat hO hev hsl hle htk he HQ
        go_wp2_with fail
        refine (held_evs _ q es.length _ HSL.out hle2 hq1 (by omega)).mono ?_
        rintro e w1 ⟨rfl, hb⟩
        have hb2 := hbw.trans (hb.mono hbw.size)
        clear hb hcc HSL
        go_wp2
        go_roundw
        case rel => exact ⟨k + 1, q + 4 * es.length, by omega, by go_num, rfl, HQ2, hq3, hb2⟩
        case measure => simp [intOf]; omega
    · obtain rfl : k = ps.length := by omega
      have hQ := HQ.out
      rw [List.take_length] at hQ
      have HQ2 := hide hQ
      clear hQ HQ HL HP
      go_wp2
      go_ret
      exact ⟨ret_int (by rw [HQ2.out]), hbw⟩
set_option maxHeartbeats 1000000 in
theorem held_tell (B k0 : Nat) (v : Value) (ps : Prs) (w : World) (h : OwnP w B v (mkP k0 ps)) (hn : ps.length ≤ 1048576) (hl : ∀ p ∈ ps, p.2.length ≤ 1048576) (h1 : 1 ≤ k0) (hk0 : k0 + 4 * evn ps ≤ 20000000) :
    Calls Tryz.prog 66 #[.agg #[v], .int .i64 (k0 : Int)] w fun e w' => e = .returned (.int .i64 ((k0 + 4 * evn ps : Nat) : Int)) ∧ Below w.heap.size w w' := by
  have HL := hide hl
  have hal := (Below.refl w.heap.size w).alloc (Nat.le_refl _) (.cells #[v] 30)
  have HP := hide (h.down hal)
  obtain ⟨a, cap, hv⟩ := h.form
  rw [mkP_len] at hv
  subst hv
  have hkn : ¬ (((k0 + 4 * evn ps : Nat) : Int) < 0) := by omega
  obtain ⟨mm, hmm⟩ : ∃ mm, k0 + 4 * evn ps = mm := ⟨_, rfl⟩
  have HMM := hide hmm
  rw [hmm] at hkn ⊢
  clear h hl hmm
  go_enter Tryz.func66, Tryz.ntmps66
  go_wp2_with fail
  refine (held_brs B k0 _ ps _ HP.out hn HL.out h1 hk0).mono ?_
  rw [HMM.out]
  rintro e w1 ⟨rfl, hb⟩
  have hbw := hal.trans (hb.mono hal.size)
  clear hb hal HP
  go_wp2
  go_ret
  exact ⟨rfl, hbw⟩
end Go.Proofs.YtjgopjnkkhkcnaaGreatDoor

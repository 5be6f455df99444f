/-
  The specification's table of a variable, and a table with one variable so.
-/
import Derived.Test.YtfiooclkefmijaaDoorBddU
namespace Go.Proofs.YtfiooclkefmijaaDoor
open Go.RowKit M
namespace M
open Bdd
theorem i_bit (m : Nat) : bits .and .i64 (m : Int) 1 = ((m % 2 : Nat) : Int) := by
  have h : (BitVec.ofInt 64 (m : Int) &&& BitVec.ofInt 64 1).toNat = m % 2 := by
    rw [BitVec.toNat_and, BitVec.ofInt_natCast, BitVec.toNat_ofNat]
    show (m % 2 ^ 64) &&& 1 = m % 2
    rw [Nat.and_one_is_mod]
    omega
  show IntKind.i64.wrap ((BitVec.ofInt 64 (m : Int) &&& BitVec.ofInt 64 1).toNat : Int) = _
  rw [h, IntKind.wrap_i64]
  omega
theorem one_shl (n : Nat) (h : n < 64) (k : IntKind) : Op.shift .shl .u64 1 k (n : Int) = pure (uv (BitVec.twoPow 64 n)) := by
  rw [shift_shl .u64 k 1 (n : Int) (by omega) (by simp only [IntKind.bits]; omega)]
  show pure (Value.int .u64 (IntKind.u64.wrap (1 * 2 ^ (n : Int).toNat))) = pure (Value.int .u64 (tn (BitVec.twoPow 64 n)))
  have e : IntKind.u64.wrap (1 * 2 ^ (n : Int).toNat) = tn (BitVec.twoPow 64 n) := by
    rw [show IntKind.u64.wrap (1 * 2 ^ (n : Int).toNat) = (1 * 2 ^ (n : Int).toNat) % ((18446744073709551616 : Nat) : Int) from rfl, Int.one_mul, Int.toNat_natCast, tn_def, BitVec.toNat_twoPow, Int.natCast_emod]
    simp
  rw [e]
def gv (v n : Nat) (t : T) : Prop := gat (fun n => bitOf n v) n = t
theorem gv_yes {v n d : Nat} {t p : T} (h : gv v n t) (hp : BitVec.twoPow 64 n = p) (hd : d = 2 ^ v) (hb : n / d % 2 = 1) : gv v (n + 1) (t ||| p) := by
  unfold gv at h ⊢
  rw [gat, h, hp, if_pos (by subst hd; simp [bitOf, hb])]
theorem gv_no {v n d : Nat} {t : T} (h : gv v n t) (hd : d = 2 ^ v) (hb : n / d % 2 = 0) : gv v (n + 1) t := by
  unfold gv at h ⊢
  rw [gat, h, if_neg (by subst hd; simp [bitOf, hb])]
theorem bit_div (n d : Nat) (e : Int) (he : e = ((d : Nat) : Int)) : bits .and .i64 ((n : Int) / e) 1 = ((n / d % 2 : Nat) : Int) := by
  subst he
  rw [show ((n : Int) / (d : Int)) = ((n / d : Nat) : Int) from rfl, i_bit]
theorem next64 {n : Nat} (h : n < 64) : wrap64 ((n : Int) + 1) = ((n + 1 : Nat) : Int) := by
  unfold wrap64; omega
end M
theorem l7_var (v : Nat) (hv : v < 6) (w : World) :
    Calls Tryd.prog 62 #[.int .i64 (v : Int)] w fun e w' => e = .returned (uv (Bdd.vt v)) ∧ w' = w := by
  have h2 := u_or
  have HG := hide (Bdd.vt_gat hv)
  rcases (show v = 0 ∨ v = 1 ∨ v = 2 ∨ v = 3 ∨ v = 4 ∨ v = 5 by omega) with rfl | rfl | rfl | rfl | rfl | rfl
  · go_enter Tryd.func62, Tryd.ntmps62
    go_wp2
    go_loop [3, 4] (fun x i => ∃ (n : Nat) (t : Bdd.T), n ≤ 64 ∧ i = .int .i64 n ∧ x = uv t ∧ gv 0 n t) (fun _ i => 64 - (intOf i).toNat)
    case atStart => exact ⟨0, _, Nat.zero_le _, rfl, rfl, rfl⟩
    case round =>
      obtain ⟨n, t, hn, rfl, rfl, hg⟩ := hrel
      have HG' := hide hg
      by_cases hlt : n < 64
      · have HL := hide hlt
        have hd : decide ((n : Int) < 64) = true := by simp; omega
        have hb := i_bit n
        rcases (show n % 2 = 1 ∨ n % 2 = 0 by omega) with hm | hm
        · obtain ⟨p, hp⟩ : ∃ p : Bdd.T, BitVec.twoPow 64 n = p := ⟨_, rfl⟩
          have ho := one_shl n hlt .u64
          rw [hp] at ho
          have hw : IntKind.u64.wrap (n : Int) = (n : Int) := by rw [show IntKind.u64.wrap (n : Int) = (n : Int) % 18446744073709551616 from rfl]; omega
          rw [hm] at hb
          have HN := hide (gv_yes (d := 1) hg hp rfl (by omega))
          clear hp hg HG HG' hn hlt hm
          go_wp2
          exact ⟨⟨n + 1, _, by have := HL.out; omega, by rw [next64 HL.out], rfl, HN.out⟩, by have := HL.out; rw [next64 HL.out]; simp [intOf]; omega⟩
        · rw [hm] at hb
          have HN := hide (gv_no (d := 1) hg rfl (by omega))
          clear hg HG HG' hn hlt hm
          go_wp2
          exact ⟨⟨n + 1, _, by have := HL.out; omega, by rw [next64 HL.out], rfl, HN.out⟩, by have := HL.out; rw [next64 HL.out]; simp [intOf]; omega⟩
      · have hd : decide ((n : Int) < 64) = false := by simp; omega
        obtain rfl : n = 64 := by omega
        have HE := hide (HG'.out.symm.trans HG.out)
        clear hg HG HG' hn hlt
        go_wp2
        go_ret
        exact ⟨by rw [← HE.out]; rfl, rfl⟩
  · go_enter Tryd.func62, Tryd.ntmps62
    go_wp2
    go_loop [3, 4] (fun x i => ∃ (n : Nat) (t : Bdd.T), n ≤ 64 ∧ i = .int .i64 n ∧ x = uv t ∧ gv 1 n t) (fun _ i => 64 - (intOf i).toNat)
    case atStart => exact ⟨0, _, Nat.zero_le _, rfl, rfl, rfl⟩
    case round =>
      obtain ⟨n, t, hn, rfl, rfl, hg⟩ := hrel
      have HG' := hide hg
      by_cases hlt : n < 64
      · have HL := hide hlt
        have hd : decide ((n : Int) < 64) = true := by simp; omega
        have hb := bit_div n 2 2 rfl
        rcases (show n / 2 % 2 = 1 ∨ n / 2 % 2 = 0 by omega) with hm | hm
        · obtain ⟨p, hp⟩ : ∃ p : Bdd.T, BitVec.twoPow 64 n = p := ⟨_, rfl⟩
          have ho := one_shl n hlt .u64
          rw [hp] at ho
          have hw : IntKind.u64.wrap (n : Int) = (n : Int) := by rw [show IntKind.u64.wrap (n : Int) = (n : Int) % 18446744073709551616 from rfl]; omega
          rw [hm] at hb
          have HN := hide (gv_yes (d := 2) hg hp rfl (hm))
          clear hp hg HG HG' hn hlt hm
          go_wp2
          exact ⟨⟨n + 1, _, by have := HL.out; omega, by rw [next64 HL.out], rfl, HN.out⟩, by have := HL.out; rw [next64 HL.out]; simp [intOf]; omega⟩
        · rw [hm] at hb
          have HN := hide (gv_no (d := 2) hg rfl (hm))
          clear hg HG HG' hn hlt hm
          go_wp2
          exact ⟨⟨n + 1, _, by have := HL.out; omega, by rw [next64 HL.out], rfl, HN.out⟩, by have := HL.out; rw [next64 HL.out]; simp [intOf]; omega⟩
      · have hd : decide ((n : Int) < 64) = false := by simp; omega
        obtain rfl : n = 64 := by omega
        have HE := hide (HG'.out.symm.trans HG.out)
        clear hg HG HG' hn hlt
        go_wp2
        go_ret
        exact ⟨by rw [← HE.out]; rfl, rfl⟩
  · go_enter Tryd.func62, Tryd.ntmps62
    go_wp2
    go_loop [3, 4] (fun x i => ∃ (n : Nat) (t : Bdd.T), n ≤ 64 ∧ i = .int .i64 n ∧ x = uv t ∧ gv 2 n t) (fun _ i => 64 - (intOf i).toNat)
    case atStart => exact ⟨0, _, Nat.zero_le _, rfl, rfl, rfl⟩
    case round =>
      obtain ⟨n, t, hn, rfl, rfl, hg⟩ := hrel
      have HG' := hide hg
      by_cases hlt : n < 64
      · have HL := hide hlt
        have hd : decide ((n : Int) < 64) = true := by simp; omega
        have hb := bit_div n 4 4 rfl
        rcases (show n / 4 % 2 = 1 ∨ n / 4 % 2 = 0 by omega) with hm | hm
        · obtain ⟨p, hp⟩ : ∃ p : Bdd.T, BitVec.twoPow 64 n = p := ⟨_, rfl⟩
          have ho := one_shl n hlt .u64
          rw [hp] at ho
          have hw : IntKind.u64.wrap (n : Int) = (n : Int) := by rw [show IntKind.u64.wrap (n : Int) = (n : Int) % 18446744073709551616 from rfl]; omega
          rw [hm] at hb
          have HN := hide (gv_yes (d := 4) hg hp rfl (hm))
          clear hp hg HG HG' hn hlt hm
          go_wp2
          exact ⟨⟨n + 1, _, by have := HL.out; omega, by rw [next64 HL.out], rfl, HN.out⟩, by have := HL.out; rw [next64 HL.out]; simp [intOf]; omega⟩
        · rw [hm] at hb
          have HN := hide (gv_no (d := 4) hg rfl (hm))
          clear hg HG HG' hn hlt hm
          go_wp2
          exact ⟨⟨n + 1, _, by have := HL.out; omega, by rw [next64 HL.out], rfl, HN.out⟩, by have := HL.out; rw [next64 HL.out]; simp [intOf]; omega⟩
      · have hd : decide ((n : Int) < 64) = false := by simp; omega
        obtain rfl : n = 64 := by omega
        have HE := hide (HG'.out.symm.trans HG.out)
        clear hg HG HG' hn hlt
        go_wp2
        go_ret
        exact ⟨by rw [← HE.out]; rfl, rfl⟩
  · go_enter Tryd.func62, Tryd.ntmps62
    go_wp2
    go_loop [3, 4] (fun x i => ∃ (n : Nat) (t : Bdd.T), n ≤ 64 ∧ i = .int .i64 n ∧ x = uv t ∧ gv 3 n t) (fun _ i => 64 - (intOf i).toNat)
    case atStart => exact ⟨0, _, Nat.zero_le _, rfl, rfl, rfl⟩
    case round =>
      obtain ⟨n, t, hn, rfl, rfl, hg⟩ := hrel
      have HG' := hide hg
      by_cases hlt : n < 64
      · have HL := hide hlt
        have hd : decide ((n : Int) < 64) = true := by simp; omega
        have hb := bit_div n 8 8 rfl
        rcases (show n / 8 % 2 = 1 ∨ n / 8 % 2 = 0 by omega) with hm | hm
        · obtain ⟨p, hp⟩ : ∃ p : Bdd.T, BitVec.twoPow 64 n = p := ⟨_, rfl⟩
          have ho := one_shl n hlt .u64
          rw [hp] at ho
          have hw : IntKind.u64.wrap (n : Int) = (n : Int) := by rw [show IntKind.u64.wrap (n : Int) = (n : Int) % 18446744073709551616 from rfl]; omega
          rw [hm] at hb
          have HN := hide (gv_yes (d := 8) hg hp rfl (hm))
          clear hp hg HG HG' hn hlt hm
          go_wp2
          exact ⟨⟨n + 1, _, by have := HL.out; omega, by rw [next64 HL.out], rfl, HN.out⟩, by have := HL.out; rw [next64 HL.out]; simp [intOf]; omega⟩
        · rw [hm] at hb
          have HN := hide (gv_no (d := 8) hg rfl (hm))
          clear hg HG HG' hn hlt hm
          go_wp2
          exact ⟨⟨n + 1, _, by have := HL.out; omega, by rw [next64 HL.out], rfl, HN.out⟩, by have := HL.out; rw [next64 HL.out]; simp [intOf]; omega⟩
      · have hd : decide ((n : Int) < 64) = false := by simp; omega
        obtain rfl : n = 64 := by omega
        have HE := hide (HG'.out.symm.trans HG.out)
        clear hg HG HG' hn hlt
        go_wp2
        go_ret
        exact ⟨by rw [← HE.out]; rfl, rfl⟩
  · go_enter Tryd.func62, Tryd.ntmps62
    go_wp2
    go_loop [3, 4] (fun x i => ∃ (n : Nat) (t : Bdd.T), n ≤ 64 ∧ i = .int .i64 n ∧ x = uv t ∧ gv 4 n t) (fun _ i => 64 - (intOf i).toNat)
    case atStart => exact ⟨0, _, Nat.zero_le _, rfl, rfl, rfl⟩
    case round =>
      obtain ⟨n, t, hn, rfl, rfl, hg⟩ := hrel
      have HG' := hide hg
      by_cases hlt : n < 64
      · have HL := hide hlt
        have hd : decide ((n : Int) < 64) = true := by simp; omega
        have hb := bit_div n 16 16 rfl
        rcases (show n / 16 % 2 = 1 ∨ n / 16 % 2 = 0 by omega) with hm | hm
        · obtain ⟨p, hp⟩ : ∃ p : Bdd.T, BitVec.twoPow 64 n = p := ⟨_, rfl⟩
          have ho := one_shl n hlt .u64
          rw [hp] at ho
          have hw : IntKind.u64.wrap (n : Int) = (n : Int) := by rw [show IntKind.u64.wrap (n : Int) = (n : Int) % 18446744073709551616 from rfl]; omega
          rw [hm] at hb
          have HN := hide (gv_yes (d := 16) hg hp rfl (hm))
          clear hp hg HG HG' hn hlt hm
          go_wp2
          exact ⟨⟨n + 1, _, by have := HL.out; omega, by rw [next64 HL.out], rfl, HN.out⟩, by have := HL.out; rw [next64 HL.out]; simp [intOf]; omega⟩
        · rw [hm] at hb
          have HN := hide (gv_no (d := 16) hg rfl (hm))
          clear hg HG HG' hn hlt hm
          go_wp2
          exact ⟨⟨n + 1, _, by have := HL.out; omega, by rw [next64 HL.out], rfl, HN.out⟩, by have := HL.out; rw [next64 HL.out]; simp [intOf]; omega⟩
      · have hd : decide ((n : Int) < 64) = false := by simp; omega
        obtain rfl : n = 64 := by omega
        have HE := hide (HG'.out.symm.trans HG.out)
        clear hg HG HG' hn hlt
        go_wp2
        go_ret
        exact ⟨by rw [← HE.out]; rfl, rfl⟩
  · go_enter Tryd.func62, Tryd.ntmps62
    go_wp2
    go_loop [3, 4] (fun x i => ∃ (n : Nat) (t : Bdd.T), n ≤ 64 ∧ i = .int .i64 n ∧ x = uv t ∧ gv 5 n t) (fun _ i => 64 - (intOf i).toNat)
    case atStart => exact ⟨0, _, Nat.zero_le _, rfl, rfl, rfl⟩
    case round =>
      obtain ⟨n, t, hn, rfl, rfl, hg⟩ := hrel
      have HG' := hide hg
      by_cases hlt : n < 64
      · have HL := hide hlt
        have hd : decide ((n : Int) < 64) = true := by simp; omega
        have hb := bit_div n 32 32 rfl
        rcases (show n / 32 % 2 = 1 ∨ n / 32 % 2 = 0 by omega) with hm | hm
        · obtain ⟨p, hp⟩ : ∃ p : Bdd.T, BitVec.twoPow 64 n = p := ⟨_, rfl⟩
          have ho := one_shl n hlt .u64
          rw [hp] at ho
          have hw : IntKind.u64.wrap (n : Int) = (n : Int) := by rw [show IntKind.u64.wrap (n : Int) = (n : Int) % 18446744073709551616 from rfl]; omega
          rw [hm] at hb
          have HN := hide (gv_yes (d := 32) hg hp rfl (hm))
          clear hp hg HG HG' hn hlt hm
          go_wp2
          exact ⟨⟨n + 1, _, by have := HL.out; omega, by rw [next64 HL.out], rfl, HN.out⟩, by have := HL.out; rw [next64 HL.out]; simp [intOf]; omega⟩
        · rw [hm] at hb
          have HN := hide (gv_no (d := 32) hg rfl (hm))
          clear hg HG HG' hn hlt hm
          go_wp2
          exact ⟨⟨n + 1, _, by have := HL.out; omega, by rw [next64 HL.out], rfl, HN.out⟩, by have := HL.out; rw [next64 HL.out]; simp [intOf]; omega⟩
      · have hd : decide ((n : Int) < 64) = false := by simp; omega
        obtain rfl : n = 64 := by omega
        have HE := hide (HG'.out.symm.trans HG.out)
        clear hg HG HG' hn hlt
        go_wp2
        go_ret
        exact ⟨by rw [← HE.out]; rfl, rfl⟩
theorem l7_half (t : Bdd.T) (v : Nat) (hv : v < 6) (b : Bool) (w : World) :
    Calls Tryd.prog 53 #[uv t, .int .i64 (v : Int), .bool b] w fun e w' => e = .returned (uv (Bdd.hf t v b)) ∧ w' = w := by
  have h1 := u_and
  have h2 := u_or
  have h3 := u_andNot
  have HV := hide (l7_var v hv w)
  rcases (show v = 0 ∨ v = 1 ∨ v = 2 ∨ v = 3 ∨ v = 4 ∨ v = 5 by omega) with rfl | rfl | rfl | rfl | rfl | rfl
  · have h4 := u_shr 1 2 (by decide)
    have h5 := u_shl 1 2 (by decide)
    cases b
    · go_enter Tryd.func53, Tryd.ntmps53
      go_wp2_with (refine HV.out.mono ?_; rintro e w1 ⟨rfl, rfl⟩)
      go_ret
      exact ⟨rfl, rfl⟩
    · go_enter Tryd.func53, Tryd.ntmps53
      go_wp2_with (refine HV.out.mono ?_; rintro e w1 ⟨rfl, rfl⟩)
      go_ret
      exact ⟨rfl, rfl⟩
  · have h4 := u_shr 2 4 (by decide)
    have h5 := u_shl 2 4 (by decide)
    cases b
    · go_enter Tryd.func53, Tryd.ntmps53
      go_wp2_with (refine HV.out.mono ?_; rintro e w1 ⟨rfl, rfl⟩)
      go_ret
      exact ⟨rfl, rfl⟩
    · go_enter Tryd.func53, Tryd.ntmps53
      go_wp2_with (refine HV.out.mono ?_; rintro e w1 ⟨rfl, rfl⟩)
      go_ret
      exact ⟨rfl, rfl⟩
  · have h4 := u_shr 4 16 (by decide)
    have h5 := u_shl 4 16 (by decide)
    cases b
    · go_enter Tryd.func53, Tryd.ntmps53
      go_wp2_with (refine HV.out.mono ?_; rintro e w1 ⟨rfl, rfl⟩)
      go_ret
      exact ⟨rfl, rfl⟩
    · go_enter Tryd.func53, Tryd.ntmps53
      go_wp2_with (refine HV.out.mono ?_; rintro e w1 ⟨rfl, rfl⟩)
      go_ret
      exact ⟨rfl, rfl⟩
  · have h4 := u_shr 8 256 (by decide)
    have h5 := u_shl 8 256 (by decide)
    cases b
    · go_enter Tryd.func53, Tryd.ntmps53
      go_wp2_with (refine HV.out.mono ?_; rintro e w1 ⟨rfl, rfl⟩)
      go_ret
      exact ⟨rfl, rfl⟩
    · go_enter Tryd.func53, Tryd.ntmps53
      go_wp2_with (refine HV.out.mono ?_; rintro e w1 ⟨rfl, rfl⟩)
      go_ret
      exact ⟨rfl, rfl⟩
  · have h4 := u_shr 16 65536 (by decide)
    have h5 := u_shl 16 65536 (by decide)
    cases b
    · go_enter Tryd.func53, Tryd.ntmps53
      go_wp2_with (refine HV.out.mono ?_; rintro e w1 ⟨rfl, rfl⟩)
      go_ret
      exact ⟨rfl, rfl⟩
    · go_enter Tryd.func53, Tryd.ntmps53
      go_wp2_with (refine HV.out.mono ?_; rintro e w1 ⟨rfl, rfl⟩)
      go_ret
      exact ⟨rfl, rfl⟩
  · have h4 := u_shr 32 4294967296 (by decide)
    have h5 := u_shl 32 4294967296 (by decide)
    cases b
    · go_enter Tryd.func53, Tryd.ntmps53
      go_wp2_with (refine HV.out.mono ?_; rintro e w1 ⟨rfl, rfl⟩)
      go_ret
      exact ⟨rfl, rfl⟩
    · go_enter Tryd.func53, Tryd.ntmps53
      go_wp2_with (refine HV.out.mono ?_; rintro e w1 ⟨rfl, rfl⟩)
      go_ret
      exact ⟨rfl, rfl⟩
end Go.Proofs.YtfiooclkefmijaaDoor

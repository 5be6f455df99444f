/-
  Where a name belongs among domains whose names rise: the library's search by the program's own comparison, and the domain of a name.
-/
import Derived.Test.YtgccoognklolbaaDmG
import Derived.Test.YtgccoognklolbaaShelf
namespace Go.Proofs.Ytgccoognklolbaa
open Go.RowKit M
open Go.Sort (grow)
namespace M
theorem cb_lt : ∀ x y : List UInt8, Lib.compareBytes x y < 0 ↔ Op.bytesLess x y = true
  | [], [] => by simp [Lib.compareBytes, Op.bytesLess]
  | [], _ :: _ => by simp [Lib.compareBytes, Op.bytesLess]
  | _ :: _, [] => by simp [Lib.compareBytes, Op.bytesLess]
  | a :: x, b :: y => by
    have ih := cb_lt x y
    simp only [Lib.compareBytes, Op.bytesLess, Bool.or_eq_true, Bool.and_eq_true, decide_eq_true_eq, beq_iff_eq]
    rcases (show a < b ∨ a = b ∨ b < a by rcases a with ⟨⟨a⟩⟩; rcases b with ⟨⟨b⟩⟩; simp [UInt8.lt_iff_toNat_lt, ← UInt8.toNat_inj]; omega) with k | k | k
    · rw [if_pos k]; simp [k]
    · subst k
      have hi : ¬ a < a := UInt8.lt_irrefl a
      rw [if_neg hi, if_neg hi, ih]; simp [hi]
    · have h1 : ¬ a < b := fun h => UInt8.lt_asymm h k
      have h2 : a ≠ b := fun h => UInt8.lt_irrefl b (by rw [h] at k; exact k)
      rw [if_neg h1, if_pos k]; simp [h1, h2]
theorem cb_eq : ∀ x y : List UInt8, Lib.compareBytes x y = 0 ↔ x = y
  | [], [] => by simp [Lib.compareBytes]
  | [], _ :: _ => by simp [Lib.compareBytes]
  | _ :: _, [] => by simp [Lib.compareBytes]
  | a :: x, b :: y => by
    have ih := cb_eq x y
    simp only [Lib.compareBytes]
    rcases (show a < b ∨ a = b ∨ b < a by rcases a with ⟨⟨a⟩⟩; rcases b with ⟨⟨b⟩⟩; simp [UInt8.lt_iff_toNat_lt, ← UInt8.toNat_inj]; omega) with k | k | k
    · have h2 : a ≠ b := fun h => UInt8.lt_irrefl b (by rw [h] at k; exact k)
      rw [if_pos k]; simp [h2]
    · subst k
      have hi : ¬ a < a := UInt8.lt_irrefl a
      rw [if_neg hi, if_neg hi, ih]; simp
    · have h1 : ¬ a < b := fun h => UInt8.lt_asymm h k
      have h2 : a ≠ b := fun h => UInt8.lt_irrefl b (by rw [h] at k; exact k)
      rw [if_neg h1, if_pos k]; simp [h2]
def cmpS (a b : ByteArray) : Int := Lib.compareBytes a.data.toList b.data.toList
theorem cmpS_lt (a b : ByteArray) : cmpS a b < 0 ↔ ltS a b = true := by
  unfold cmpS ltS; rw [cb_lt, toL, toL]
theorem cmpS_eq (a b : ByteArray) : cmpS a b = 0 ↔ a = b := by
  unfold cmpS
  rw [cb_eq, ← toL, ← toL]
  exact ⟨toL_inj, fun h => by rw [h]⟩
end M
theorem at_name (d : Dm) (x : ByteArray) (w : World) :
    Calls Try.prog 68 #[d.v, .string x] w fun e w' => e = .returned (.int .i64 (cmpS d.nm x)) ∧ Below w.heap.size w w' := by
  have hbA := (Below.refl w.heap.size w).alloc (Nat.le_refl _) (.cells #[.string d.nm, .int .i64 d.ver, .string d.nt] 58)
  go_enter Try.func68, Try.ntmps68
  go_wp2_with (go_at_call 69; refine (Try.strings_Compare _ _ _).mono ?_; rintro e w' ⟨rfl, rfl⟩)
  go_ret
  exact ⟨rfl, hbA⟩
set_option maxRecDepth 20000 in
set_option maxHeartbeats 4000000 in
theorem bs_doms (v : Value) (l : Dms) (x : ByteArray) (w : World) (hv : DomsOf w v l) (hr : Rise (nms l)) (hn : l.length ≤ 1048576) :
    Calls Try.prog 67 #[v, .string x, .func (.func 68) #[] #[]] w fun e w' => e = .returned (.tuple #[.int .i64 ((pl l x : Nat) : Int), .bool (fd l x)]) ∧ Below w.heap.size w w' := by
  obtain ⟨a, cap, rfl, hrow⟩ := hv
  have HR := hide hrow
  have HI := hide hr
  have hple := pl_le l x
  clear hrow hr
  obtain ⟨P, hP⟩ : ∃ P, pl l x = P := ⟨_, rfl⟩
  have HP := hide hP
  rw [hP] at hple ⊢
  obtain ⟨fb, hfb⟩ : ∃ fb, fd l x = fb := ⟨_, rfl⟩
  have HFB := hide hfb
  rw [hfb]
  clear hP hfb
  go_enter Try.func67, Try.ntmps67
  go_wp2
  go_loopw [9, 10] (fun i j wr => ∃ lo hi : Nat, i = .int .i64 lo ∧ j = .int .i64 hi ∧ lo ≤ P ∧ P ≤ hi ∧ hi ≤ l.length ∧ Below w.heap.size w wr) (fun i j _ => (intOf j).toNat - (intOf i).toNat)
  case atStart => exact ⟨0, l.length, rfl, rfl, Nat.zero_le _, hple, Nat.le_refl _, Below.refl _ _⟩
  case round =>
    obtain ⟨lo, hi, rfl, rfl, hlo, hhi, hin, hbw⟩ := hrel
    by_cases hlt : lo < hi
    · obtain ⟨b, off, rfl, hb, hrow⟩ := HR.out (by omega)
      obtain ⟨m, hm⟩ : ∃ m, (lo + hi) / 2 = m := ⟨_, rfl⟩
      have hm2 : ((lo : Int) + (hi : Int)) / 2 = (m : Int) := by omega
      have hm0 : m < l.length := by omega
      have hm1 : lo ≤ m := by omega
      have hm3 : m < hi := by omega
      obtain ⟨y, hy⟩ : ∃ y, l[m]? = some y := ⟨l[m], List.getElem?_eq_getElem hm0⟩
      obtain ⟨c0, c1, c2⟩ := (hrow m y hy).below hbw hb
      have hi0 : (0 : Int) ≤ (m : Int) := by omega
      have hi1 : (m : Int) < (l.length : Int) := by omega
      have HA := hide (fun W => at_name y x W)
      have HK := hide (show (cmpS y.nm x < 0 → m + 1 ≤ P) ∧ (¬ cmpS y.nm x < 0 → P ≤ m) from by
        have hk := HP.out
        unfold pl at hk
        constructor
        · intro h
          rw [cmpS_lt] at h
          rcases Nat.lt_or_ge m P with c | c
          · exact c
          · have := ps_ge HI.out (i := m) (by rw [hk]; exact c) (nms_at hy)
            rw [this] at h; cases h
        · intro h
          rcases Nat.lt_or_ge m P with c | c
          · have := ps_lt (nms l) x m _ (by rw [hk]; exact c) (nms_at hy)
            exact absurd ((cmpS_lt _ _).2 this) h
          · exact c)
      clear hrow HR hy hm HI HP HFB
      generalize cmpS y.nm x = r at *
      by_cases hr : r < 0
      · have h1 := HK.out.1 hr
        clear HK
        go_wp2_with fail
        refine (HA.out _).mono ?_
        rintro e w2 ⟨rfl, hb2⟩
        have hbw2 := hbw.trans (hb2.mono hbw.size)
        clear hb2 HA c0 c1 c2
        go_wp2
        go_roundw
        case rel => exact ⟨m + 1, hi, by go_num, rfl, h1, hhi, hin, hbw2⟩
        case measure => simp [intOf]; omega
      · have h1 := HK.out.2 hr
        clear HK
        go_wp2_with fail
        refine (HA.out _).mono ?_
        rintro e w2 ⟨rfl, hb2⟩
        have hbw2 := hbw.trans (hb2.mono hbw.size)
        clear hb2 HA c0 c1 c2
        go_wp2
        go_roundw
        case rel => exact ⟨lo, m, rfl, by go_num, hlo, h1, by omega, hbw2⟩
        case measure => simp [intOf]; omega
    · obtain rfl : lo = P := by omega
      obtain rfl : lo = hi := by omega
      by_cases hn2 : lo < l.length
      · obtain ⟨b, off, rfl, hb, hrow⟩ := HR.out (by omega)
        obtain ⟨y, hy⟩ : ∃ y, l[lo]? = some y := ⟨l[lo], List.getElem?_eq_getElem hn2⟩
        obtain ⟨c0, c1, c2⟩ := (hrow lo y hy).below hbw hb
        have hi0 : (0 : Int) ≤ (lo : Int) := by omega
        have hi1 : (lo : Int) < (l.length : Int) := by omega
        have HA := hide (fun W => at_name y x W)
        have HK := hide (show fb = (cmpS y.nm x == 0) from by
          rw [← HFB.out, Bool.eq_iff_iff, fd_iff, HP.out, hy, beq_iff_eq, cmpS_eq]
          simp)
        clear hrow HR hy HI HP HFB
        generalize cmpS y.nm x = r at *
        have hz : decide (lo < l.length) = true := decide_eq_true hn2
        go_wp2_with fail
        refine (HA.out _).mono ?_
        rintro e w2 ⟨rfl, hb2⟩
        have hbw2 := hbw.trans (hb2.mono hbw.size)
        clear hb2 HA c0 c1 c2
        go_wp2
        go_ret2
        exact ⟨by rw [HK.out]; rfl, hbw2⟩
      · have HK := hide (show fb = false from by
          rw [← HFB.out, ← Bool.not_eq_true, fd_iff, HP.out, List.getElem?_eq_none (by omega)]
          simp)
        have hz : decide (lo < l.length) = false := decide_eq_false hn2
        clear HR HI HP HFB
        go_wp2
        go_ret2
        exact ⟨by rw [HK.out]; rfl, hbw⟩
theorem place_of (v : Value) (l : Dms) (x : ByteArray) (w : World) (hv : DomsOf w v l) (hr : Rise (nms l)) (hn : l.length ≤ 1048576) :
    Calls Try.prog 61 #[v, .string x] w fun e w' => e = .returned (.tuple #[.int .i64 ((pl l x : Nat) : Int), .bool (fd l x)]) ∧ Below w.heap.size w w' := by
  have HV := hide (fun W (h : Below w.heap.size w W) => bs_doms v l x W (hv.below h) hr hn)
  obtain ⟨a, cap, rfl⟩ := hv.form
  clear hv hr
  generalize pl l x = P at *
  generalize fd l x = fb at *
  go_enter Try.func61, Try.ntmps61
  go_wp2_with fail
  refine (HV.out _ (Below.refl _ _)).mono ?_
  rintro e w2 ⟨rfl, hb2⟩
  go_wp2
  go_ret2
  exact ⟨rfl, hb2⟩
end Go.Proofs.Ytgccoognklolbaa

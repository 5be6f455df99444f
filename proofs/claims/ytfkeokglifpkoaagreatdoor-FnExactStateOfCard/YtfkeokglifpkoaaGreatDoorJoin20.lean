/-
  Texts that follow one another, joined: BrC, BrD, BrF.
-/
import Derived.Test.YtfkeokglifpkoaaGreatDoorJoin8
import Derived.Test.YtfkeokglifpkoaaGreatDoorJoin19
import Derived.Test.YtfkeokglifpkoaaGreatDoorJoin11
import Derived.Deep.RegionHeld
import Derived.Deep.RegionHeld3
import Derived.Laws.StructEq
/-
  The order of histories in both texts, how much two have in common, and which are histories that may be told. Condition of the program's: the table knownKinds reads as its text lays it.
-/
namespace Go.Proofs.YtfkeokglifpkoaaGreatDoor
open Go.RowKit M
open Go.Sort (grow)
namespace M
theorem cb_three : ∀ x y : List UInt8, Lib.compareBytes x y = (if Op.bytesLess x y = true then -1 else if Op.bytesLess y x = true then 1 else 0)
  | [], [] => by simp [Lib.compareBytes, Op.bytesLess]
  | [], _ :: _ => by simp [Lib.compareBytes, Op.bytesLess]
  | _ :: _, [] => by simp [Lib.compareBytes, Op.bytesLess]
  | a :: x, b :: y => by
    have ih := cb_three x y
    simp only [Lib.compareBytes, Op.bytesLess, Bool.or_eq_true, Bool.and_eq_true, decide_eq_true_eq, beq_iff_eq]
    rcases (show a < b ∨ a = b ∨ b < a by rcases a with ⟨⟨a⟩⟩; rcases b with ⟨⟨b⟩⟩; simp [UInt8.lt_iff_toNat_lt, ← UInt8.toNat_inj]; omega) with k | k | k
    · rw [if_pos k, if_pos (.inl k)]
    · subst k
      have hi : ¬ a < a := UInt8.lt_irrefl a
      rw [if_neg hi, if_neg hi, ih]; simp [hi]
    · have h1 : ¬ a < b := fun h => UInt8.lt_asymm h k
      have h2 : a ≠ b := fun h => UInt8.lt_irrefl b (by rw [h] at k; exact k)
      rw [if_neg h1, if_pos k, if_neg (by simp [h1, h2]), if_pos (.inl k)]
def cmpN (a b : ByteArray) : Int := Lib.compareBytes a.data.toList b.data.toList
theorem cmpN_is (a b : ByteArray) : cmpN a b = (if ltS a b = true then -1 else if ltS b a = true then 1 else 0) := by
  unfold cmpN ltS; rw [cb_three, toL, toL]
def orI (x y z : Int) : Int := if x = 0 then (if y = 0 then z else y) else x
theorem cE_or (a b : Ev) : orI (cmpI a.ver b.ver) (cmpI a.kind b.kind) (cmpN a.name b.name) = cE a b := by
  unfold orI cE cmpI
  rw [cmpN_is]
  rcases (show a.ver < b.ver ∨ a.ver = b.ver ∨ b.ver < a.ver by omega) with h | h | h
  · simp [h]
  · have n1 : ¬ a.ver < b.ver := by omega
    have n2 : ¬ b.ver < a.ver := by omega
    rcases (show a.kind < b.kind ∨ a.kind = b.kind ∨ b.kind < a.kind by omega) with k | k | k
    · simp only [n1, n2, k, if_true, if_false]; rfl
    · have m1 : ¬ a.kind < b.kind := by omega
      have m2 : ¬ b.kind < a.kind := by omega
      simp only [n1, n2, m1, m2, if_true, if_false]
    · have m1 : ¬ a.kind < b.kind := by omega
      simp only [n1, n2, m1, k, if_true, if_false]; rfl
  · have n1 : ¬ a.ver < b.ver := by omega
    simp only [n1, h, if_true, if_false]; rfl
theorem three_new (X : World) (a b c : Value) (t : TypeId) : (X.alloc (.cells #[a, b, c] t)).cell? ⟨X.heap.size, 0, none⟩ = some a ∧ (X.alloc (.cells #[a, b, c] t)).cell? ⟨X.heap.size, 1, none⟩ = some b ∧ (X.alloc (.cells #[a, b, c] t)).cell? ⟨X.heap.size, 2, none⟩ = some c := ⟨by simp, by simp, by simp⟩
theorem four_new (X : World) (a b c d : Value) (t : TypeId) : (X.alloc (.cells #[a, b, c, d] t)).cell? ⟨X.heap.size, 0, none⟩ = some a ∧ (X.alloc (.cells #[a, b, c, d] t)).cell? ⟨X.heap.size, 1, none⟩ = some b ∧ (X.alloc (.cells #[a, b, c, d] t)).cell? ⟨X.heap.size, 2, none⟩ = some c ∧ (X.alloc (.cells #[a, b, c, d] t)).cell? ⟨X.heap.size, 3, none⟩ = some d := ⟨by simp, by simp, by simp, by simp⟩
end M
set_option maxHeartbeats 1000000 in
theorem cmp_or3 (b : Nat) (x y z : Int) (W : World) (c0 : W.cell? ⟨b, 0, none⟩ = some (.int .i64 x)) (c1 : W.cell? ⟨b, 1, none⟩ = some (.int .i64 y)) (c2 : W.cell? ⟨b, 2, none⟩ = some (.int .i64 z)) :
    Calls Tryz.prog 237 #[.slice (some ⟨b, 0, none⟩) 3 3] W fun e w' => e = .returned (.int .i64 (orI x y z)) ∧ w' = W := by
  by_cases hx : x = 0
  · by_cases hy : y = 0
    · by_cases hz : z = 0
      · subst hx; subst hy; subst hz
        go_enter Tryz.func237, Tryz.ntmps237
        go_wp2
        refine wp_loop_rounds 4 ?_
        rw [rounds_succ]
        go_wp2
        rw [rounds_succ]
        go_wp2
        rw [rounds_succ]
        go_wp2
        rw [rounds_succ]
        go_wp2
        go_ret
        exact ⟨rfl, rfl⟩
      · subst hx; subst hy
        have hz' : (z != 0) = true := by simpa using hz
        have HZ := hide (show orI 0 0 z = z from rfl)
        go_enter Tryz.func237, Tryz.ntmps237
        go_wp2
        refine wp_loop_rounds 4 ?_
        rw [rounds_succ]
        go_wp2
        rw [rounds_succ]
        go_wp2
        rw [rounds_succ]
        go_wp2
        go_ret
        exact ⟨ret_int (by rw [HZ.out]), rfl⟩
    · subst hx
      have hy' : (y != 0) = true := by simpa using hy
      have HZ := hide (show orI 0 y z = y by unfold orI; rw [if_pos rfl, if_neg hy])
      go_enter Tryz.func237, Tryz.ntmps237
      go_wp2
      refine wp_loop_rounds 4 ?_
      rw [rounds_succ]
      go_wp2
      rw [rounds_succ]
      go_wp2
      go_ret
      exact ⟨ret_int (by rw [HZ.out]), rfl⟩
  · have hx' : (x != 0) = true := by simpa using hx
    have HZ := hide (show orI x y z = x by unfold orI; rw [if_neg hx])
    go_enter Tryz.func237, Tryz.ntmps237
    go_wp2
    refine wp_loop_rounds 4 ?_
    rw [rounds_succ]
    go_wp2
    go_ret
    exact ⟨ret_int (by rw [HZ.out]), rfl⟩
theorem by_verX (a b : Ev) (w : World) : Calls Tryz.prog 171 #[a.v, b.v] w fun e w' => e = .returned (.int .i64 (cmpI a.ver b.ver)) ∧ w' = (w.alloc (.cells (evarr a) 74)).alloc (.cells (evarr b) 74) := by
  show Calls Tryz.prog 171 #[ev a.id a.ver a.kind a.name, ev b.id b.ver b.kind b.name] w _
  go_enter Tryz.func171, Tryz.ntmps171
  go_wp2_with (go_at_call 197; refine (cmp_int _ _ _).mono ?_; rintro e w' ⟨rfl, rfl⟩)
  go_ret
  exact ⟨rfl, rfl⟩
set_option maxRecDepth 20000 in
set_option maxHeartbeats 4000000 in
theorem by_told (a b : Ev) (w : World) :
    Calls Tryz.prog 236 #[a.v, b.v] w fun e w' => e = .returned (.int .i64 (cE a b)) ∧ Below w.heap.size w w' := by
  rw [← cE_or]
  have hv0 := fun W' => by_verX a b W'
  have h1 := fun W' => cmp_int a.kind b.kind W'
  have h2 := fun W' => Tryz.strings_Compare a.name b.name W'
  have he : cmpN a.name b.name = Lib.compareBytes a.name.data.toList b.name.data.toList := rfl
  rw [he]
  clear he
  generalize cmpI a.ver b.ver = r1 at *
  generalize cmpI a.kind b.kind = r2 at *
  generalize Lib.compareBytes a.name.data.toList b.name.data.toList = r3 at *
  obtain ⟨r4, hr4⟩ : ∃ r4, orI r1 r2 r3 = r4 := ⟨_, rfl⟩
  have HO := hide (fun X : World => cmp_or3 X.heap.size r1 r2 r3 _ (three_new X (.int .i64 r1) (.int .i64 r2) (.int .i64 r3) 3).1 (three_new X (.int .i64 r1) (.int .i64 r2) (.int .i64 r3) 3).2.1 (three_new X (.int .i64 r1) (.int .i64 r2) (.int .i64 r3) 3).2.2)
  rw [hr4] at HO
  rw [hr4]
  clear hr4
  have H1 := hide h1
  have H2 := hide h2
  clear h1 h2
  obtain ⟨W2, hW2⟩ : ∃ W2, (w.alloc (.cells (evarr a) 74)).alloc (.cells (evarr b) 74) = W2 := ⟨_, rfl⟩
  obtain ⟨p, hp⟩ : ∃ p, w.heap.size = p := ⟨_, rfl⟩
  have hlow : Below w.heap.size w W2 := by rw [← hW2]; exact ((Below.refl _ w).alloc (Nat.le_refl _) _).alloc (by simp) _
  have hX : W2.cell? ⟨p, 0, none⟩ = some (.int .i64 a.id) ∧ W2.cell? ⟨p, 1, none⟩ = some (.int .i64 a.ver) ∧ W2.cell? ⟨p, 2, none⟩ = some (.int .i64 a.kind) ∧ W2.cell? ⟨p, 3, none⟩ = some (.string a.name) := by
    rw [← hW2, ← hp]
    obtain ⟨e0, e1, e2, e3⟩ := four_new w (.int .i64 a.id) (.int .i64 a.ver) (.int .i64 a.kind) (.string a.name) 74
    have hb := (Below.refl (w.alloc (.cells (evarr a) 74)).heap.size (w.alloc (.cells (evarr a) 74))).alloc (Nat.le_refl _) (.cells (evarr b) 74)
    exact ⟨(hb.cell (p := ⟨w.heap.size, 0, none⟩) (by simp)).trans e0, (hb.cell (p := ⟨w.heap.size, 1, none⟩) (by simp)).trans e1, (hb.cell (p := ⟨w.heap.size, 2, none⟩) (by simp)).trans e2, (hb.cell (p := ⟨w.heap.size, 3, none⟩) (by simp)).trans e3⟩
  have hY : W2.cell? ⟨p + 1, 0, none⟩ = some (.int .i64 b.id) ∧ W2.cell? ⟨p + 1, 1, none⟩ = some (.int .i64 b.ver) ∧ W2.cell? ⟨p + 1, 2, none⟩ = some (.int .i64 b.kind) ∧ W2.cell? ⟨p + 1, 3, none⟩ = some (.string b.name) := by
    have := four_new (w.alloc (.cells (evarr a) 74)) (.int .i64 b.id) (.int .i64 b.ver) (.int .i64 b.kind) (.string b.name) 74
    rw [World.size_alloc, hp] at this
    rw [← hW2]
    exact this
  have hsz : p + 1 < W2.heap.size := by rw [← hW2, World.size_alloc, World.size_alloc, hp]; omega
  have hS : ∀ W, Below W2.heap.size W2 W → (W.cell? ⟨p, 0, none⟩ = some (.int .i64 a.id) ∧ W.cell? ⟨p, 1, none⟩ = some (.int .i64 a.ver) ∧ W.cell? ⟨p, 2, none⟩ = some (.int .i64 a.kind) ∧ W.cell? ⟨p, 3, none⟩ = some (.string a.name)) ∧ W.cell? ⟨p + 1, 0, none⟩ = some (.int .i64 b.id) ∧ W.cell? ⟨p + 1, 1, none⟩ = some (.int .i64 b.ver) ∧ W.cell? ⟨p + 1, 2, none⟩ = some (.int .i64 b.kind) ∧ W.cell? ⟨p + 1, 3, none⟩ = some (.string b.name) := fun W hb =>
    ⟨⟨(hb.cell (p := ⟨p, 0, none⟩) (show p < _ by omega)).trans hX.1, (hb.cell (p := ⟨p, 1, none⟩) (show p < _ by omega)).trans hX.2.1, (hb.cell (p := ⟨p, 2, none⟩) (show p < _ by omega)).trans hX.2.2.1, (hb.cell (p := ⟨p, 3, none⟩) (show p < _ by omega)).trans hX.2.2.2⟩, (hb.cell (p := ⟨p + 1, 0, none⟩) hsz).trans hY.1, (hb.cell (p := ⟨p + 1, 1, none⟩) hsz).trans hY.2.1, (hb.cell (p := ⟨p + 1, 2, none⟩) hsz).trans hY.2.2.1, (hb.cell (p := ⟨p + 1, 3, none⟩) hsz).trans hY.2.2.2⟩
  obtain ⟨W3, hW3⟩ : ∃ W3, (W2.drew.alloc (.cells (evarr a) 74)).alloc (.cells (evarr b) 74) = W3 := ⟨_, rfl⟩
  have hb3 : Below W2.heap.size W2 W3 := by rw [← hW3]; exact ((Below.refl W2.heap.size W2).drew.alloc (Nat.le_refl _) _).alloc (by simp) _
  have HV0 := hide (show Calls Tryz.prog 171 #[.agg #[.int .i64 a.id, .int .i64 a.ver, .int .i64 a.kind, .string a.name], .agg #[.int .i64 b.id, .int .i64 b.ver, .int .i64 b.kind, .string b.name]] W2.drew fun e w' => e = .returned (.int .i64 r1) ∧ w' = W3 from by rw [← hW3]; exact hv0 W2.drew)
  have HS2 := hide (hS W2.drew (Below.refl W2.heap.size W2).drew)
  have HS3 := hide (hS W3 hb3)
  have HSa := hide (fun o => hS (W3.alloc o) (hb3.trans ((Below.refl W3.heap.size W3).alloc (Nat.le_refl _) o |>.mono hb3.size)))
  have HLOW := hide (fun o => hlow.trans ((hb3.trans ((Below.refl W3.heap.size W3).alloc (Nat.le_refl _) o |>.mono hb3.size)).mono hlow.size))
  have HO2 := hide (HO.out W3)
  have HW := hide hW2
  have HP := hide hp
  clear HO hW2 hp hX hY hlow hS hv0 hW3 hb3 hsz
  show Calls Tryz.prog 236 #[ev a.id a.ver a.kind a.name, ev b.id b.ver b.kind b.name] w _
  go_enter Tryz.func236, Tryz.ntmps236
  go_wp2_with fail
  rw [HW.out, HP.out]
  clear HW HP
  go_region_held (fun w' => (w'.cell? ⟨p, 0, none⟩ = some (.int .i64 a.id) ∧ w'.cell? ⟨p, 1, none⟩ = some (.int .i64 a.ver) ∧ w'.cell? ⟨p, 2, none⟩ = some (.int .i64 a.kind) ∧ w'.cell? ⟨p, 3, none⟩ = some (.string a.name)) ∧ w'.cell? ⟨p + 1, 0, none⟩ = some (.int .i64 b.id) ∧ w'.cell? ⟨p + 1, 1, none⟩ = some (.int .i64 b.ver) ∧ w'.cell? ⟨p + 1, 2, none⟩ = some (.int .i64 b.kind) ∧ w'.cell? ⟨p + 1, 3, none⟩ = some (.string b.name)) (first | exact HS2.out | exact HS3.out | exact HSa.out _) (first
    | (go_at_call 171; refine HV0.out.mono ?_; rintro e w' ⟨rfl, rfl⟩)
    | (go_at_call 197; refine (H1.out _).mono ?_; rintro e w' ⟨rfl, rfl⟩)
    | (go_at_call 238; refine (H2.out _).mono ?_; rintro e w' ⟨rfl, rfl⟩)
    | (go_at_call 237; refine HO2.out.mono ?_; rintro e w' ⟨rfl, rfl⟩))
  all_goals
    go_wp2
    go_ret
    exact ⟨rfl, HLOW.out _⟩
end Go.Proofs.YtfkeokglifpkoaaGreatDoor

/-
  Histories compared in both texts: CompareFunc under the program's comparison, l15Compare; how much two have in common; which may be told.
-/
namespace Go.Proofs.YtfkeokglifpkoaaGreatDoor
open Go.RowKit M
open Go.Sort (grow)
set_option maxRecDepth 20000 in
set_option maxHeartbeats 4000000 in
theorem cmp_func (v u : Value) (a b : Evs) (w : World) (hv : SliceOf w v a) (hu : SliceOf w u b) (ha : a.length ≤ 1048576) (hb : b.length ≤ 1048576) :
    Calls Tryz.prog 235 #[v, u, .func (.func 236) #[] #[]] w fun e w' => e = .returned (.int .i64 (cL a b)) ∧ Below w.heap.size w w' := by
  obtain ⟨a1, cap1, rfl, hr1⟩ := hv
  obtain ⟨a2, cap2, rfl, hr2⟩ := hu
  have H1 := hide hr1
  have H2 := hide hr2
  clear hr1 hr2
  go_enter Tryz.func235, Tryz.ntmps235
  go_wp2
  go_loopw [13] (fun i wr => ∃ k : Nat, i = .int .i64 k ∧ k ≤ a.length ∧ Hid (Al a b k) ∧ Below w.heap.size w wr) (fun i _ => a.length - (intOf i).toNat)
  case atStart => exact ⟨0, rfl, Nat.zero_le _, hide (Al.zero a b), Below.refl _ _⟩
  case round =>
    obtain ⟨k, rfl, hk, HA, hbw⟩ := hrel
    by_cases hlt : k < a.length
    · obtain ⟨x, hx⟩ : ∃ x, a[k]? = some x := ⟨a[k], List.getElem?_eq_getElem hlt⟩
      obtain ⟨b1, o1, rfl, hl1, hrow1⟩ := H1.out (by intro h; subst h; simp at hlt)
      obtain ⟨c0, c1, c2, c3⟩ := (hrow1 k x hx).below hbw hl1
      have hl1' := Nat.lt_of_lt_of_le hl1 hbw.size
      by_cases hlt2 : k < b.length
      · have hge : ¬ ((k : Int) ≥ (b.length : Int)) := by omega
        obtain ⟨y, hy⟩ : ∃ y, b[k]? = some y := ⟨b[k], List.getElem?_eq_getElem hlt2⟩
        obtain ⟨b2, o2, rfl, hl2, hrow2⟩ := H2.out (by intro h; subst h; simp at hlt2)
        obtain ⟨d0, d1, d2, d3⟩ := (hrow2 k y hy).below hbw hl2
        have hl2' := Nat.lt_of_lt_of_le hl2 hbw.size
        have HX := hide hx
        have HY := hide hy
        have hal := ((Below.refl wr.heap.size wr).alloc (Nat.le_refl _) (.cells (evarr x) 74)).alloc (by simp) (.cells (evarr y) 74)
        clear hrow1 hrow2 H1 H2 hx hy
        by_cases hz : cE x y = 0
        · have HN := hide (HA.out.succ HX.out HY.out hz)
          have hz' : (cE x y != 0) = false := by simp [hz]
          clear hz
          go_wp2_with fail
          refine (by_told x y _).mono ?_
          rintro e w2 ⟨rfl, hb2⟩
          have hbw2 := hbw.trans ((hal.trans (hb2.mono hal.size)).mono hbw.size)
          clear hb2 c0 c1 c2 c3 d0 d1 d2 d3 hal HA
          go_wp2
          go_roundw
          case rel => exact ⟨k + 1, by go_num, by omega, HN, hbw2⟩
          case measure => simp [intOf]; omega
        · have HN := hide (HA.out.parts HX.out HY.out hz).1
          have hz' : (cE x y != 0) = true := by simp [hz]
          clear hz
          go_wp2_with fail
          refine (by_told x y _).mono ?_
          rintro e w2 ⟨rfl, hb2⟩
          have hbw2 := hbw.trans ((hal.trans (hb2.mono hal.size)).mono hbw.size)
          clear hb2 c0 c1 c2 c3 d0 d1 d2 d3 hal HA
          go_wp2
          go_ret
          exact ⟨ret_int HN.out.symm, hbw2⟩
      · have hge : ((k : Int) ≥ (b.length : Int)) := by omega
        have hke : k = b.length := by have := HA.out.2.1; omega
        have HN := hide (show cL a b = 1 from (Al.endR (by rw [← hke]; exact HA.out) (by omega)).1)
        have hal := (Below.refl wr.heap.size wr).alloc (Nat.le_refl _) (.cells (evarr x) 74)
        have hbw2 := hbw.trans (hal.mono hbw.size)
        clear hrow1 H1 H2 hx hal HA hke
        go_wp2
        go_ret
        exact ⟨ret_int HN.out.symm, hbw2⟩
    · have hke : k = a.length := by omega
      subst hke
      clear H1 H2
      by_cases hl : a.length < b.length
      · have HN := hide (HA.out.endL hl).1
        have hl' : (a.length : Int) < (b.length : Int) := by omega
        clear HA
        go_wp2
        go_ret
        exact ⟨ret_int HN.out.symm, hbw⟩
      · have HN := hide (HA.out.endB (by have := HA.out.2.1; omega)).1
        have hl' : ¬ (a.length : Int) < (b.length : Int) := by omega
        clear HA
        go_wp2
        go_ret
        exact ⟨ret_int HN.out.symm, hbw⟩
set_option maxHeartbeats 2000000 in
theorem spec_ev (x y : Ev) (w : World) :
    Calls Tryz.prog 175 #[.agg #[.int .i64 x.id, .int .i64 x.ver, .int .i64 x.kind, .string x.name], .agg #[.int .i64 y.id, .int .i64 y.ver, .int .i64 y.kind, .string y.name]] w fun e w' => e = .returned (.int .i64 (cE x y)) ∧ Below w.heap.size w w' := by
  have hal := ((Below.refl w.heap.size w).alloc (Nat.le_refl _) (.cells (evarr x) 74)).alloc (by simp) (.cells (evarr y) 74)
  rcases (show x.ver < y.ver ∨ x.ver = y.ver ∨ y.ver < x.ver by omega) with h | h | h
  · have h1 : (x.ver != y.ver) = true := by simp; omega
    have HZ := hide (show cE x y = -1 from cE_neg (.inl h))
    go_enter Tryz.func175, Tryz.ntmps175
    go_wp2
    go_ret
    exact ⟨ret_int HZ.out.symm, hal⟩
  · have h1 : (x.ver != y.ver) = false := by simp; omega
    rcases (show x.kind < y.kind ∨ x.kind = y.kind ∨ y.kind < x.kind by omega) with k | k | k
    · have h2 : (x.kind != y.kind) = true := by simp; omega
      have HZ := hide (show cE x y = -1 from cE_neg (.inr ⟨h, .inl k⟩))
      clear h
      go_enter Tryz.func175, Tryz.ntmps175
      go_wp2
      go_ret
      exact ⟨ret_int HZ.out.symm, hal⟩
    · have h2 : (x.kind != y.kind) = false := by simp; omega
      rcases lt_tri x.name y.name with n | n | n
      · have h3 : Op.bytesLess x.name.toList y.name.toList = true := n
        have HZ := hide (show cE x y = -1 from cE_neg (.inr ⟨h, .inr ⟨k, n⟩⟩))
        clear h k n
        go_enter Tryz.func175, Tryz.ntmps175
        go_wp2
        go_ret
        exact ⟨ret_int HZ.out.symm, hal⟩
      · have h3 : Op.bytesLess x.name.toList y.name.toList = false := by rw [n]; exact lt_irr _
        have h4 : Op.bytesLess y.name.toList x.name.toList = false := by rw [n]; exact lt_irr _
        have h5 : (x.name.toList == y.name.toList) = true := by rw [n]; simp
        have HZ := hide (show cE x y = 0 from cE_same h k n)
        clear h k n
        go_enter Tryz.func175, Tryz.ntmps175
        go_wp2
        go_ret
        exact ⟨ret_int HZ.out.symm, hal⟩
      · have h3 : Op.bytesLess x.name.toList y.name.toList = false := lt_asym n
        have h4 : Op.bytesLess y.name.toList x.name.toList = true := n
        have h5 : (x.name.toList == y.name.toList) = false := by rw [eqS]; exact decide_eq_false (fun e => by rw [e, lt_irr] at n; cases n)
        have HZ := hide (show cE x y = 1 from cE_pos (.inr ⟨h.symm, .inr ⟨k.symm, n⟩⟩))
        clear h k n
        go_enter Tryz.func175, Tryz.ntmps175
        go_wp2
        go_ret
        exact ⟨ret_int HZ.out.symm, hal⟩
    · have h2 : (x.kind != y.kind) = true := by simp; omega
      have h3 : ¬ x.kind < y.kind := by omega
      have HZ := hide (show cE x y = 1 from cE_pos (.inr ⟨h.symm, .inl k⟩))
      clear h
      go_enter Tryz.func175, Tryz.ntmps175
      go_wp2
      go_ret
      exact ⟨ret_int HZ.out.symm, hal⟩
  · have h1 : (x.ver != y.ver) = true := by simp; omega
    have h2 : ¬ x.ver < y.ver := by omega
    have HZ := hide (show cE x y = 1 from cE_pos (.inl h))
    go_enter Tryz.func175, Tryz.ntmps175
    go_wp2
    go_ret
    exact ⟨ret_int HZ.out.symm, hal⟩
set_option maxRecDepth 20000 in
set_option maxHeartbeats 4000000 in
theorem spec_cmp (v u : Value) (a b : Evs) (w : World) (hv : SliceOf w v a) (hu : SliceOf w u b) (ha : a.length ≤ 1048576) (hb : b.length ≤ 1048576) :
    Calls Tryz.prog 143 #[v, u] w fun e w' => e = .returned (.tuple #[.int .i64 (cL a b), .int .i64 ((com a b : Nat) : Int)]) ∧ Below w.heap.size w w' := by
  obtain ⟨a1, cap1, rfl, hr1⟩ := hv
  obtain ⟨a2, cap2, rfl, hr2⟩ := hu
  have H1 := hide hr1
  have H2 := hide hr2
  clear hr1 hr2
  go_enter Tryz.func143, Tryz.ntmps143
  go_wp2
  go_loopw [6] (fun i wr => ∃ k : Nat, i = .int .i64 k ∧ k ≤ a.length ∧ Hid (Al a b k) ∧ Below w.heap.size w wr) (fun i _ => a.length - (intOf i).toNat)
  case atStart => exact ⟨0, rfl, Nat.zero_le _, hide (Al.zero a b), Below.refl _ _⟩
  case round =>
    obtain ⟨k, rfl, hk, HA, hbw⟩ := hrel
    by_cases hlt : k < a.length
    · by_cases hlt2 : k < b.length
      · obtain ⟨x, hx⟩ : ∃ x, a[k]? = some x := ⟨a[k], List.getElem?_eq_getElem hlt⟩
        obtain ⟨b1, o1, rfl, hl1, hrow1⟩ := H1.out (by intro h; subst h; simp at hlt)
        obtain ⟨c0, c1, c2, c3⟩ := (hrow1 k x hx).below hbw hl1
        obtain ⟨y, hy⟩ : ∃ y, b[k]? = some y := ⟨b[k], List.getElem?_eq_getElem hlt2⟩
        obtain ⟨b2, o2, rfl, hl2, hrow2⟩ := H2.out (by intro h; subst h; simp at hlt2)
        obtain ⟨d0, d1, d2, d3⟩ := (hrow2 k y hy).below hbw hl2
        have HX := hide hx
        have HY := hide hy
        have k0 := cell_regrown c0
        have k1 := cell_regrown c1
        have k2 := cell_regrown c2
        have k3 := cell_regrown c3
        have m0 := cell_regrown d0
        have m1 := cell_regrown d1
        have m2 := cell_regrown d2
        have m3 := cell_regrown d3
        have hi0 : (0 : Int) ≤ (k : Int) := by omega
        have hi1 : (k : Int) < (a.length : Int) := by omega
        have hi2 : (k : Int) < (b.length : Int) := by omega
        have HE := hide (show ∀ dd os, Calls Tryz.prog 175 #[.agg #[.int .i64 x.id, .int .i64 x.ver, .int .i64 x.kind, .string x.name], .agg #[.int .i64 y.id, .int .i64 y.ver, .int .i64 y.kind, .string y.name]] (grow (redrawn wr dd) os) fun e' w'' => e' = .returned (.int .i64 (cE x y)) ∧ ∃ p : Regrown, w'' = grow (redrawn wr p.d) p.os from fun dd os => Calls.regrown_of (spec_ev x y _))
        clear hrow1 hrow2 H1 H2 hx hy c0 c1 c2 c3 d0 d1 d2 d3
        go_wp2
        refine wp_region_quiet_below (by kernel_rfl) (by kernel_rfl) ?_
        repeat (go_big_quiet_step (exact HE.out _ _))
        refine wpQuiet_nil ?_
        intro _ hw'
        obtain ⟨⟨dq, osq⟩, hw''⟩ := hw'
        subst hw''
        have hbw2 := hbw.trans ((below_regrown wr dq osq).mono hbw.size)
        clear HE k0 k1 k2 k3 m0 m1 m2 m3
        by_cases hz : cE x y = 0
        · have HN := hide (HA.out.succ HX.out HY.out hz)
          have hz' : (cE x y != 0) = false := by simp [hz]
          clear hz HA
          go_wp2
          go_roundw
          case rel => exact ⟨k + 1, by go_num, by omega, HN, hbw2⟩
          case measure => simp [intOf]; omega
        · have HN := hide (HA.out.parts HX.out HY.out hz)
          have hz' : (cE x y != 0) = true := by simp [hz]
          clear hz HA
          go_wp2
          go_ret2
          exact ⟨by rw [HN.out.1, HN.out.2]; rfl, hbw2⟩
      · have hke : k = b.length := by have := HA.out.2.1; omega
        have HN := hide (show cL a b = 1 ∧ com a b = b.length from Al.endR (by rw [← hke]; exact HA.out) (by omega))
        have hg1 : ¬ (a.length : Int) < (b.length : Int) := by omega
        have hg2 : (a.length : Int) > (b.length : Int) := by omega
        clear H1 H2 HA hke
        go_wp2
        go_ret2
        exact ⟨by rw [HN.out.1, HN.out.2]; rfl, hbw⟩
    · have hke : k = a.length := by omega
      subst hke
      clear H1 H2
      by_cases hl : a.length < b.length
      · have HN := hide (HA.out.endL hl)
        have hl' : (a.length : Int) < (b.length : Int) := by omega
        clear HA
        go_wp2
        go_ret2
        exact ⟨by rw [HN.out.1, HN.out.2]; rfl, hbw⟩
      · have HN := hide (HA.out.endB (by have := HA.out.2.1; omega))
        have hl' : ¬ (a.length : Int) < (b.length : Int) := by omega
        have hl2 : ¬ (a.length : Int) > (b.length : Int) := by have := HA.out.2.1; omega
        clear HA
        go_wp2
        go_ret2
        exact ⟨by rw [HN.out.1, HN.out.2]; rfl, hbw⟩
end Go.Proofs.YtfkeokglifpkoaaGreatDoor

/-
  Which histories may be told, and whether one is a beginning of another one, in both texts. Condition of the program's: the table knownKinds reads as its text lays it.
-/
namespace Go.Proofs.YtfkeokglifpkoaaGreatDoor
open Go.RowKit M
open Go.Sort (grow)
namespace M
def eqE (x y : Ev) : Bool := x.id == y.id && (x.ver == y.ver && (x.kind == y.kind && x.name.toList == y.name.toList))
theorem Ev.eqv {x y : Ev} (h1 : x.id = y.id) (h2 : x.ver = y.ver) (h3 : x.kind = y.kind) (h4 : x.name = y.name) : x = y := by cases x; cases y; simp_all
theorem eqE_iff (x y : Ev) : eqE x y = true ↔ x = y := by
  unfold eqE
  rw [eqS]
  simp only [Bool.and_eq_true, decide_eq_true_eq, beq_iff_eq]
  constructor
  · rintro ⟨h1, h2, h3, h4⟩; exact Ev.eqv h1 h2 h3 h4
  · intro h; subst h; exact ⟨rfl, rfl, rfl, rfl⟩
/-- Where Ids are places the same place holds the same event just where they are alike. -/
theorem eqE_cE {a b : Evs} (ha : Pl a) (hb : Pl b) {i : Nat} {x y : Ev} (hx : a[i]? = some x) (hy : b[i]? = some y) : eqE x y = true ↔ cE x y = 0 := by
  rw [eqE_iff]
  constructor
  · intro h; subst h; exact cE_self x
  · intro h
    obtain ⟨h1, h2, h3⟩ := cE_zero h
    exact Ev.eqv (by rw [ha i x hx, hb i y hy]) h1 h2 h3
theorem Tl.pl {es : Evs} (h : Tl es) : Pl es := Hist.pl h.2
theorem Tl.short {es : Evs} (h : Tl es) : es.length ≤ 60 := h.2.1
theorem Tl.pos {es : Evs} (h : Tl es) : 0 < es.length := List.length_pos_iff.2 h.1
theorem tl_nil : ¬ Tl [] := fun h => h.1 rfl
end M
theorem eql_ev (x y : Ev) (w : World) : (binOp .eql 74 (.agg #[.int .i64 x.id, .int .i64 x.ver, .int .i64 x.kind, .string x.name]) (.agg #[.int .i64 y.id, .int .i64 y.ver, .int .i64 y.kind, .string y.name])).run Tryz.prog w = .ok (.bool (eqE x y)) w := by
  have u9 := Tryz.underlying9
  have a9 := Tryz.isAgg9
  have z9 := Tryz.sizeOf9
  have u3 := Tryz.underlying3
  have a3 := Tryz.isAgg3
  have z3 := Tryz.sizeOf3
  have hS : Tryz.prog.underlying 74 = some (.struct (Tryz.prog.fieldsOf 74)) := by kernel_rfl
  have hp : Tryz.prog.stoodInHeld 74 = false := by kernel_rfl
  unfold eqE
  rw [run_eql_struct, show (10000 : Nat) = 9999 + 1 from rfl, run_equalIn_agg w 9999 74 _ _ hS hp]
  simp only [Program.fieldsOf, Tryz.underlying74]
  go_simp
  cases h1 : (x.id == y.id) <;> cases h2 : (x.ver == y.ver) <;> cases h3 : (x.kind == y.kind) <;> cases h4 : (x.name.toList == y.name.toList) <;> simp_all
theorem guard_ev (op : BinOp) (a b : Operand) (x y : Ev) (w : World) : (eqGuard op 74 a b (.agg #[.int .i64 x.id, .int .i64 x.ver, .int .i64 x.kind, .string x.name]) (.agg #[.int .i64 y.id, .int .i64 y.ver, .int .i64 y.kind, .string y.name])).run Tryz.prog w = .ok () w := run_eqGuard_agg w op 74 a b _ _ (by kernel_rfl)
set_option maxHeartbeats 1000000 in
theorem spec_tl (v : Value) (es : Evs) (b : Bool) (w : World) (hv : SliceOf w v es) (hlen : es.length ≤ 1048576) (hnm : ∀ e ∈ es, e.name.size ≤ maxLen) (hb : BP b (Tl es)) :
    Calls Tryz.prog 142 #[v] w fun e w' => e = .returned (.bool b) ∧ Below w.heap.size w w' := by
  have HV := hide hv
  have HNM := hide hnm
  obtain ⟨a, cap, rfl⟩ := hv.form
  clear hnm hv
  by_cases h0 : es = []
  · have HF := hide (hb.no (fun h => h.1 h0))
    subst h0
    clear hb HV HNM hlen
    go_enter Tryz.func142, Tryz.ntmps142
    go_wp2
    go_ret
    exact ⟨ret_bool HF.out.symm, Below.refl _ _⟩
  · have hpos : 0 < es.length := List.length_pos_iff.2 h0
    have hpI : (0 : Int) < (es.length : Int) := by omega
    have hpG : (es.length : Int) > 0 := by omega
    have HB := hide (show BP b (Hist es) from ⟨fun h => (hb.1 h).2, fun h => hb.2 ⟨h0, h⟩⟩)
    clear hb h0
    go_enter Tryz.func142, Tryz.ntmps142
    go_wp2_with fail
    refine (spec_hist _ es b _ HV.out hlen HNM.out HB.out).mono ?_
    rintro e w2 ⟨rfl, hb2⟩
    go_wp2
    go_ret
    exact ⟨rfl, hb2⟩
set_option maxHeartbeats 1000000 in
theorem impl_tl (v : Value) (es : Evs) (b : Bool) (w : World) (hv : SliceOf w v es) (hlen : es.length ≤ 1048576) (hnm : ∀ e ∈ es, e.name.size ≤ maxLen) (hkk : KK w) (hb : BP b (Tl es)) :
    Calls Tryz.prog 90 #[v] w fun e w' => e = .returned (.bool b) ∧ Below w.heap.size w w' := by
  have HV := hide hv
  have HNM := hide hnm
  have HK := hide hkk
  obtain ⟨a, cap, rfl⟩ := hv.form
  clear hnm hv hkk
  by_cases h0 : es = []
  · have HF := hide (hb.no (fun h => h.1 h0))
    subst h0
    clear hb HV HNM hlen
    go_enter Tryz.func90, Tryz.ntmps90
    go_wp2
    go_ret
    exact ⟨ret_bool HF.out.symm, Below.refl _ _⟩
  · have hpos : 0 < es.length := List.length_pos_iff.2 h0
    have hpI : (0 : Int) < (es.length : Int) := by omega
    have hpG : (es.length : Int) > 0 := by omega
    have HB := hide (show BP b (Hist es) from ⟨fun h => (hb.1 h).2, fun h => hb.2 ⟨h0, h⟩⟩)
    clear hb h0
    go_enter Tryz.func90, Tryz.ntmps90
    go_wp2_with fail
    refine (impl_hist _ es b _ HV.out hlen HNM.out HK.out HB.out).mono ?_
    rintro e w2 ⟨rfl, hb2⟩
    go_wp2
    go_ret
    exact ⟨rfl, hb2⟩
set_option maxRecDepth 20000 in
set_option maxHeartbeats 2000000 in
theorem impl_com (v u : Value) (a b : Evs) (w : World) (hv : SliceOf w v a) (hu : SliceOf w u b) (ha : a.length ≤ 1048576) (hb : b.length ≤ 1048576) (pa : Pl a) (pb : Pl b) :
    Calls Tryz.prog 168 #[v, u] w fun e w' => e = .returned (.int .i64 ((com a b : Nat) : Int)) ∧ Below w.heap.size w w' := by
  obtain ⟨a1, cap1, rfl, hr1⟩ := hv
  obtain ⟨a2, cap2, rfl, hr2⟩ := hu
  have H1 := hide hr1
  have H2 := hide hr2
  have HPA := hide pa
  have HPB := hide pb
  obtain ⟨n, hn, hna, hnb, hnd⟩ : ∃ n : Nat, (if b.length < a.length then (b.length : Int) else (a.length : Int)) = (n : Int) ∧ n ≤ a.length ∧ n ≤ b.length ∧ (n = a.length ∨ n = b.length) := by
    by_cases h : b.length < a.length
    · exact ⟨b.length, if_pos h, by omega, Nat.le_refl _, .inr rfl⟩
    · exact ⟨a.length, if_neg h, Nat.le_refl _, by omega, .inl rfl⟩
  have hmn : min (a.length : Int) (b.length : Int) = (n : Int) := by omega
  have HND := hide hnd
  clear hr1 hr2 pa pb hnd
  go_enter Tryz.func168, Tryz.ntmps168
  go_wp2
  go_loopw [5] (fun i wr => ∃ k : Nat, i = .int .i64 k ∧ k ≤ n ∧ Hid (Al a b k) ∧ Below w.heap.size w wr) (fun i _ => n - (intOf i).toNat)
  case atStart => exact ⟨0, rfl, Nat.zero_le _, hide (Al.zero a b), Below.refl _ _⟩
  case round =>
    obtain ⟨k, rfl, hk, HA, hbw⟩ := hrel
    by_cases hlt : k < n
    · obtain ⟨x, hx⟩ : ∃ x, a[k]? = some x := ⟨a[k], List.getElem?_eq_getElem (by omega)⟩
      obtain ⟨b1, o1, rfl, hl1, hrow1⟩ := H1.out (by intro h; subst h; simp at hna; omega)
      obtain ⟨c0, c1, c2, c3⟩ := (hrow1 k x hx).below hbw hl1
      obtain ⟨y, hy⟩ : ∃ y, b[k]? = some y := ⟨b[k], List.getElem?_eq_getElem (by omega)⟩
      obtain ⟨b2, o2, rfl, hl2, hrow2⟩ := H2.out (by intro h; subst h; simp at hnb; omega)
      obtain ⟨d0, d1, d2, d3⟩ := (hrow2 k y hy).below hbw hl2
      have HX := hide hx
      have HY := hide hy
      have hla : k < a.length := by omega
      have hlb : k < b.length := by omega
      have hdd : decide (k < n) = true := decide_eq_true hlt
      have hdI : decide ((k : Int) < (n : Int)) = true := decide_eq_true (by omega)
      have hi0 : (0 : Int) ≤ (k : Int) := by omega
      have hi1 : (k : Int) < (a.length : Int) := by omega
      have hi2 : (k : Int) < (b.length : Int) := by omega
      have hee := fun W => eql_ev x y W
      have hgd := fun op p q W => guard_ev op p q x y W
      have hiff := eqE_cE HPA.out HPB.out hx hy
      clear hrow1 hrow2 H1 H2 hx hy
      cases hz : eqE x y
      · have HN := hide (HA.out.parts HX.out HY.out (fun h => by rw [hiff.2 h] at hz; cases hz)).2
        rw [hz] at hee
        clear hiff hz HA
        go_wp2
        go_big_quiet (fail)
        have hbw2 : Below w.heap.size w (wr.drewN nq) := ⟨hbw.os, hbw.tape, hbw.output, hbw.size, hbw.block⟩
        go_wp2
        go_ret
        exact ⟨ret_int (by rw [HN.out]), hbw2⟩
      · have HN := hide (HA.out.succ HX.out HY.out (hiff.1 hz))
        rw [hz] at hee
        clear hiff hz HA
        go_wp2
        go_big_quiet (fail)
        have hbw2 : Below w.heap.size w (wr.drewN nq) := ⟨hbw.os, hbw.tape, hbw.output, hbw.size, hbw.block⟩
        go_wp2
        go_roundw
        case rel => exact ⟨k + 1, by go_num, by omega, HN, hbw2⟩
        case measure => simp [intOf]; omega
    · have HN := hide (HA.out.short (by have := HND.out; omega))
      have hdd : decide (k < n) = false := decide_eq_false hlt
      have hdI : decide ((k : Int) < (n : Int)) = false := decide_eq_false (by omega)
      clear H1 H2 HA
      go_wp2
      go_big_quiet (fail)
      have hbw2 : Below w.heap.size w (wr.drewN nq) := ⟨hbw.os, hbw.tape, hbw.output, hbw.size, hbw.block⟩
      go_wp2
      go_ret
      exact ⟨ret_int (by rw [HN.out]), hbw2⟩
set_option maxHeartbeats 1000000 in
theorem impl_beg (v u : Value) (a b : Evs) (w : World) (hv : SliceOf w v a) (hu : SliceOf w u b) (ha : a.length ≤ 1048576) (hb : b.length ≤ 1048576) (pa : Pl a) (pb : Pl b) :
    Calls Tryz.prog 134 #[v, u] w fun e w' => e = .returned (.bool (com a b == a.length)) ∧ Below w.heap.size w w' := by
  have HV := hide hv
  have HU := hide hu
  have HA := hide pa
  have HB := hide pb
  obtain ⟨a1, c1, rfl⟩ := hv.form
  obtain ⟨a2, c2, rfl⟩ := hu.form
  have hz : ((com a b : Int) == (a.length : Int)) = (com a b == a.length) := by
    rw [Bool.eq_iff_iff, beq_iff_eq, beq_iff_eq]; omega
  have HZ := hide hz
  clear hv hu pa pb hz
  go_enter Tryz.func134, Tryz.ntmps134
  go_wp2_with fail
  refine (impl_com _ _ a b _ HV.out HU.out ha hb HA.out HB.out).mono ?_
  rintro e w2 ⟨rfl, hb2⟩
  go_wp2
  go_ret
  exact ⟨by first | rfl | exact ret_bool HZ.out, hb2⟩
set_option maxHeartbeats 1000000 in
theorem spec_beg (v u : Value) (l first : Evs) (w : World) (hv : SliceOf w v l) (hu : SliceOf w u first) (ha : l.length ≤ 1048576) (hb : first.length ≤ 1048576) :
    Calls Tryz.prog 144 #[v, u] w fun e w' => e = .returned (.bool (com first l == first.length)) ∧ Below w.heap.size w w' := by
  have HV := hide hv
  have HU := hide hu
  obtain ⟨a1, c1, rfl⟩ := hv.form
  obtain ⟨a2, c2, rfl⟩ := hu.form
  have hz : ((com l first : Int) == (first.length : Int)) = (com first l == first.length) := by
    rw [com_comm first l, Bool.eq_iff_iff, beq_iff_eq, beq_iff_eq]; omega
  have hz2 : (com l first == first.length) = (com first l == first.length) := by rw [com_comm first l]
  have HZ := hide hz
  have HZ2 := hide hz2
  clear hv hu hz hz2
  go_enter Tryz.func144, Tryz.ntmps144
  go_wp2_with fail
  refine (spec_cmp _ _ l first _ HV.out HU.out ha hb).mono ?_
  rintro e w2 ⟨rfl, hb2⟩
  go_wp2
  go_ret
  exact ⟨by first | exact ret_bool HZ.out | exact ret_bool HZ2.out, hb2⟩
end Go.Proofs.YtfkeokglifpkoaaGreatDoor

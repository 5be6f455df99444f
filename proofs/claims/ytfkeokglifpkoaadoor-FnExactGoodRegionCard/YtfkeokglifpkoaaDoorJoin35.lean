/-
  The order of histories in both texts, how much two have in common, and which are histories that may be told. Condition of the program's: the table knownKinds reads as its text lays it.
-/
import Derived.Test.YtfkeokglifpkoaaDoorJoin14
import Derived.Test.YtfkeokglifpkoaaDoorJoin34
import Derived.Test.YtfkeokglifpkoaaDoorJoin19
import Derived.Deep.RegionHeld
import Derived.Deep.RegionHeld3
import Derived.Laws.StructEq
namespace Go.Proofs.YtfkeokglifpkoaaDoor
open Go.RowKit M
open Go.Sort (grow)
namespace M
theorem cb_three : ∀ x y : List UInt8, Lib.compareBytes x y = (if Op.bytesLess x y = true then -1 else if Op.bytesLess y x = true then 1 else 0)
  | [], [] => by simp [Lib.compareBytes, Op.bytesLess]
  | [], _ :: _ => by simp [Lib.compareBytes, Op.bytesLess]
  | _ :: _, [] => by simp [Lib.compareBytes, Op.bytesLess]
  | a :: x, b :: y => by
    have ih := cb_three x y
    simp only [Lib.compareBytes, Op.bytesLess, Bool.or_eq_true, Bool.and_eq_true, decide_eq_true_eq, beq_iff_eq]
    rcases (show a < b ∨ a = b ∨ b < a by rcases a with ⟨⟨a⟩⟩; rcases b with ⟨⟨b⟩⟩; simp [UInt8.lt_iff_toNat_lt, ← UInt8.toNat_inj]; omega) with k | k | k
    · rw [if_pos k, if_pos (.inl k)]
    · subst k
      have hi : ¬ a < a := UInt8.lt_irrefl a
      rw [if_neg hi, if_neg hi, ih]; simp [hi]
    · have h1 : ¬ a < b := fun h => UInt8.lt_asymm h k
      have h2 : a ≠ b := fun h => UInt8.lt_irrefl b (by rw [h] at k; exact k)
      rw [if_neg h1, if_pos k, if_neg (by simp [h1, h2]), if_pos (.inl k)]
def cmpN (a b : ByteArray) : Int := Lib.compareBytes a.data.toList b.data.toList
theorem cmpN_is (a b : ByteArray) : cmpN a b = (if ltS a b = true then -1 else if ltS b a = true then 1 else 0) := by
  unfold cmpN ltS; rw [cb_three, toL, toL]
def orI (x y z : Int) : Int := if x = 0 then (if y = 0 then z else y) else x
theorem cE_or (a b : Ev) : orI (cmpI a.ver b.ver) (cmpI a.kind b.kind) (cmpN a.name b.name) = cE a b := by
  unfold orI cE cmpI
  rw [cmpN_is]
  rcases (show a.ver < b.ver ∨ a.ver = b.ver ∨ b.ver < a.ver by omega) with h | h | h
  · simp [h]
  · have n1 : ¬ a.ver < b.ver := by omega
    have n2 : ¬ b.ver < a.ver := by omega
    rcases (show a.kind < b.kind ∨ a.kind = b.kind ∨ b.kind < a.kind by omega) with k | k | k
    · simp only [n1, n2, k, if_true, if_false]; rfl
    · have m1 : ¬ a.kind < b.kind := by omega
      have m2 : ¬ b.kind < a.kind := by omega
      simp only [n1, n2, m1, m2, if_true, if_false]
    · have m1 : ¬ a.kind < b.kind := by omega
      simp only [n1, n2, m1, k, if_true, if_false]; rfl
  · have n1 : ¬ a.ver < b.ver := by omega
    simp only [n1, h, if_true, if_false]; rfl
theorem three_new (X : World) (a b c : Value) (t : TypeId) : (X.alloc (.cells #[a, b, c] t)).cell? ⟨X.heap.size, 0, none⟩ = some a ∧ (X.alloc (.cells #[a, b, c] t)).cell? ⟨X.heap.size, 1, none⟩ = some b ∧ (X.alloc (.cells #[a, b, c] t)).cell? ⟨X.heap.size, 2, none⟩ = some c := ⟨by simp, by simp, by simp⟩
theorem four_new (X : World) (a b c d : Value) (t : TypeId) : (X.alloc (.cells #[a, b, c, d] t)).cell? ⟨X.heap.size, 0, none⟩ = some a ∧ (X.alloc (.cells #[a, b, c, d] t)).cell? ⟨X.heap.size, 1, none⟩ = some b ∧ (X.alloc (.cells #[a, b, c, d] t)).cell? ⟨X.heap.size, 2, none⟩ = some c ∧ (X.alloc (.cells #[a, b, c, d] t)).cell? ⟨X.heap.size, 3, none⟩ = some d := ⟨by simp, by simp, by simp, by simp⟩
end M
set_option maxHeartbeats 1000000 in
theorem cmp_or3 (b : Nat) (x y z : Int) (W : World) (c0 : W.cell? ⟨b, 0, none⟩ = some (.int .i64 x)) (c1 : W.cell? ⟨b, 1, none⟩ = some (.int .i64 y)) (c2 : W.cell? ⟨b, 2, none⟩ = some (.int .i64 z)) :
    Calls Tryd.prog 108 #[.slice (some ⟨b, 0, none⟩) 3 3] W fun e w' => e = .returned (.int .i64 (orI x y z)) ∧ w' = W := by
  by_cases hx : x = 0
  · by_cases hy : y = 0
    · by_cases hz : z = 0
      · subst hx; subst hy; subst hz
        go_enter Tryd.func108, Tryd.ntmps108
        go_wp2
        refine wp_loop_rounds 4 ?_
        rw [rounds_succ]
        go_wp2
        rw [rounds_succ]
        go_wp2
        rw [rounds_succ]
        go_wp2
        rw [rounds_succ]
        go_wp2
        go_ret
        exact ⟨rfl, rfl⟩
      · subst hx; subst hy
        have hz' : (z != 0) = true := by simpa using hz
        have HZ := hide (show orI 0 0 z = z from rfl)
        go_enter Tryd.func108, Tryd.ntmps108
        go_wp2
        refine wp_loop_rounds 4 ?_
        rw [rounds_succ]
        go_wp2
        rw [rounds_succ]
        go_wp2
        rw [rounds_succ]
        go_wp2
        go_ret
        exact ⟨ret_int (by rw [HZ.out]), rfl⟩
    · subst hx
      have hy' : (y != 0) = true := by simpa using hy
      have HZ := hide (show orI 0 y z = y by unfold orI; rw [if_pos rfl, if_neg hy])
      go_enter Tryd.func108, Tryd.ntmps108
      go_wp2
      refine wp_loop_rounds 4 ?_
      rw [rounds_succ]
      go_wp2
      rw [rounds_succ]
      go_wp2
      go_ret
      exact ⟨ret_int (by rw [HZ.out]), rfl⟩
  · have hx' : (x != 0) = true := by simpa using hx
    have HZ := hide (show orI x y z = x by unfold orI; rw [if_neg hx])
    go_enter Tryd.func108, Tryd.ntmps108
    go_wp2
    refine wp_loop_rounds 4 ?_
    rw [rounds_succ]
    go_wp2
    go_ret
    exact ⟨ret_int (by rw [HZ.out]), rfl⟩
theorem by_verX (a b : Ev) (w : World) : Calls Tryd.prog 51 #[a.v, b.v] w fun e w' => e = .returned (.int .i64 (cmpI a.ver b.ver)) ∧ w' = (w.alloc (.cells (evarr a) 45)).alloc (.cells (evarr b) 45) := by
  show Calls Tryd.prog 51 #[ev a.id a.ver a.kind a.name, ev b.id b.ver b.kind b.name] w _
  go_enter Tryd.func51, Tryd.ntmps51
  go_wp2_with (go_at_call 60; refine (cmp_int _ _ _).mono ?_; rintro e w' ⟨rfl, rfl⟩)
  go_ret
  exact ⟨rfl, rfl⟩
set_option maxRecDepth 20000 in
set_option maxHeartbeats 4000000 in
theorem by_told (a b : Ev) (w : World) :
    Calls Tryd.prog 107 #[a.v, b.v] w fun e w' => e = .returned (.int .i64 (cE a b)) ∧ Below w.heap.size w w' := by
  rw [← cE_or]
  have hv0 := fun W' => by_verX a b W'
  have h1 := fun W' => cmp_int a.kind b.kind W'
  have h2 := fun W' => Tryd.strings_Compare a.name b.name W'
  have he : cmpN a.name b.name = Lib.compareBytes a.name.data.toList b.name.data.toList := rfl
  rw [he]
  clear he
  generalize cmpI a.ver b.ver = r1 at *
  generalize cmpI a.kind b.kind = r2 at *
  generalize Lib.compareBytes a.name.data.toList b.name.data.toList = r3 at *
  obtain ⟨r4, hr4⟩ : ∃ r4, orI r1 r2 r3 = r4 := ⟨_, rfl⟩
  have HO := hide (fun X : World => cmp_or3 X.heap.size r1 r2 r3 _ (three_new X (.int .i64 r1) (.int .i64 r2) (.int .i64 r3) 3).1 (three_new X (.int .i64 r1) (.int .i64 r2) (.int .i64 r3) 3).2.1 (three_new X (.int .i64 r1) (.int .i64 r2) (.int .i64 r3) 3).2.2)
  rw [hr4] at HO
  rw [hr4]
  clear hr4
  have H1 := hide h1
  have H2 := hide h2
  clear h1 h2
  obtain ⟨W2, hW2⟩ : ∃ W2, (w.alloc (.cells (evarr a) 45)).alloc (.cells (evarr b) 45) = W2 := ⟨_, rfl⟩
  obtain ⟨p, hp⟩ : ∃ p, w.heap.size = p := ⟨_, rfl⟩
  have hlow : Below w.heap.size w W2 := by rw [← hW2]; exact ((Below.refl _ w).alloc (Nat.le_refl _) _).alloc (by simp) _
  have hX : W2.cell? ⟨p, 0, none⟩ = some (.int .i64 a.id) ∧ W2.cell? ⟨p, 1, none⟩ = some (.int .i64 a.ver) ∧ W2.cell? ⟨p, 2, none⟩ = some (.int .i64 a.kind) ∧ W2.cell? ⟨p, 3, none⟩ = some (.string a.name) := by
    rw [← hW2, ← hp]
    obtain ⟨e0, e1, e2, e3⟩ := four_new w (.int .i64 a.id) (.int .i64 a.ver) (.int .i64 a.kind) (.string a.name) 45
    have hb := (Below.refl (w.alloc (.cells (evarr a) 45)).heap.size (w.alloc (.cells (evarr a) 45))).alloc (Nat.le_refl _) (.cells (evarr b) 45)
    exact ⟨(hb.cell (p := ⟨w.heap.size, 0, none⟩) (by simp)).trans e0, (hb.cell (p := ⟨w.heap.size, 1, none⟩) (by simp)).trans e1, (hb.cell (p := ⟨w.heap.size, 2, none⟩) (by simp)).trans e2, (hb.cell (p := ⟨w.heap.size, 3, none⟩) (by simp)).trans e3⟩
  have hY : W2.cell? ⟨p + 1, 0, none⟩ = some (.int .i64 b.id) ∧ W2.cell? ⟨p + 1, 1, none⟩ = some (.int .i64 b.ver) ∧ W2.cell? ⟨p + 1, 2, none⟩ = some (.int .i64 b.kind) ∧ W2.cell? ⟨p + 1, 3, none⟩ = some (.string b.name) := by
    have := four_new (w.alloc (.cells (evarr a) 45)) (.int .i64 b.id) (.int .i64 b.ver) (.int .i64 b.kind) (.string b.name) 45
    rw [World.size_alloc, hp] at this
    rw [← hW2]
    exact this
  have hsz : p + 1 < W2.heap.size := by rw [← hW2, World.size_alloc, World.size_alloc, hp]; omega
  have hS : ∀ W, Below W2.heap.size W2 W → (W.cell? ⟨p, 0, none⟩ = some (.int .i64 a.id) ∧ W.cell? ⟨p, 1, none⟩ = some (.int .i64 a.ver) ∧ W.cell? ⟨p, 2, none⟩ = some (.int .i64 a.kind) ∧ W.cell? ⟨p, 3, none⟩ = some (.string a.name)) ∧ W.cell? ⟨p + 1, 0, none⟩ = some (.int .i64 b.id) ∧ W.cell? ⟨p + 1, 1, none⟩ = some (.int .i64 b.ver) ∧ W.cell? ⟨p + 1, 2, none⟩ = some (.int .i64 b.kind) ∧ W.cell? ⟨p + 1, 3, none⟩ = some (.string b.name) := fun W hb =>
    ⟨⟨(hb.cell (p := ⟨p, 0, none⟩) (show p < _ by omega)).trans hX.1, (hb.cell (p := ⟨p, 1, none⟩) (show p < _ by omega)).trans hX.2.1, (hb.cell (p := ⟨p, 2, none⟩) (show p < _ by omega)).trans hX.2.2.1, (hb.cell (p := ⟨p, 3, none⟩) (show p < _ by omega)).trans hX.2.2.2⟩, (hb.cell (p := ⟨p + 1, 0, none⟩) hsz).trans hY.1, (hb.cell (p := ⟨p + 1, 1, none⟩) hsz).trans hY.2.1, (hb.cell (p := ⟨p + 1, 2, none⟩) hsz).trans hY.2.2.1, (hb.cell (p := ⟨p + 1, 3, none⟩) hsz).trans hY.2.2.2⟩
  obtain ⟨W3, hW3⟩ : ∃ W3, (W2.drew.alloc (.cells (evarr a) 45)).alloc (.cells (evarr b) 45) = W3 := ⟨_, rfl⟩
  have hb3 : Below W2.heap.size W2 W3 := by rw [← hW3]; exact ((Below.refl W2.heap.size W2).drew.alloc (Nat.le_refl _) _).alloc (by simp) _
  have HV0 := hide (show Calls Tryd.prog 51 #[.agg #[.int .i64 a.id, .int .i64 a.ver, .int .i64 a.kind, .string a.name], .agg #[.int .i64 b.id, .int .i64 b.ver, .int .i64 b.kind, .string b.name]] W2.drew fun e w' => e = .returned (.int .i64 r1) ∧ w' = W3 from by rw [← hW3]; exact hv0 W2.drew)
  have HS2 := hide (hS W2.drew (Below.refl W2.heap.size W2).drew)
  have HS3 := hide (hS W3 hb3)
  have HSa := hide (fun o => hS (W3.alloc o) (hb3.trans ((Below.refl W3.heap.size W3).alloc (Nat.le_refl _) o |>.mono hb3.size)))
  have HLOW := hide (fun o => hlow.trans ((hb3.trans ((Below.refl W3.heap.size W3).alloc (Nat.le_refl _) o |>.mono hb3.size)).mono hlow.size))
  have HO2 := hide (HO.out W3)
  have HW := hide hW2
  have HP := hide hp
  clear HO hW2 hp hX hY hlow hS hv0 hW3 hb3 hsz
  show Calls Tryd.prog 107 #[ev a.id a.ver a.kind a.name, ev b.id b.ver b.kind b.name] w _
  go_enter Tryd.func107, Tryd.ntmps107
  go_wp2_with fail
  rw [HW.out, HP.out]
  clear HW HP
  go_region_held (fun w' => (w'.cell? ⟨p, 0, none⟩ = some (.int .i64 a.id) ∧ w'.cell? ⟨p, 1, none⟩ = some (.int .i64 a.ver) ∧ w'.cell? ⟨p, 2, none⟩ = some (.int .i64 a.kind) ∧ w'.cell? ⟨p, 3, none⟩ = some (.string a.name)) ∧ w'.cell? ⟨p + 1, 0, none⟩ = some (.int .i64 b.id) ∧ w'.cell? ⟨p + 1, 1, none⟩ = some (.int .i64 b.ver) ∧ w'.cell? ⟨p + 1, 2, none⟩ = some (.int .i64 b.kind) ∧ w'.cell? ⟨p + 1, 3, none⟩ = some (.string b.name)) (first | exact HS2.out | exact HS3.out | exact HSa.out _) (first
    | (go_at_call 51; refine HV0.out.mono ?_; rintro e w' ⟨rfl, rfl⟩)
    | (go_at_call 60; refine (H1.out _).mono ?_; rintro e w' ⟨rfl, rfl⟩)
    | (go_at_call 109; refine (H2.out _).mono ?_; rintro e w' ⟨rfl, rfl⟩)
    | (go_at_call 108; refine HO2.out.mono ?_; rintro e w' ⟨rfl, rfl⟩))
  all_goals
    go_wp2
    go_ret
    exact ⟨rfl, HLOW.out _⟩
end Go.Proofs.YtfkeokglifpkoaaDoor

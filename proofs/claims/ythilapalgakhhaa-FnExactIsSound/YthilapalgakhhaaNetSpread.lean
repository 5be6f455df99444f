/-
  The program's spread: all that comes of a marking, in a map.
-/
import Derived.Test.YthilapalgakhhaaNetQueue
import Derived.Test.YthilapalgakhhaaNetBfsM
import Derived.Test.YthilapalgakhhaaNetCan
namespace Go.Proofs.Ythilapalgakhhaa
open Go.RowKit M
open Clk (upd upd_same upd_other)
namespace M
/-- How the marking j was come to, as the map holds it. -/
def arrB (s : Bs) (j : Nat) : Value := if j = 0 then arrV 0 z8 0 else arrV (j : Int) (s.M (s.fr j)) (s.st j : Int)
theorem MapB.congr {w : World} {b n : Nat} {K K' : Nat → Nat → Int} {V V' : Nat → Value} (h : MapB w b n K V) (he : ∀ j, j < n → mkV (K j) = mkV (K' j) ∧ V j = V' j) : MapB w b n K' V' := by
  unfold MapB at *
  rw [h, entL_congr n 0 fun j _ hj => he j (by omega)]
theorem MapB.only {w w' : World} {b n : Nat} {K : Nat → Nat → Int} {V : Nat → Value} (h : MapB w b n K V) (ho : w'.heap[b]? = w.heap[b]?) : MapB w' b n K V := by
  unfold MapB at *
  rw [ho, h]
def startB (m : Nat → Int) : Bs := ⟨1, fun _ => m, fun _ => 0, fun _ => 0⟩
theorem stepB_keep {s s' : Bs} {i t : Nat} {sp : Sp} (e : stepB s i t sp = some s') : s.c ≤ s'.c ∧ ∀ j, j < s.c → s'.M j = s.M j := by
  unfold stepB at e
  cases hf : fire sp (s.M i) with
  | none => rw [hf] at e; cases e; exact ⟨Nat.le_refl _, fun _ _ => rfl⟩
  | some x =>
    rw [hf] at e
    simp only at e
    split at e
    · cases e; exact ⟨Nat.le_refl _, fun _ _ => rfl⟩
    · split at e
      · cases e
      · cases e; exact ⟨Nat.le_succ _, fun j hj => by show upd s.M s.c x j = s.M j; rw [upd_other _ _ _ _ (by omega)]⟩
theorem rowB_keep {st : Nat → Sp} {s : Bs} {i : Nat} : ∀ {t : Nat} {s' : Bs}, rowB st s i t = some s' → s.c ≤ s'.c ∧ ∀ j, j < s.c → s'.M j = s.M j
  | 0, s', e => by simp [rowB] at e; subst e; exact ⟨Nat.le_refl _, fun _ _ => rfl⟩
  | t + 1, s', e => by
    cases e1 : rowB st s i t with
    | none => simp [rowB, e1] at e
    | some s1 =>
      simp only [rowB, e1] at e
      obtain ⟨h1, h2⟩ := rowB_keep e1
      obtain ⟨h3, h4⟩ := stepB_keep e
      exact ⟨by omega, fun j hj => (h4 j (by omega)).trans (h2 j hj)⟩
theorem arrB_form (s : Bs) (j : Nat) : ∃ o f u, arrB s j = arrV o f u := by
  unfold arrB
  split
  · exact ⟨_, _, _, rfl⟩
  · exact ⟨_, _, _, rfl⟩
theorem arrB_add {p k : Nat} {s : Bs} (h : BOk p k s) {x : Nat → Int} {i t : Nat} (hi : i < s.c) : ∀ j, j < s.c + 1 → upd (arrB s) s.c (arrV (s.c : Int) (s.M i) (t : Int)) j = arrB (s.add x i t) j := by
  intro j hj
  have hp := h.pos
  unfold arrB Bs.add
  simp only
  rcases (show j < s.c ∨ j = s.c by omega) with h1 | h1
  · rw [upd_other _ _ _ _ (by omega)]
    by_cases h0 : j = 0
    · rw [if_pos h0, if_pos h0]
    · have := h.back j (by omega) h1
      rw [if_neg h0, if_neg h0, upd_other s.fr _ _ _ (by omega), upd_other s.st _ _ _ (by omega), upd_other s.M _ _ _ (by omega)]
  · subst h1
    rw [upd_same, if_neg (by omega), upd_same, upd_same, upd_other s.M _ _ _ (by omega)]
/-- What holds between two rounds: i markings were taken off, s was found. -/
def SpR (w wr : World) (x : Value) (i : Nat) (s : Bs) (nv : Nat → Value) : Prop :=
  Que wr (w.heap.size + 1 + 1 + 1) x i s.c s.M ∧ MapB wr (w.heap.size + 1 + 1) s.c s.M (arrB s) ∧ Blk wr w.heap.size 2 nv 29 ∧ Below w.heap.size w wr
theorem SpR.down {w wr w' : World} {x : Value} {i : Nat} {s : Bs} {nv : Nat → Value} (h : SpR w wr x i s nv) (hb : Below wr.heap.size wr w') : SpR w w' x i s nv :=
  ⟨h.1.down hb, h.2.1.down hb, h.2.2.1.down hb, h.2.2.2.trans (hb.mono h.2.2.2.size)⟩
def mapN (w : World) (b : Nat) : Nat := match w.heap[b]? with
  | some (.map es _) => es.size
  | _ => 0
theorem MapB.many {w : World} {b n : Nat} {K : Nat → Nat → Int} {V : Nat → Value} (h : MapB w b n K V) : mapN w b = n := by
  unfold mapN; rw [h]; simp [entL_len]
end M
theorem info_arr : (Try.prog.info? 94).map (fun i => i.zero) = some (some (.agg #[.int .i64 0, .int .i64 0, .int .i64 0, .int .i64 0, .int .i64 0, .int .i64 0, .int .i64 0, .int .i64 0, .int .i64 0, .int .i64 0])) := by kernel_rfl
theorem zero_arr (W : World) : (zeroValue 94).run Try.prog W = .ok (.agg #[.int .i64 0, .int .i64 0, .int .i64 0, .int .i64 0, .int .i64 0, .int .i64 0, .int .i64 0, .int .i64 0, .int .i64 0, .int .i64 0]) W := by
  have h := info_arr
  cases hi : Try.prog.info? 94 with
  | none => rw [hi] at h; cases h
  | some ti =>
    rw [hi] at h
    simp only [Option.map_some, Option.some.injEq] at h
    simp [zeroValue, typeInfo, hi, h]
theorem grown_blk {w w' : World} {row : Option Nat} (h : w.grownBy w' row) {g n : Nat} {f : Nat → Value} {t : TypeId} (hb : Blk w g n f t) (hne : some g ≠ row) : Blk w' g n f t := by
  have hl := hb.lt
  unfold Blk at *
  rw [h.block g hl hne]; exact hb
theorem wpList_que_put {w : World} {ops : Array Oper} {rest : List Oper} {o : Oper} {a : Act} {Q : Exit → Act → World → Prop} (hgd : o.guard = none) (sO xO : Operand) (ho : o.op = .call { callee := .builtin .append, args := #[sO, xO], argTypes := #[81, 81] })
    (base i c : Nat) (K : Nat → Nat → Int) (v : Value) (hs : a.eval sO = v) (hQ : Que w base v i c K) (ad cp : Nat) (x : Nat → Int) (hx : a.eval xO = .slice (some ⟨ad, 0, none⟩) 1 cp) (hcell : ∀ q, q < 8 → w.cell? ⟨ad, q, none⟩ = some (.int .i64 (x q))) (hc : c ≤ 100000) (hbase : base ≤ w.heap.size)
    (h : ∀ v' w', Que w' base v' i (c + 1) (upd K c x) → w.grownBy w' v.ownBlock → (v'.ownBlock = v.ownBlock ∨ v'.ownBlock = some w.heap.size) → wpList Try.prog ops Q rest (a.put o.dst v') w') : wpList Try.prog ops Q (o :: rest) a w := by
  obtain ⟨ti, hi, hz0, hz1, hz2⟩ := info_parts info_mark
  refine wpList_plain hgd fun K' hK' => ?_
  obtain ⟨v', w', hr, h2, h3, h4⟩ := hQ.put (P := Try.prog) 81 o.type 68 ti _ Try.underlying81 hi hz0 hz1 hz2 rfl ad cp x hcell hc hbase
  unfold Oper.wp execOp
  simp only [ho, resolve, invoke, builtin, Sem.run_bind, Sem.run_pure, Result.andThen_ok, List.map_toArray, List.map_cons, List.map_nil, hs, hx, hr]
  exact hK' _ _ (h v' w' h2 h3 h4)
/-- 'm[k] = x' of a key that isn't there. -/
theorem wpList_map_new {w : World} {ops : Array Oper} {rest : List Oper} {o : Oper} {a : Act} {Q : Exit → Act → World → Prop} (hg : o.guard = none) (m ky x : Operand) (t : TypeId) (hop : o.op = Op.mapUpdate t m ky x)
    (e : TypeId) (ht : Try.prog.underlying t = some (.map 68 e)) (b n : Nat) (K : Nat → Nat → Int) (V : Nat → Value) (v : Nat → Int) (hm : a.eval m = .map (some b)) (hk : a.eval ky = mkV v) (hb : MapB w b n K V) (hn : NoKey n K v)
    (hK : ∀ w', MapB w' b (n + 1) (upd K n v) (upd V n (a.eval x)) → Only b w w' → wpList Try.prog ops Q rest (a.put o.dst undef) w') : wpList Try.prog ops Q (o :: rest) a w := by
  refine wpList_plain hg fun K' hK' => ?_
  obtain ⟨w', hr, h1, h2⟩ := store_new ht hb v (a.eval x) hn
  unfold Oper.wp
  simp [execOp, hop, hm, hk, hr, Result.andThen]
  exact hK' _ _ (hK w' h1 h2)
/-- What spread answers. -/
def FndA (r : Option Bs) (e : Ending) (B : Nat) (w' : World) : Prop := match r with
  | none => e = .returned (.tuple #[.map none, .bool false])
  | some s => ∃ b, e = .returned (.tuple #[.map (some b), .bool true]) ∧ B ≤ b ∧ MapB w' b s.c s.M (arrB s)
/-- One more was found and waits. -/
theorem spread_add {p k : Nat} {w w6 w7 w9 : World} {u v9 : Value} {i j t G : Nat} {s : Bs} {x : Nat → Int} {nv f : Nat → Value} {o : Obj} (hbk : BOk p k s) (hi : i < s.c) (hS : SpR w w6 u j s nv) (hG : Blk w6 G 8 f 68) (hGb : G ≠ w.heap.size + 1 + 1) (hu : u.ownBlock ≠ some G)
    (hM7 : MapB w7 (w.heap.size + 1 + 1) (s.c + 1) (upd s.M s.c x) (upd (arrB s) s.c (arrV (s.c : Int) (s.M i) (t : Int)))) (hO7 : Only (w.heap.size + 1 + 1) w6 w7) (hQ9 : Que w9 (w.heap.size + 1 + 1 + 1) v9 j (s.c + 1) (upd s.M s.c x)) (hg : (w7.alloc o).grownBy w9 u.ownBlock) (hat : v9.ownBlock = u.ownBlock ∨ v9.ownBlock = some (w7.alloc o).heap.size) :
    v9.ownBlock ≠ some G ∧ SpR w w9 v9 j (s.add x i t) nv ∧ Blk w9 G 8 f 68 := by
  obtain ⟨g0, hg0, hgb, hgl⟩ := hS.1.lt
  have hbA := (Below.refl w7.heap.size w7).alloc (Nat.le_refl _) o
  have hM8 := hM7.down hbA
  have hGl := hG.lt
  have hs7 := hO7.size
  have hsA : (w7.alloc o).heap.size = w7.heap.size + 1 := by simp
  have hM9 : MapB w9 (w.heap.size + 1 + 1) (s.c + 1) (upd s.M s.c x) (upd (arrB s) s.c (arrV (s.c : Int) (s.M i) (t : Int))) := hM8.only (hg.block _ hM8.lt (by rw [hg0]; intro h; cases h; omega))
  have hN8 := (hO7.blk hS.2.2.1 (by omega)).alloc o
  have hG8 := (hO7.blk hG hGb).alloc o
  have hb7 := hS.2.2.2.trans (hO7.below (show w.heap.size ≤ w.heap.size + 1 + 1 by omega))
  have hb8 := hb7.trans (hbA.mono hb7.size)
  have hb9 : Below w.heap.size w w9 := ⟨hg.os.trans hb8.os, hg.tape.trans hb8.tape, hg.output.trans hb8.output, Nat.le_trans hb8.size hg.size, fun q hq => (hg.block q (Nat.lt_of_lt_of_le hq hb8.size) (by rw [hg0]; intro h; cases h; omega)).trans (hb8.block q hq)⟩
  refine ⟨?_, ⟨hQ9, hM9.congr fun q hq => ⟨rfl, arrB_add hbk hi q hq⟩, grown_blk hg hN8 (by rw [hg0]; intro h; cases h; omega), hb9⟩, grown_blk hg hG8 fun h => hu h.symm⟩
  rcases hat with h | h
  · rw [h]; exact hu
  · rw [h, hsA]; intro h'; cases h'; omega
set_option maxRecDepth 20000 in
set_option maxHeartbeats 1000000 in
theorem spread_is (p : Nat) (v : Value) (k : Nat) (st : Nat → Sp) (m : Nat → Int) (w : World) (hv : StepsOf w v k st) (hs : Short k st) (hp : p ≤ 8) (hg : ∀ t, t < k → GoodS p (st t)) (hm : Mk p m) :
    Calls Try.prog 69 #[netV (p : Int) v, mkV m] w fun e w' => FndA (foundB st k m) e w.heap.size w' ∧ Below w.heap.size w w' := by
  have HV := hide hv
  have HS := hide hs
  have HG := hide hg
  have HM := hide hm
  have hk := hs.1
  obtain ⟨a, cap, rfl, hrow⟩ := hv
  have HR := hide hrow
  have hmm := fun W => run_makeMap (P := Try.prog) 78 W
  have hbA := ((Below.refl w.heap.size w).alloc (Nat.le_refl _) (.cells #[.int .i64 (p : Int), .slice a k cap] 29))
  have hNA := Blk.fresh w _ 2 (p2 (.int .i64 (p : Int)) (.slice a k cap)) 29 rfl
  have hbB := (hbA.alloc hbA.size (.cells #[.int .i64 (m 0), .int .i64 (m 1), .int .i64 (m 2), .int .i64 (m 3), .int .i64 (m 4), .int .i64 (m 5), .int .i64 (m 6), .int .i64 (m 7)] 68))
  have hbC := hbB.alloc hbB.size (.map #[] 0)
  have hNC := (hNA.alloc (.cells #[.int .i64 (m 0), .int .i64 (m 1), .int .i64 (m 2), .int .i64 (m 3), .int .i64 (m 4), .int .i64 (m 5), .int .i64 (m 6), .int .i64 (m 7)] 68)).alloc (.map #[] 0)
  obtain ⟨w4, hr4, hm4, ho4⟩ := store_new Try.underlying78 (MapB.made ((w.alloc (.cells #[.int .i64 (p : Int), .slice a k cap] 29)).alloc (.cells #[.int .i64 (m 0), .int .i64 (m 1), .int .i64 (m 2), .int .i64 (m 3), .int .i64 (m 4), .int .i64 (m 5), .int .i64 (m 6), .int .i64 (m 7)] 68)) (fun _ => m) (fun _ => arrV 0 z8 0)) m (.agg #[.int .i64 0, .int .i64 0, .int .i64 0, .int .i64 0, .int .i64 0, .int .i64 0, .int .i64 0, .int .i64 0, .int .i64 0, .int .i64 0]) (fun j hj => by omega)
  simp only [World.size_alloc] at hr4 hm4 ho4
  have HM4 := hide (show MapB w4 (w.heap.size + 1 + 1) 1 (fun _ => m) (arrB (startB m)) from hm4.congr fun j hj => by
    obtain rfl : j = 0 := by omega
    exact ⟨by rw [upd_same], by rw [upd_same]; rfl⟩)
  have hN4 := ho4.blk hNC (by omega)
  have hSB := (Blk.fresh (w.alloc (.cells #[.int .i64 (p : Int), .slice a k cap] 29)) _ 8 (iv m) 68 (cf8 m)).alloc (.map #[] 0)
  rw [World.size_alloc] at hSB
  obtain ⟨c0, c1, c2, c3, c4, c5, c6, c7⟩ := (ho4.blk hSB (by omega)).eight
  have hb4 := hbC.trans (ho4.below (show w.heap.size ≤ w.heap.size + 1 + 1 by omega))
  have hs4 := ho4.size
  simp only [World.size_alloc] at hs4
  have H0 := hide (show ∀ ty, SpR w (w4.alloc (.cells #[.int .i64 (m 0), .int .i64 (m 1), .int .i64 (m 2), .int .i64 (m 3), .int .i64 (m 4), .int .i64 (m 5), .int .i64 (m 6), .int .i64 (m 7)] ty)) (.slice (some ⟨w.heap.size + 1 + 1 + 1, 0, none⟩) 1 1) 0 (startB m) (p2 (.int .i64 (p : Int)) (.slice a k cap)) from fun ty => by
    have hbz := (Below.refl w4.heap.size w4).alloc (Nat.le_refl _) (.cells #[.int .i64 (m 0), .int .i64 (m 1), .int .i64 (m 2), .int .i64 (m 3), .int .i64 (m 4), .int .i64 (m 5), .int .i64 (m 6), .int .i64 (m 7)] ty)
    refine ⟨?_, HM4.out.down hbz, hN4.down hbz, hb4.trans (hbz.mono hb4.size)⟩
    have := Que.fresh w4 m ty (base := w.heap.size + 1 + 1 + 1) (by rw [hs4]; exact Nat.le_refl _)
    rw [hs4] at this
    exact this)
  clear hs hg hm hrow hbA hNA hbB hbC hNC hm4 ho4 hSB
  go_enter Try.func69, Try.ntmps69
  go_wp2_with fail
  go_loopw [7] (fun x wr => ∃ i s, i ≤ s.c ∧ allB st k m i = some s ∧ Hid (SpR w wr x i s (p2 (.int .i64 (p : Int)) (.slice a k cap)))) (fun x wr => 400 - (mapN wr (w.heap.size + 1 + 1) - lenV x))
  case atStart => exact ⟨0, startB m, Nat.zero_le _, rfl, hide (H0.out _)⟩
  case round =>
    rename World => wo
    obtain ⟨i, s, his, hall, HSp⟩ := hrel
    obtain ⟨hQ, hMp, hN, hb⟩ := HSp.out
    have hok := allB_ok HG.out HM.out hall
    have hmost := hok.most
    by_cases hlt : i < s.c
    · obtain ⟨g, o, cp, rfl, hcell⟩ := hQ.head hlt
      obtain ⟨V2, hsl, hQ2, hown⟩ := hQ.rest hlt Try.underlying81 (fun W => by rfl)
      have p0 := hcell 0 (by omega)
      have p1 := hcell 1 (by omega)
      have p2' := hcell 2 (by omega)
      have p3 := hcell 3 (by omega)
      have p4 := hcell 4 (by omega)
      have p5 := hcell 5 (by omega)
      have p6 := hcell 6 (by omega)
      have p7 := hcell 7 (by omega)
      rw [Nat.add_zero] at p0
      obtain ⟨e0, e1, -, -⟩ := hN.pair
      have ae0 := fun o : Obj => alloc_cell o e0
      have ae1 := fun o : Obj => alloc_cell o e1
      have hpos : 0 < s.c - i := by omega
      have hposd : decide (0 < s.c - i) = true := by simp [hpos]
      have HOk := hide hok
      have hgl : V2.ownBlock ≠ some wo.heap.size := by
        obtain ⟨g', e', -, l'⟩ := hQ2.lt
        rw [e']; intro h'; cases h'; omega
      have HI0 := hide (show SpR w (wo.alloc (.cells #[.int .i64 (s.M i 0), .int .i64 (s.M i 1), .int .i64 (s.M i 2), .int .i64 (s.M i 3), .int .i64 (s.M i 4), .int .i64 (s.M i 5), .int .i64 (s.M i 6), .int .i64 (s.M i 7)] 68)) V2 (i + 1) s (p2 (.int .i64 (p : Int)) (.slice a k cap)) ∧ Blk (wo.alloc (.cells #[.int .i64 (s.M i 0), .int .i64 (s.M i 1), .int .i64 (s.M i 2), .int .i64 (s.M i 3), .int .i64 (s.M i 4), .int .i64 (s.M i 5), .int .i64 (s.M i 6), .int .i64 (s.M i 7)] 68)) wo.heap.size 8 (iv (s.M i)) 68 from
        ⟨(show SpR w wo V2 (i + 1) s (p2 (.int .i64 (p : Int)) (.slice a k cap)) from ⟨hQ2, hMp, hN, hb⟩).down ((Below.refl _ _).alloc (Nat.le_refl _) _), Blk.fresh wo _ 8 (iv (s.M i)) 68 (cf8 (s.M i))⟩)
      have hsz := hb.size
      have hbl := hMp.lt
      have HMs := hide (And.intro hMp.many hQ.len)
      clear hQ hMp hN hok hcell hQ2 hb hown HSp
      go_wp2_with fail
      go_loopw [7, 33] (fun x y wr => ∃ (t : Nat) (s2 : Bs), t ≤ k ∧ y = .int .i64 (t : Int) ∧ rowB st s i t = some s2 ∧ x.ownBlock ≠ some wo.heap.size ∧ Hid (SpR w wr x (i + 1) s2 (p2 (.int .i64 (p : Int)) (.slice a k cap)) ∧ Blk wr wo.heap.size 8 (iv (s.M i)) 68)) (fun _ y _ => k - (intOf y).toNat)
      case atStart => exact ⟨0, s, Nat.zero_le _, rfl, rfl, hgl, HI0⟩
      case round =>
        rename World => wq
        obtain ⟨t, s2, htk, rfl, hrow2, hownx, HI⟩ := hrel
        obtain ⟨hSp, hG⟩ := HI.out
        have hb2 := hSp.2.2.2
        have hbk := (rowB_ok HG.out HOk.out hlt htk hrow2).1
        have hmost2 := hbk.most
        obtain ⟨hcs, hkeep⟩ := rowB_keep hrow2
        have hMi := hkeep i hlt
        clear hkeep HI0 e0 e1 ae0 ae1 p0 p1 p2' p3 p4 p5 p6 p7 hsl hpos hposd
        by_cases htl : t < k
        · obtain ⟨bb, off, rfl, hbb, hrw⟩ := HR.out (by omega)
          obtain ⟨vx, vy, q1, q2, i1, i2⟩ := hrw t htl
          obtain ⟨ax, cx, rfl⟩ := i1.form
          obtain ⟨ay, cy, rfl⟩ := i2.form
          have l1 := (hb2.cell (p := ⟨bb, off + t * 2, none⟩) hbb).trans q1
          have l2 := (hb2.cell (p := ⟨bb, off + t * 2 + 1, none⟩) hbb).trans q2
          obtain ⟨l3, l4, l5, l6, l7, l8, l9, l10⟩ := hG.eight
          have al3 := fun o : Obj => alloc_cell o l3
          have al4 := fun o : Obj => alloc_cell o l4
          have al5 := fun o : Obj => alloc_cell o l5
          have al6 := fun o : Obj => alloc_cell o l6
          have al7 := fun o : Obj => alloc_cell o l7
          have al8 := fun o : Obj => alloc_cell o l8
          have al9 := fun o : Obj => alloc_cell o l9
          have al10 := fun o : Obj => alloc_cell o l10
          have J1 := hide (i1.below hb2)
          have J2 := hide (i2.below hb2)
          have ht0 : (0 : Int) ≤ (t : Int) := by omega
          have ht1 : (t : Int) < (k : Int) := by omega
          have HRn := hide (show rowB st s i (t + 1) = stepB s2 i t (st t) from by simp only [rowB, hrow2])
          have HF := hide (show ∀ (r : Option (Nat → Int)) (wx : World), fire (st t) (s.M i) = r → Below wq.heap.size wq wx → Calls Try.prog 55 #[mkV (s.M i), .agg #[.slice ax (st t).ni cx, .slice ay (st t).no cy]] wx fun e w' => e = .returned (.tuple #[mkV (r.getD z8), .bool r.isSome]) ∧ Below wx.heap.size wx w' from fun r wx hr hbx =>
            fire_is (s.M i) _ _ (st t) p r wx (J1.out.below hbx) (J2.out.below hbx) (HG.out t htl) hp (HOk.out.mark i hlt) hr)
          have HSG := hide (And.intro hSp hG)
          have hlo := hG.lt
          clear hrw q1 q2 i1 i2 HI hSp hG hb2
          go_wp2_with fail
          refine (HF.out (fire (st t) (s.M i)) _ rfl ((Below.refl _ _).alloc (Nat.le_refl _) _)).mono ?_
          rintro e w4 ⟨rfl, hb4⟩
          have hbx : Below wq.heap.size wq w4 := ((Below.refl _ _).alloc (Nat.le_refl _) _).trans (hb4.mono (by simp))
          have hbs := hbx.size
          have HS4 := hide (And.intro (HSG.out.1.down hbx) (HSG.out.2.down hbx))
          clear al3 al4 al5 al6 al7 al8 al9 al10 l1 l2 l3 l4 l5 l6 l7 l8 l9 l10 HF J1 J2 HSG hb4 hbx
          cases hr : fire (st t) (s.M i) with
          | none =>
            have HRn2 := hide (show rowB st s i (t + 1) = some s2 from by rw [HRn.out]; unfold stepB; rw [hMi, hr])
            simp only [Option.getD_none, Option.isSome_none]
            go_wp2
            exact ⟨⟨t + 1, s2, by omega, by go_num, HRn2.out, hownx, hide ⟨HS4.out.1.down ((Below.refl _ _).alloc (Nat.le_refl _) _), HS4.out.2.alloc _⟩⟩, by simp [intOf]; omega⟩
          | some x =>
            simp only [Option.getD_some, Option.isSome_some]
            have hb5 := (Below.refl w4.heap.size w4).alloc (Nat.le_refl _) (.cells #[.int .i64 (x 0), .int .i64 (x 1), .int .i64 (x 2), .int .i64 (x 3), .int .i64 (x 4), .int .i64 (x 5), .int .i64 (x 6), .int .i64 (x 7)] 68)
            have hM5 := HS4.out.1.2.1.down hb5
            cases hkn : kn s2.M x s2.c with
            | true =>
              have HRn2 := hide (show rowB st s i (t + 1) = some s2 from by rw [HRn.out]; unfold stepB; rw [hMi, hr]; simp only [hkn, if_true])
              obtain ⟨d, hd, hno, hveq⟩ := kn_true hkn
              have hlk := look_yes Try.underlying78 hM5 x hd hno hveq true
              obtain ⟨o', f', u', hform⟩ := arrB_form s2 d
              rw [hform] at hlk
              simp only [if_true] at hlk
              clear hM5 hb5
              go_wp2
              exact ⟨⟨t + 1, s2, by omega, by go_num, HRn2.out, hownx, hide ⟨HS4.out.1.down (((Below.refl _ _).alloc (Nat.le_refl _) _).alloc (by simp) _), (HS4.out.2.alloc _).alloc _⟩⟩, by simp [intOf]; omega⟩
            | false =>
              have hno := kn_false.1 hkn
              have hlk := look_no Try.underlying78 (zero_arr _) hM5 x hno true
              simp only [if_true] at hlk
              have hb6 := hb5.alloc hb5.size (.cells #[.int .i64 0, .int .i64 0, .int .i64 0, .int .i64 0, .int .i64 0, .int .i64 0, .int .i64 0, .int .i64 0, .int .i64 0, .int .i64 0] 94)
              have hM6 := HS4.out.1.2.1.down hb6
              by_cases h4 : s2.c = 400
              · have HFd := hide (found_of_stop hall hlt (by omega) (show t + 1 ≤ k by omega) (by rw [HRn.out]; unfold stepB; rw [hMi, hr]; show (if kn s2.M x s2.c = true then some s2 else if s2.c = 400 then none else some (s2.add x i t)) = _; rw [if_neg (by rw [hkn]; exact Bool.false_ne_true), if_pos h4]))
                have HB6 := hide (HS4.out.1.2.2.2.trans (hb6.mono HS4.out.1.2.2.2.size))
                clear hM5 hb5 hb6 hkn hr
                go_wp2_with (at_len; refine wpList_len_map rfl _ 78 rfl 94 Try.underlying78 (w.heap.size + 1 + 1) s2.c s2.M _ rfl hM6 ?_)
                go_ret2
                rw [HFd.out]
                exact ⟨rfl, HB6.out⟩
              · have HRn2 := hide (show rowB st s i (t + 1) = some (s2.add x i t) from by rw [HRn.out]; unfold stepB; rw [hMi, hr]; simp only [hkn, h4, if_false]; rfl)
                obtain ⟨k0, k1, k2, k3, k4, k5, k6, k7⟩ := (HS4.out.2.down hb6).eight
                have hX6 := (Blk.fresh w4 _ 8 (iv x) 68 (cf8 x)).alloc (.cells #[.int .i64 0, .int .i64 0, .int .i64 0, .int .i64 0, .int .i64 0, .int .i64 0, .int .i64 0, .int .i64 0, .int .i64 0, .int .i64 0] 94)
                obtain ⟨x0, x1, x2, x3, x4, x5, x6, x7⟩ := hX6.eight
                have HX6 := hide hX6
                have HS6 := hide (And.intro (HS4.out.1.down hb6) (HS4.out.2.down hb6))
                clear hM5 hb5 hb6 hkn hr hX6
                go_wp2_with (first | (at_len; refine wpList_len_map rfl _ 78 rfl 94 Try.underlying78 (w.heap.size + 1 + 1) s2.c s2.M _ rfl hM6 ?_) | (at_mapUpdate; refine wpList_map_new rfl _ _ _ 78 rfl 94 Try.underlying78 (w.heap.size + 1 + 1) s2.c s2.M (arrB s2) x rfl rfl hM6 hno ?_; rintro w7 hM7 hO7; clear k0 k1 k2 k3 k4 k5 k6 k7 x0 x1 x2 x3 x4 x5 x6 x7 hlk; obtain ⟨y0, y1, y2, y3, y4, y5, y6, y7⟩ := (hO7.blk HX6.out (by omega)).eight; have HQ8 := hide (show ∀ o, Que (w7.alloc o) (w.heap.size + 1 + 1 + 1) _ (i + 1) s2.c s2.M ∧ w.heap.size + 1 + 1 + 1 ≤ (w7.alloc o).heap.size from fun o => by
                  obtain ⟨g', hg', hgb', hgl'⟩ := HS6.out.1.1.lt
                  have hs7 := hO7.size
                  exact ⟨(HS6.out.1.1.kept fun q hq => by rw [hg'] at hq; cases hq; exact hO7.block g' (by omega)).down ((Below.refl _ _).alloc (Nat.le_refl _) _), by rw [World.size_alloc, hs7]; omega⟩); have HC8 := hide (show ∀ ty q, q < 8 → (w7.alloc (.cells #[.int .i64 (x 0), .int .i64 (x 1), .int .i64 (x 2), .int .i64 (x 3), .int .i64 (x 4), .int .i64 (x 5), .int .i64 (x 6), .int .i64 (x 7)] ty)).cell? ⟨w7.heap.size, q, none⟩ = some (.int .i64 (x q)) from fun ty q hq => (Blk.fresh w7 _ 8 (iv x) ty (cf8 x)).cell hq); replace hO7 := hide hO7; replace hM7 := hide (show MapB w7 (w.heap.size + 1 + 1) (s2.c + 1) (upd s2.M s2.c x) (upd (arrB s2) s2.c (arrV (s2.c : Int) (s2.M i) (t : Int))) from by rw [hMi]; exact hM7); clear hM6) | (at_builtin; refine wpList_que_put rfl _ _ rfl (w.heap.size + 1 + 1 + 1) (i + 1) s2.c s2.M _ rfl (HQ8.out _).1 w7.heap.size 1 x rfl (HC8.out _) (by omega) (HQ8.out _).2 ?_))
                rintro v8 w8 hQ8 hg8 hat8
                have HE := hide (spread_add hbk (show i < s2.c by omega) HS6.out.1 HS6.out.2 (by omega) hownx hM7.out hO7.out hQ8 hg8 (by rw [World.size_alloc]; exact hat8))
                clear hQ8 hg8 hat8 HQ8 HC8 HX6 HS6 hM7 hO7 y0 y1 y2 y3 y4 y5 y6 y7
                go_wp2
                exact ⟨⟨t + 1, s2.add x i t, by omega, by go_num, HRn2.out, HE.out.1, hide HE.out.2⟩, by simp [intOf]; omega⟩
        · obtain rfl : t = k := by omega
          have HSo := hide hSp
          have hm2 := hSp.2.1.many
          have hl2 := hSp.1.len
          have hall2 : allB st t m (i + 1) = some s2 := by simp only [allB, hall, if_pos hlt]; exact hrow2
          clear HI hSp hG hb2
          go_wp2
          exact ⟨⟨i + 1, s2, by omega, hall2, HSo⟩, by rw [hm2, hl2, HMs.out.1, HMs.out.2]; omega⟩
    · obtain ⟨a', cp', rfl⟩ := hQ.form
      have hz : s.c - i = 0 := by omega
      have HFd := hide (found_of_done hall (by omega) (by omega))
      rw [hz]
      clear hQ hN
      go_wp2
      go_ret2
      rw [HFd.out]
      exact ⟨⟨_, rfl, by omega, hMp⟩, hb⟩
end Go.Proofs.Ythilapalgakhhaa

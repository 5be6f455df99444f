/-
  The program's shelf: a choice is kept once; the number of its place is told.
-/
import Derived.Test.YtfiooclkefmijaaDoorBddN
namespace Go.Proofs.YtfiooclkefmijaaDoor
open Go.RowKit M
open Clk (upd upd_same upd_other)
namespace M
open Bdd
/-- The cells of the place with number i. -/
def plc (i : Nat) : Nat → Value := fun j => if j = 0 then .int .u32 1 else if j = 1 then .int .i32 0 else if j = 2 then .int .u32 0 else .int .i64 (i : Int)
/-- A shelf with the choices l: its two fields, its row, its map and the places; all of it from block B on. -/
structure Sh (w : World) (B S : Nat) (l : List Ch) (v : Value) (m : Nat) (P : Nat → Nat) : Prop where
  box : Blk w S 2 (q2 v (.map (some m))) 82
  row : w.ownsRow B 66 3 v l.length (fl3 l)
  map : MapC w m l P
  pl : ∀ i, i < l.length → Blk w (P i) 4 (plc i) 110
  geS : B ≤ S
  geM : B ≤ m
  geP : ∀ i, i < l.length → B ≤ P i
theorem Sh.down {w w' : World} {B S m : Nat} {l : List Ch} {v : Value} {P : Nat → Nat} (h : Sh w B S l v m P) (hb : Below w.heap.size w w') : Sh w' B S l v m P :=
  ⟨h.box.down hb, owns_below h.row hb, h.map.down hb, fun i hi => (h.pl i hi).down hb, h.geS, h.geM, h.geP⟩
def z4 : Nat → Value := fun j => if j = 0 then .int .u32 0 else if j = 1 then .int .i32 0 else if j = 2 then .int .u32 0 else .int .i64 0
theorem plc_of (n : Nat) : ∀ j, j < 4 → upd (upd (upd (upd z4 1 (.int .i32 1)) 3 (.int .i64 (n : Int))) 0 (.int .u32 1)) 1 (.int .i32 0) j = plc n j := by
  intro j hj
  rcases (show j = 0 ∨ j = 1 ∨ j = 2 ∨ j = 3 by omega) with rfl | rfl | rfl | rfl <;> rfl
theorem MapC.apart {w : World} {m g n : Nat} {l : List Ch} {P : Nat → Nat} {f : Nat → Value} {t : TypeId} (h : MapC w m l P) (hb : Blk w g n f t) : m ≠ g := fun e => by
  subst e
  unfold MapC at h
  unfold Blk at hb
  rw [h] at hb
  cases hb
theorem MapC.free {w : World} {m B e s n : Nat} {l : List Ch} {P : Nat → Nat} {v : Value} {xs : List Value} (h : MapC w m l P) (hown : w.ownsRow B e s v n xs) : v.ownBlock ≠ some m := by
  rcases hown.2 with ⟨rfl, _⟩ | ⟨g', cap, cur, rfl, _, hb, _⟩
  · simp [Value.ownBlock]
  · simp only [Value.ownBlock]
    intro he
    have he' : g' = m := by simpa using he
    subst he'
    unfold MapC at h
    rw [h] at hb
    cases hb
theorem Blk.at {w w' : World} {g n : Nat} {f : Nat → Value} {t : TypeId} (h : Blk w g n f t) (he : w'.heap[g]? = w.heap[g]?) : Blk w' g n f t := by
  unfold Blk at *; rw [he]; exact h
theorem owns_at {w w' : World} {B e s n : Nat} {v : Value} {xs : List Value} (h : w.ownsRow B e s v n xs) (he : ∀ g, v.ownBlock = some g → w'.heap[g]? = w.heap[g]?) : w'.ownsRow B e s v n xs := by
  refine ⟨h.1, ?_⟩
  rcases h.2 with h0 | ⟨g, cap, cur, hv, hB, hg, r⟩
  · exact .inl h0
  · exact .inr ⟨g, cap, cur, hv, hB, by rw [he g (by rw [hv]; rfl)]; exact hg, r⟩
/-- The shelf behind a choice that came for the first time. -/
theorem Sh.more {w4 w5 w7 : World} {B S m g : Nat} {l : List Ch} {v : Value} {P : Nat → Nat} {c : Ch} (h4 : Sh w4 B S l v m P) (hg4 : Blk w4 g 4 z4 110) (hgB : B ≤ g) (hgP : ∀ i, i < l.length → P i ≠ g)
    (hm5 : MapC w5 m (l ++ [c]) (upd P l.length g)) (hk5 : ∀ k, k ≠ m → w5.heap[k]? = w4.heap[k]?) (hz5 : w5.heap.size = w4.heap.size)
    (h7 : Laid (w5.setCell ⟨g, 1, none⟩ (.int .i32 1)) w7 B S g l.length v (.map (some m)) (fl3 l) c (upd z4 1 (.int .i32 1))) :
    ∃ v', Sh ((w7.drew.setCell ⟨g, 0, none⟩ (.int .u32 1)).setCell ⟨g, 1, none⟩ (.int .i32 0)) B S (l ++ [c]) v' m (upd P l.length g) ∧
      (∀ k, k < w4.heap.size → k ≠ m → k ≠ S → k ≠ g → v.ownBlock ≠ some k → ((w7.drew.setCell ⟨g, 0, none⟩ (.int .u32 1)).setCell ⟨g, 1, none⟩ (.int .i32 0)).heap[k]? = w4.heap[k]?) := by
  obtain ⟨r, cap, b7, o7, p7, k7, _⟩ := h7
  have hsz : (w5.setCell ⟨g, 1, none⟩ (.int .i32 1)).heap.size = w4.heap.size := by rw [World.size_setCell, hz5]
  have hgS : g ≠ S := hg4.apart h4.box (by decide)
  have hmg : m ≠ g := h4.map.apart hg4
  have hmS : m ≠ S := h4.map.apart h4.box
  have key : ∀ k, k < w4.heap.size → k ≠ S → k ≠ g → v.ownBlock ≠ some k → ((w7.drew.setCell ⟨g, 0, none⟩ (.int .u32 1)).setCell ⟨g, 1, none⟩ (.int .i32 0)).heap[k]? = w5.heap[k]? := fun k hk h1 h2 h3 => by
    rw [Go.heap_setCell_other _ _ _ _ h2, Go.heap_setCell_other _ _ _ _ h2]
    show w7.heap[k]? = _
    rw [k7 k (by omega) h1 h2 h3, Go.heap_setCell_other _ _ _ _ h2]
  refine ⟨.slice (some ⟨r, 0, none⟩) (l.length + 1) cap, ⟨?_, ?_, ?_, ?_, h4.geS, h4.geM, ?_⟩, fun k hk h0 h1 h2 h3 => (key k hk h1 h2 h3).trans (hk5 k h0)⟩
  · exact ((b7.drew).set_other (fun e => hgS e.symm) 0 _).set_other (fun e => hgS e.symm) 1 _
  · have q1 := owns_set (owns_same (wx := w7.drew) o7 rfl) p7.drew (by decide) 0 (.int .u32 1)
    have q2 := owns_set q1 (p7.drew.set 0 (.int .u32 1)) (by decide) 1 (.int .i32 0)
    rw [fl3_snoc, List.length_append]
    exact q2
  · exact hm5.at (key m h4.map.lt hmS hmg (h4.map.free h4.row))
  · intro i hi
    rw [List.length_append, List.length_cons, List.length_nil] at hi
    by_cases e : i = l.length
    · subst e
      rw [upd_same]
      exact ((p7.drew.set 0 (.int .u32 1)).set 1 (.int .i32 0)).ext (plc_of l.length)
    · rw [upd_other _ _ _ _ e]
      have hi' : i < l.length := by omega
      have hb := h4.pl i hi'
      exact hb.at ((key (P i) hb.lt (hb.apart h4.box (by decide)) (hgP i hi') (hb.free h4.row (by decide))).trans (hk5 _ (fun e => h4.map.apart hb e.symm)))
  · intro i hi
    rw [List.length_append, List.length_cons, List.length_nil] at hi
    by_cases e : i = l.length
    · subst e; rw [upd_same]; exact hgB
    · rw [upd_other _ _ _ _ e]; exact h4.geP i (by omega)
/-- What keep leaves. -/
def KeepA (w : World) (B S : Nat) (l : List Ch) (n : Int) (e : Ending) (w' : World) : Prop := e = .returned (.int .i64 n) ∧ (∃ v m P, Sh w' B S l v m P) ∧ Below B w w'
end M
set_option maxRecDepth 20000 in
set_option maxHeartbeats 4000000 in
theorem keep_old (B S m : Nat) (l : List Bdd.Ch) (v : Value) (P : Nat → Nat) (c : Bdd.Ch) (w : World) (h : Sh w B S l v m P) (hc : c ∈ l) :
    Calls Tryd.prog 66 #[.pointer (some ⟨S, 0, none⟩), chV c] w fun e w' => KeepA w B S l (l.idxOf c : Nat) e w' := by
  obtain ⟨i, hi⟩ : ∃ i, l.idxOf c = i := ⟨_, rfl⟩
  have hil : i < l.length := by rw [← hi]; exact List.idxOf_lt_length_of_mem hc
  have hB : B ≤ w.heap.size := Nat.le_trans h.geS (Nat.le_of_lt h.box.lt)
  have hd1 := (Below.refl w.heap.size w).alloc (Nat.le_refl _) (.cells #[.pointer (some ⟨S, 0, none⟩)] 91)
  have hd2 := hd1.alloc hd1.size (.cells #[.int .i64 c.v, .int .i64 c.no, .int .i64 c.yes] 66)
  obtain ⟨w2, hw2⟩ : ∃ w2, (w.alloc (.cells #[.pointer (some ⟨S, 0, none⟩)] 91)).alloc (.cells #[.int .i64 c.v, .int .i64 c.no, .int .i64 c.yes] 66) = w2 := ⟨_, rfl⟩
  rw [hw2] at hd2
  have h2 := h.down hd2
  have hb0 : Blk w2 w.heap.size 1 (fun _ => .pointer (some ⟨S, 0, none⟩)) 91 := by rw [← hw2]; exact (Blk.fresh w #[.pointer (some ⟨S, 0, none⟩)] 1 (fun _ => .pointer (some ⟨S, 0, none⟩)) 91 rfl).alloc _
  have hb1 : Blk w2 (w.heap.size + 1) 3 (c3f c) 66 := by
    rw [← hw2]
    have := Blk.fresh (w.alloc (.cells #[.pointer (some ⟨S, 0, none⟩)] 91)) #[.int .i64 c.v, .int .i64 c.no, .int .i64 c.yes] 3 (c3f c) 66 rfl
    simpa using this
  have al := fun o : Obj => h2.map.down ((Below.refl w2.heap.size w2).alloc (Nat.le_refl _) o)
  have l1 := look3_yes h2.map c hc
  have l2 := fun o : Obj => look3_yes (al o) c hc
  have l3 := look3_yes (h2.map.down (Below.refl w2.heap.size w2).drew) c hc
  have l4 := fun o : Obj => look3_yes ((al o).down (Below.refl _ _).drew) c hc
  rw [hi] at l1 l2 l3 l4
  have s0 := hb0.cell (show 0 < 1 by omega)
  have s1 := h2.box.cell (show 1 < 2 by omega)
  have d0 := hb1.cell (show 0 < 3 by omega)
  have d1 := hb1.cell (show 1 < 3 by omega)
  have d2 := hb1.cell (show 2 < 3 by omega)
  have as0 := fun o : Obj => (hb0.alloc o).cell (show 0 < 1 by omega)
  have as1 := fun o : Obj => (h2.box.alloc o).cell (show 1 < 2 by omega)
  have ad0 := fun o : Obj => (hb1.alloc o).cell (show 0 < 3 by omega)
  have ad1 := fun o : Obj => (hb1.alloc o).cell (show 1 < 3 by omega)
  have ad2 := fun o : Obj => (hb1.alloc o).cell (show 2 < 3 by omega)
  simp only [q2, c3f, if_true] at s1 d0 d1 d2 as1 ad0 ad1 ad2
  simp at s1 d1 d2 as1 ad1 ad2
  have HH := hide h
  have H2 := hide h2
  have hz2 : w2.heap.size = w.heap.size + 1 + 1 := by rw [← hw2]; simp
  have HZ := hide hz2
  have HD := hide hd2
  have Hw2 := hide hw2
  clear h h2 hd1 hd2 hb0 hb1 al hz2 hw2 hB
  rw [hi]
  go_enter Tryd.func66, Tryd.ntmps66
  go_wp2_with fail
  rw [Hw2.out]
  go_region
  obtain ⟨w3, hw3⟩ : ∃ w3, (w2.alloc (.cells #[.pointer (some ⟨P i, 0, none⟩)] 96)).drew = w3 := ⟨_, rfl⟩
  have hd3 : Below w2.heap.size w2 w3 := by rw [← hw3]; exact ((Below.refl _ _).alloc (Nat.le_refl _) _).drew
  have h3 := H2.out.down hd3
  have g3 : Blk w3 w2.heap.size 1 (fun _ => .pointer (some ⟨P i, 0, none⟩)) 96 := by rw [← hw3]; exact (Blk.fresh w2 #[.pointer (some ⟨P i, 0, none⟩)] 1 (fun _ => .pointer (some ⟨P i, 0, none⟩)) 96 rfl).drew
  have t0 := g3.cell (show 0 < 1 by omega)
  have p0 := (h3.pl i hil).cell (show 0 < 4 by omega)
  have p3 := (h3.pl i hil).cell (show 3 < 4 by omega)
  simp only [plc, if_true] at p0 p3
  simp at p3
  have hbB : Below B w w3 := by
    have := HD.out.trans (hd3.mono HD.out.size)
    exact this.mono (Nat.le_trans HH.out.geS (Nat.le_of_lt HH.out.box.lt))
  have HE := hide (show (∃ v m P, Sh w3 B S l v m P) ∧ Below B w w3 from ⟨⟨_, _, _, h3⟩, hbB⟩)
  rw [hw3]
  clear hw3 hd3 h3 g3 HH H2 HZ HD Hw2 l1 l2 l3 l4 s0 s1 d0 d1 d2 as0 as1 ad0 ad1 ad2 hbB
  go_wp2_with (go_at_call 68; refine (once_done _ _ _ p0).mono ?_; rintro e w4 ⟨rfl, rfl⟩)
  go_ret
  exact ⟨rfl, HE.out⟩
set_option maxRecDepth 20000 in
set_option maxHeartbeats 4000000 in
theorem keep_new (B S m : Nat) (l : List Bdd.Ch) (v : Value) (P : Nat → Nat) (c : Bdd.Ch) (w : World) (h : Sh w B S l v m P) (hc : c ∉ l) (hl : l.length ≤ 900) :
    Calls Tryd.prog 66 #[.pointer (some ⟨S, 0, none⟩), chV c] w fun e w' => KeepA w B S (l ++ [c]) (l.length : Nat) e w' := by
  have hB : B ≤ w.heap.size := Nat.le_trans h.geS (Nat.le_of_lt h.box.lt)
  have hd1 := (Below.refl w.heap.size w).alloc (Nat.le_refl _) (.cells #[.pointer (some ⟨S, 0, none⟩)] 91)
  have hd2 := hd1.alloc hd1.size (.cells #[.int .i64 c.v, .int .i64 c.no, .int .i64 c.yes] 66)
  obtain ⟨w2, hw2⟩ : ∃ w2, (w.alloc (.cells #[.pointer (some ⟨S, 0, none⟩)] 91)).alloc (.cells #[.int .i64 c.v, .int .i64 c.no, .int .i64 c.yes] 66) = w2 := ⟨_, rfl⟩
  rw [hw2] at hd2
  have h2 := h.down hd2
  have hb0 : Blk w2 w.heap.size 1 (fun _ => .pointer (some ⟨S, 0, none⟩)) 91 := by rw [← hw2]; exact (Blk.fresh w #[.pointer (some ⟨S, 0, none⟩)] 1 (fun _ => .pointer (some ⟨S, 0, none⟩)) 91 rfl).alloc _
  have hb1 : Blk w2 (w.heap.size + 1) 3 (c3f c) 66 := by
    rw [← hw2]
    have := Blk.fresh (w.alloc (.cells #[.pointer (some ⟨S, 0, none⟩)] 91)) #[.int .i64 c.v, .int .i64 c.no, .int .i64 c.yes] 3 (c3f c) 66 rfl
    simpa using this
  have al := fun o : Obj => h2.map.down ((Below.refl w2.heap.size w2).alloc (Nat.le_refl _) o)
  have l1 := look3_no h2.map c hc
  have l2 := fun o : Obj => look3_no (al o) c hc
  have l3 := look3_no (h2.map.down (Below.refl w2.heap.size w2).drew) c hc
  have l4 := fun o : Obj => look3_no ((al o).down (Below.refl _ _).drew) c hc
  have s0 := hb0.cell (show 0 < 1 by omega)
  have s1 := h2.box.cell (show 1 < 2 by omega)
  have d0 := hb1.cell (show 0 < 3 by omega)
  have d1 := hb1.cell (show 1 < 3 by omega)
  have d2 := hb1.cell (show 2 < 3 by omega)
  have as0 := fun o : Obj => (hb0.alloc o).cell (show 0 < 1 by omega)
  have as1 := fun o : Obj => (h2.box.alloc o).cell (show 1 < 2 by omega)
  have ad0 := fun o : Obj => (hb1.alloc o).cell (show 0 < 3 by omega)
  have ad1 := fun o : Obj => (hb1.alloc o).cell (show 1 < 3 by omega)
  have ad2 := fun o : Obj => (hb1.alloc o).cell (show 2 < 3 by omega)
  simp only [q2, c3f, if_true] at s1 d0 d1 d2 as1 ad0 ad1 ad2
  simp at s1 d1 d2 as1 ad1 ad2
  have HB0 := hide hb0
  have HB1 := hide hb1
  have HH := hide h
  have H2 := hide h2
  have hz2 : w2.heap.size = w.heap.size + 1 + 1 := by rw [← hw2]; simp
  have HZ := hide hz2
  have HD := hide hd2
  have Hw2 := hide hw2
  clear h h2 hd1 hd2 hb0 hb1 al hz2 hw2 hB
  go_enter Tryd.func66, Tryd.ntmps66
  go_wp2_with fail
  rw [Hw2.out]
  go_region
  obtain ⟨w3, hw3⟩ : ∃ w3, (w2.alloc (.cells #[.pointer none] 96)).drew = w3 := ⟨_, rfl⟩
  have hd3 : Below w2.heap.size w2 w3 := by rw [← hw3]; exact ((Below.refl _ _).alloc (Nat.le_refl _) _).drew
  have g3 : Blk w3 w2.heap.size 1 (fun _ => .pointer none) 96 := by rw [← hw3]; exact (Blk.fresh w2 #[.pointer none] 1 (fun _ => .pointer none) 96 rfl).drew
  have t0 := g3.cell (show 0 < 1 by omega)
  have t1 := (g3.alloc (.cells #[.int .u32 0, .int .i32 0, .int .u32 0, .int .i64 0] 110)).cell (show 0 < 1 by omega)
  have t2 := (g3.alloc (.cells #[.int .u32 0, .int .i32 0, .int .u32 0, .int .i64 0] 110)).thaw 0
  have hz3 : w3.heap.size = w2.heap.size + 1 := by rw [← hw3]; simp
  have HZ3 := hide hz3
  have HD3 := hide hd3
  have HG3 := hide g3
  rw [hw3]
  clear hw3 hd3 g3 hz3 l1 l2 l3 l4 s0 s1 d0 d1 d2 as0 as1 ad0 ad1 ad2
  go_wp2_with fail
  obtain ⟨w4, hw4⟩ : ∃ w4, (w3.alloc (.cells #[.int .u32 0, .int .i32 0, .int .u32 0, .int .i64 0] 110)).setCell ⟨w2.heap.size, 0, none⟩ (.pointer (some ⟨w3.heap.size, 0, none⟩)) = w4 := ⟨_, rfl⟩
  have hd4 : Below w2.heap.size w2 w4 := by rw [← hw4]; exact (HD3.out.alloc HD3.out.size _).setCell (p := ⟨w2.heap.size, 0, none⟩) (Nat.le_refl _) _
  have hz4 : w4.heap.size = w3.heap.size + 1 := by rw [← hw4, World.size_setCell]; simp
  have b2 : Blk w4 w2.heap.size 1 (fun _ => .pointer (some ⟨w3.heap.size, 0, none⟩)) 96 := by
    rw [← hw4]
    exact ((HG3.out.alloc _).set 0 (.pointer (some ⟨w3.heap.size, 0, none⟩))).ext (fun i hi => by obtain rfl : i = 0 := by omega
                                                                                                  rfl)
  have b3 : Blk w4 w3.heap.size 4 z4 110 := by
    rw [← hw4]
    exact (Blk.fresh w3 #[.int .u32 0, .int .i32 0, .int .u32 0, .int .i64 0] 4 z4 110 rfl).set_other (by have := HZ3.out; omega) 0 _
  have h4 := H2.out.down hd4
  have b0 := HB0.out.down hd4
  have b1 := HB1.out.down hd4
  obtain ⟨w5, hst, hm5, hk5, hz5, hos, htp, hop⟩ := store3 (w := w4.drew) (h4.map.down (Below.refl w4.heap.size w4).drew) c w3.heap.size hc
  have s0 := b0.cell (show 0 < 1 by omega)
  have s1 := h4.box.cell (show 1 < 2 by omega)
  have d0 := b1.cell (show 0 < 3 by omega)
  have d1 := b1.cell (show 1 < 3 by omega)
  have d2 := b1.cell (show 2 < 3 by omega)
  have t3 := b2.cell (show 0 < 1 by omega)
  simp only [q2, c3f, if_true] at s1 d0 d1 d2
  simp at s1 d1 d2
  have HK := hide (show (Blk w4 w.heap.size 1 (fun _ => .pointer (some ⟨S, 0, none⟩)) 91 ∧ Blk w4 (w.heap.size + 1) 3 (c3f c) 66) ∧ (Blk w4 w2.heap.size 1 (fun _ => .pointer (some ⟨w3.heap.size, 0, none⟩)) 96 ∧ Blk w4 w3.heap.size 4 z4 110) ∧ Sh w4 B S l v m P ∧ Below w2.heap.size w2 w4 ∧ w4.heap.size = w3.heap.size + 1 from ⟨⟨b0, b1⟩, ⟨b2, b3⟩, h4, hd4, hz4⟩)
  have HM := hide (show MapC w5 m (l ++ [c]) (upd P l.length w3.heap.size) ∧ (∀ k, k ≠ m → w5.heap[k]? = w4.heap[k]?) ∧ w5.heap.size = w4.heap.size ∧ w5.os = w4.os ∧ w5.tape = w4.tape ∧ w5.output = w4.output from ⟨hm5, hk5, hz5, hos, htp, hop⟩)
  rw [hw4]
  clear hw4 hd4 hz4 b0 b1 b2 b3 h4 hm5 hk5 hz5 hos htp hop t0 t1 t2 HG3 HB0 HB1
  go_region
  obtain ⟨g, hg⟩ : ∃ g, w3.heap.size = g := ⟨_, rfl⟩
  have HO := hide (show Calls Tryd.prog 68 #[.pointer (some ⟨g, 0, none⟩), .func (.func 69) #[] #[.pointer (some ⟨w.heap.size, 0, none⟩), .pointer (some ⟨w2.heap.size, 0, none⟩), .pointer (some ⟨w.heap.size + 1, 0, none⟩)]] w5 fun e w8 => e = .returned (.tuple #[]) ∧
      w8.cell? ⟨w2.heap.size, 0, none⟩ = some (.pointer (some ⟨g, 0, none⟩)) ∧ w8.cell? ⟨g, 3, none⟩ = some (.int .i64 (l.length : Int)) ∧ (∃ v m P, Sh w8 B S (l ++ [c]) v m P) ∧ Below B w w8 from by
    subst hg
    obtain ⟨⟨b0, b1⟩, ⟨b2, b3⟩, h4, hd4, hz4⟩ := HK.out
    obtain ⟨hm5, hk5, hz5, hos, htp, hop⟩ := HM.out
    have hz3 := HZ3.out
    have hz2 := HZ.out
    have hBw : B ≤ w.heap.size := Nat.le_trans HH.out.geS (Nat.le_of_lt HH.out.box.lt)
    have e0 := b0.at (hk5 _ (fun e => h4.map.apart b0 e.symm))
    have e1 := b1.at (hk5 _ (fun e => h4.map.apart b1 e.symm))
    have e2 := b2.at (hk5 _ (fun e => h4.map.apart b2 e.symm))
    have e3 := b3.at (hk5 _ (fun e => h4.map.apart b3 e.symm))
    have eS := h4.box.at (hk5 _ (fun e => h4.map.apart h4.box e.symm))
    have eR := owns_at h4.row (w' := w5) (fun q hq => hk5 q (fun e => h4.map.free h4.row (by rw [← e]; exact hq)))
    have hb5 : Below B w w5 := by
      have a1 := (HD.out.mono hBw).trans (hd4.mono (by omega))
      exact a1.trans ⟨hos, htp, hop, by omega, fun k hk => hk5 k (by have := h4.geM; omega)⟩
    have f0 := e0.set_other (e0.apart e3 (by decide)) 1 (.int .i32 1)
    have f1 := e1.set_other (e1.apart e3 (by decide)) 1 (.int .i32 1)
    have f2 := e2.set_other (e2.apart e3 (by decide)) 1 (.int .i32 1)
    have fS := eS.set_other (eS.apart e3 (by decide)) 1 (.int .i32 1)
    have f3 := e3.set 1 (.int .i32 1)
    have fR := owns_set eR e3 (by decide) 1 (.int .i32 1)
    have hF := keep_first B S w.heap.size (w.heap.size + 1) w2.heap.size w3.heap.size l.length v (.map (some m)) (fl3 l) c _ _ f0 (f2.cell (show 0 < 1 by omega)) f1 fS f3 fR (by omega) h4.geS (by omega) (by rw [World.size_setCell]; omega)
    refine (once_first w3.heap.size _ _ _ w5 _ (e3.cell (show 0 < 4 by omega)) (e3.cell (show 1 < 4 by omega)) (e3.thaw 1) hF (fun w7 h7 => ?_)).mono ?_
    · obtain ⟨_, _, _, _, p7, _, _⟩ := h7
      exact ⟨p7.cell (show 0 < 4 by omega), p7.cell (show 1 < 4 by omega), p7.thaw 0, p7.thaw 1⟩
    · rintro e w8 ⟨rfl, w7, h7, rfl⟩
      obtain ⟨v', hS8, hk8⟩ := h4.more b3 (by omega) (fun i hi => by have := (H2.out.pl i hi).lt; omega) hm5 hk5 hz5 h7
      have hl := hS8.pl l.length (by rw [List.length_append, List.length_cons, List.length_nil]; omega)
      rw [upd_same] at hl
      have hb7 := h7.choose_spec.choose_spec.2.2.2.2
      refine ⟨rfl, ?_, hl.cell (show 3 < 4 by omega), ⟨v', m, _, hS8⟩, ?_⟩
      · have hG2 : w2.heap.size < w4.heap.size := by omega
        exact (b2.at (hk8 _ hG2 (fun e => h4.map.apart b2 e.symm) (b2.apart h4.box (by decide)) (by omega) (b2.free h4.row (by decide)))).cell (show 0 < 1 by omega)
      · have a2 := hb5.trans ((Below.refl B w5).setCell (p := ⟨w3.heap.size, 1, none⟩) (by show B ≤ w3.heap.size; omega) (.int .i32 1))
        have a3 := (a2.trans hb7).drew
        exact (a3.setCell (p := ⟨w3.heap.size, 0, none⟩) (by show B ≤ w3.heap.size; omega) _).setCell (p := ⟨w3.heap.size, 1, none⟩) (by show B ≤ w3.heap.size; omega) _)
  have t4 : w5.cell? ⟨w2.heap.size, 0, none⟩ = some (.pointer (some ⟨w3.heap.size, 0, none⟩)) := (HK.out.2.1.1.at (HM.out.2.1 _ (fun e => HK.out.2.2.1.map.apart HK.out.2.1.1 e.symm))).cell (show 0 < 1 by omega)
  rw [hg] at t4 ⊢
  clear hg HK HM HH H2 HZ HD Hw2 HZ3 HD3 hst s0 t3 d0 d1 d2 s1
  go_wp2_with (go_at_call 68; refine HO.out.mono ?_; rintro e w8 ⟨rfl, y0, y1, y2, y3⟩)
  go_ret
  exact ⟨rfl, y2, y3⟩
end Go.Proofs.YtfiooclkefmijaaDoor

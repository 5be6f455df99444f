/-
  ItemsOf in both texts: the items of a row of events.
-/
import Derived.Test.YtbajiamkgffhkaaDoorItQ
import Derived.Test.YtbajiamkgffhkaaDoorItV
import Derived.Test.YtbajiamkgffhkaaDoorEvM
namespace Go.Proofs.YtbajiamkgffhkaaDoor
open Go.RowKit M
open Clk (upd upd_same upd_other)
open Go.Sort (grow)
namespace M
/-- What ItemsOf answers. -/
def IP (w w' : World) (es : List Ev) (e : Ending) : Prop :=
  ((IOk es ∧ ∃ r, e = .returned (.tuple #[r, .bool true]) ∧ AnsT w' w.heap.size r (ga es es.length).1 (ga es es.length).2) ∨ (¬ IOk es ∧ e = .returned (.tuple #[.slice none 0 0, .bool false]))) ∧ Below w.heap.size w w'
theorem AnsT.room {w : World} {B n : Nat} {r : Value} {l : Nat → Im} (h : AnsT w B r n l) : ∃ a c, r = .slice a n c ∧ n ≤ c := by
  rcases h with ⟨rfl, rfl⟩ | ⟨b, c, rfl, _, hk⟩
  · exact ⟨_, _, rfl, Nat.le_refl _⟩
  · exact ⟨_, _, rfl, hk.1⟩
/-- A box of four cells that holds an event. -/
def EB (w : World) (g : Nat) (e : Ev) : Prop := w.heap[g]? = some (.cells #[.int .i64 e.id, .int .i64 e.ver, .int .i64 e.kind, .string e.name] 37 (0, 0))
theorem EB.new (w : World) (e : Ev) : EB (w.alloc (.cells #[.int .i64 e.id, .int .i64 e.ver, .int .i64 e.kind, .string e.name] 37)) w.heap.size e := heap_alloc_new w _
theorem EB.down {w w' : World} {g : Nat} {e : Ev} (h : EB w g e) (hb : Below w.heap.size w w') : EB w' g e := blk_below h hb
theorem EB.cells {w : World} {g : Nat} {e : Ev} (h : EB w g e) : EvAt w g 0 e := by
  unfold EB at h
  refine ⟨?_, ?_, ?_, ?_⟩ <;> simp [World.cell?, h]
end M
set_option maxRecDepth 20000 in
set_option maxHeartbeats 4000000 in
theorem impl_itemsOf (v : Value) (es : List Ev) (w : World) (hv : SliceOf w v es) (hlen : es.length ≤ 1048576) (hnm : ∀ e ∈ es, e.name.size ≤ maxLen) (hkk : KK w) :
    Calls Tryd.prog 8 #[v] w fun e w' => IP w w' es e := by
  obtain ⟨a, cap, rfl, hr⟩ := hv
  have HR := hide hr
  have HNM := hide hnm
  have HKK := hide hkk
  clear hr hnm hkk
  by_cases h60 : es.length ≤ 60
  case neg =>
    have hd : decide ((es.length : Int) > 60) = true := decide_eq_true (by omega)
    have hng : (es.length : Int) > 60 := by omega
    have HN := hide (show ¬ IOk es from fun h => h60 h.1)
    clear HR HNM HKK
    go_enter Tryd.func8, Tryd.ntmps8
    go_wp2
    go_ret2
    exact ⟨.inr ⟨HN.out, rfl⟩, Below.refl _ _⟩
  have hd : decide ((es.length : Int) > 60) = false := decide_eq_false (by omega)
  have hng : ¬ (es.length : Int) > 60 := by omega
  go_enter Tryd.func8, Tryd.ntmps8
  go_wp2
  go_loopw [4, 14] (fun o i wr => ∃ (k n c : Nat) (ao : Option Addr), k ≤ es.length ∧ i = .int .i64 k ∧ o = .slice ao n c ∧ n ≤ c ∧ n ≤ 20 ∧ Hid (n = (ga es k).1 ∧ AnsT wr w.heap.size (.slice ao n c) n (ga es k).2) ∧ Hid (Pf es k) ∧ Below w.heap.size w wr) (fun _ i _ => es.length - (intOf i).toNat)
  case atStart => exact ⟨0, 0, 0, none, Nat.zero_le _, rfl, rfl, Nat.le_refl _, by omega, hide ⟨rfl, .inl ⟨rfl, rfl⟩⟩, hide (fun i e h => absurd h (by omega)), Below.refl _ _⟩
  case round =>
    obtain ⟨k, n, c, ao, hk, rfl, rfl, hnc, hn20, HO, HP, hbw⟩ := hrel
    by_cases hlt : k < es.length
    · obtain ⟨b, off, rfl, hb, hrow⟩ := HR.out (by intro h; subst h; simp at hlt)
      obtain ⟨x, hx⟩ : ∃ x, es[k]? = some x := ⟨es[k], List.getElem?_eq_getElem hlt⟩
      obtain ⟨c0, c1, c2, c3⟩ := (hrow k x hx).below hbw hb
      have HXN := hide (HNM.out x (List.mem_of_getElem? hx))
      have HX := hide hx
      have hdx := (Below.refl wr.heap.size wr).alloc (Nat.le_refl _) (.cells #[.int .i64 x.id, .int .i64 x.ver, .int .i64 x.kind, .string x.name] 37)
      have hbw2 := hbw.trans (hdx.mono hbw.size)
      have HEB := hide (EB.new wr x)
      have HO2 := hide (HO.out.2.down hdx)
      have HNE := hide HO.out.1
      obtain ⟨l, hl⟩ : ∃ l, (ga es k).2 = l := ⟨_, rfl⟩
      have HLE := hide hl
      rw [hl] at HO2
      clear HR hrow hx HO hl
      go_wp2_with fail
      refine (impl_append ao n c l x.id x.ver _ HO2.out.items hnc (by omega)).mono ?_
      rintro e w2 ⟨hA, hb2⟩
      have hB2 := hbw2.trans (hb2.mono hbw2.size)
      have HE2 := hide (HEB.out.down hb2)
      obtain ⟨d0, d1, d2, d3⟩ := HE2.out.cells
      simp only [Nat.zero_add] at d1 d2 d3
      rcases hA with ⟨hG, r, rfl, hAT⟩ | ⟨hG, rfl⟩
      · cases hok : x.ok
        · have HN := hide (step_no hlt HX.out (fun h => by rw [hok] at h; cases h.2))
          obtain ⟨ar, cr, rfl⟩ := hAT.form
          clear HEB HO2 hb2 hAT HE2 hbw2 hdx
          go_wp2_with fail
          refine (impl_good _ _ _ _ _ HXN.out (HKK.out.below hB2)).mono ?_
          rintro e w3 ⟨rfl, hb3⟩
          rw [show goodB x.id x.ver x.kind x.name = false from hok]
          have hB3 := hB2.trans (hb3.mono hB2.size)
          clear hb3 hB2 HXN HKK HNM
          go_wp2
          go_ret2
          exact ⟨.inr ⟨HN.out, rfl⟩, hB3⟩
        · have HG2 := hide (show GoodP (ga es k).1 (ga es k).2 x.id x.ver by rw [← HNE.out, HLE.out]; exact hG)
          have HP2 := hide (step_yes hlt HP.out HX.out HG2.out hok)
          have HS := hide (ga_succ HX.out)
          have hrm := hAT.room
          obtain ⟨ar, cr, rfl, hnr⟩ := hrm
          have h20 := hG.2.2.1
          have hAT2 := hAT.mono hbw2.size
          have HAT := hide hAT2
          clear HEB HO2 hb2 hAT HE2 hAT2 hdx hG hbw2
          go_wp2_with fail
          refine (impl_good _ _ _ _ _ HXN.out (HKK.out.below hB2)).mono ?_
          rintro e w3 ⟨rfl, hb3⟩
          rw [show goodB x.id x.ver x.kind x.name = true from hok]
          have hB3 := hB2.trans (hb3.mono hB2.size)
          have HAT3 := hide (HAT.out.down hb3)
          have HFin := hide (show kpt n l x.ver + 1 = (ga es (k + 1)).1 ∧ AnsT w3 w.heap.size (.slice ar (kpt n l x.ver + 1) cr) (kpt n l x.ver + 1) (ga es (k + 1)).2 from by
            rw [HS.out, ← HNE.out, HLE.out]; exact ⟨rfl, HAT3.out⟩)
          clear hb3 hB2 HXN HNM HAT HAT3 HS HG2 HP HLE HNE
          generalize kpt n l x.ver + 1 = n2 at *
          go_wp2
          exact ⟨⟨k + 1, n2, cr, ar, by omega, by go_num, rfl, hnr, h20, HFin, HP2, hB3⟩, by simp [intOf]; omega⟩
      · have HN := hide (step_no hlt HX.out (fun h => hG (by have := h.1; rw [← HNE.out, HLE.out] at this; exact this)))
        clear HEB HO2 hb2 HE2 hdx hG hbw2 HNM HKK HXN HP
        go_wp2
        go_ret2
        exact ⟨.inr ⟨HN.out, rfl⟩, hB2⟩
    · obtain rfl : k = es.length := by omega
      have HFin := hide (show IOk es ∧ AnsT wr w.heap.size (.slice ao n c) (ga es es.length).1 (ga es es.length).2 from ⟨⟨h60, HP.out, by have := HO.out.1; omega⟩, by have := HO.out.2; rwa [HO.out.1] at this ⊢⟩)
      clear HR HNM HKK HO HP
      go_wp2
      go_ret2
      exact ⟨.inl ⟨HFin.out.1, _, rfl, HFin.out.2⟩, hbw⟩
end Go.Proofs.YtbajiamkgffhkaaDoor

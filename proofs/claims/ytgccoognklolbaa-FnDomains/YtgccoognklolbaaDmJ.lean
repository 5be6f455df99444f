/-
  What is known of domains is put together in any order, as often as one likes; who failed over last leads: plain mathematics.
-/
import Derived.Test.YtgccoognklolbaaDmK
import Derived.Test.YtgccoognklolbaaVsC
namespace Go.Proofs.Ytgccoognklolbaa
open Go.RowKit M
namespace M
theorem lsD_irr (x : Dm) : lsD x x = false := by
  rw [← Bool.not_eq_true, lsD_iff]
  rintro (h | ⟨_, h⟩)
  · omega
  · rw [lt_irr] at h; cases h
theorem lsD_asym {x y : Dm} (h : lsD x y = true) : lsD y x = false := by
  rw [lsD_iff] at h
  rw [← Bool.not_eq_true, lsD_iff]
  rintro (k | ⟨k, k2⟩)
  · rcases h with h | ⟨h, _⟩ <;> omega
  · rcases h with h | ⟨_, h⟩
    · omega
    · rw [lt_asym h] at k2; cases k2
theorem nw_comm {x y : Dm} (h : x.nm = y.nm) : nw x y = nw y x := by
  cases h1 : lsD x y
  · cases h2 : lsD y x
    · have e : nw x y = y := (nw_right h).2 h2
      have e2 : nw x y = x := by unfold nw; rw [if_neg (by rw [h1]; simp)]
      have e3 : x = y := by rw [← e2, e]
      rw [e3]
    · unfold nw; rw [if_neg (by rw [h1]; simp), if_pos h2]
  · have h2 := lsD_asym h1
    unfold nw; rw [if_pos h1, if_neg (by rw [h2]; simp)]
theorem mrg_comm : ∀ (n : Nat) (a b : Dms), a.length + b.length ≤ n → mrg a b = mrg b a
  | _, [], b, _ => by rw [mrg_nil, mrg_nil2]
  | _, x :: a, [], _ => by rw [mrg_nil, mrg_nil2]
  | 0, x :: a, y :: b, hn => by simp at hn
  | n + 1, x :: a, y :: b, hn => by
    simp only [List.length_cons] at hn
    rcases lt_tri x.nm y.nm with c | c | c
    · rw [mrg_lt c, mrg_gt c, mrg_comm n a (y :: b) (by simp; omega)]
    · rw [mrg_eq c, mrg_eq c.symm, mrg_comm n a b (by omega), nw_comm c]
    · rw [mrg_gt c, mrg_lt c, mrg_comm n (x :: a) b (by simp; omega)]
theorem mrg_sym (a b : Dms) : mrg a b = mrg b a := mrg_comm _ a b (Nat.le_refl _)
theorem good_of {l : Dms} (h : Rise (nms l)) (hg : ∀ d ∈ l, gD d) (hl : l.length ≤ 12) : GoodDm l := by
  refine ⟨hl, fun i _ d hd => ⟨hg d (List.mem_of_getElem? hd), fun k e hk he => ?_⟩⟩
  subst hk
  exact h k _ _ (nms_at he) (nms_at hd)
theorem mrg_good {a b : Dms} (ha : GoodDm a) (hb : GoodDm b) (hl : (mrg a b).length ≤ 12) : GoodDm (mrg a b) := by
  have e := fo_mrg _ a b (Nat.le_refl _) ha.rid hb.rid
  rw [← e] at hl ⊢
  refine good_of (RiD.fo (b := b) ha.rid).rise (fun d hd => ?_) hl
  rcases fo_from hd with k | k
  · exact ha.good d k
  · exact hb.good d k
theorem kn_left : ∀ (n : Nat) (a b : Dms), a.length + b.length ≤ n → Kn a (mrg a b)
  | _, [], _, _ => fun x hx => by simp at hx
  | _, x :: a, [], _ => by
    rw [mrg_nil2]
    exact fun z hz => ⟨z, hz, rfl, lsD_irr z⟩
  | 0, x :: a, y :: b, hn => by simp at hn
  | n + 1, x :: a, y :: b, hn => by
    simp only [List.length_cons] at hn
    rcases lt_tri x.nm y.nm with c | c | c
    · rw [mrg_lt c]
      intro z hz
      rcases List.mem_cons.1 hz with k | k
      · exact ⟨x, by simp, by rw [k], by rw [k]; exact lsD_irr x⟩
      · obtain ⟨u, hu, h1⟩ := kn_left n a (y :: b) (by simp; omega) z k
        exact ⟨u, by simp [hu], h1⟩
    · rw [mrg_eq c]
      intro z hz
      rcases List.mem_cons.1 hz with k | k
      · subst k
        refine ⟨nw z y, by simp, nw_nm c, ?_⟩
        unfold nw
        split
        · rename_i h; exact lsD_asym h
        · exact lsD_irr z
      · obtain ⟨u, hu, h1⟩ := kn_left n a b (by omega) z k
        exact ⟨u, by simp [hu], h1⟩
    · rw [mrg_gt c]
      intro z hz
      obtain ⟨u, hu, h1⟩ := kn_left n (x :: a) b (by simp; omega) z hz
      exact ⟨u, by simp [hu], h1⟩
theorem kn_self (a : Dms) : Kn a a := fun x hx => ⟨x, hx, rfl, lsD_irr x⟩
theorem mgb_sym (a b : Dms) : mgb b a = mgb a b ∧ mga b a = mga a b := by
  have h : mgb b a = mgb a b := by
    unfold mgb
    rw [mrg_sym b a, ← Bool.and_assoc, ← Bool.and_assoc, Bool.and_comm (gdB b) (gdB a)]
  exact ⟨h, by unfold mga; rw [h, mrg_sym b a]⟩
theorem mgb_good {a b : Dms} (h : mgb a b = true) : GoodDm a ∧ GoodDm b ∧ GoodDm (mrg a b) := by
  have h0 := h
  unfold mgb at h
  rw [Bool.and_eq_true, Bool.and_eq_true, decide_eq_true_eq] at h
  have ha := gdB_of h.1
  have hb := gdB_of h.2.1
  exact ⟨ha, hb, mrg_good ha hb h.2.2⟩
theorem mgb_of {a b : Dms} (ha : GoodDm a) (hb : GoodDm b) (hk : Kn a b) : mgb a b = true ∧ mga a b = b := by
  have e : mrg a b = b := (mrg_kn _ a b (Nat.le_refl _) ha.rid hb.rid).2 hk
  have h : mgb a b = true := by
    unfold mgb
    rw [gdB_yes ha, gdB_yes hb, e, decide_eq_true hb.1]; rfl
  exact ⟨h, by rw [mga_yes h, e]⟩
theorem kn_of {a b : Dms} (ha : GoodDm a) (hb : GoodDm b) (hk : Kn a b) : kgb a b = true ∧ knb a b = true := by
  have h : kgb a b = true := by unfold kgb; rw [gdB_yes ha, gdB_yes hb]; rfl
  exact ⟨h, knb_iff h ⟨fun _ => hk, fun _ => rfl⟩⟩
theorem kn_not {a b : Dms} (ha : GoodDm a) (hb : GoodDm b) (hk : ¬ Kn a b) : kgb a b = true ∧ knb a b = false := by
  have h : kgb a b = true := by unfold kgb; rw [gdB_yes ha, gdB_yes hb]; rfl
  exact ⟨h, knb_iff h ⟨fun e => (by cases e), fun e => absurd e hk⟩⟩
/-- What is put together: all that the law asks of it. -/
theorem merged {a b : Dms} (h : mgb a b = true) :
    (mgb (mga a b) (mga a b) = true ∧ mga (mga a b) (mga a b) = mga a b) ∧ (kgb a (mga a b) = true ∧ knb a (mga a b) = true) ∧ (kgb b (mga a b) = true ∧ knb b (mga a b) = true) ∧ (mgb (mga a b) a = true ∧ mga (mga a b) a = mga a b) := by
  obtain ⟨ha, hb, hm⟩ := mgb_good h
  rw [mga_yes h]
  have k1 : Kn a (mrg a b) := kn_left _ a b (Nat.le_refl _)
  have k2 : Kn b (mrg a b) := by rw [mrg_sym a b]; exact kn_left _ b a (Nat.le_refl _)
  have k3 := mgb_of ha hm k1
  refine ⟨mgb_of hm hm (kn_self _), kn_of ha hm k1, kn_of hb hm k2, ?_⟩
  have s := mgb_sym a (mrg a b)
  rw [s.1, s.2]; exact k3
theorem nms_set {l : Dms} {k : Nat} {d e : Dm} (hd : l[k]? = some d) (he : e.nm = d.nm) : nms (l.set k e) = nms l := by
  unfold nms
  rw [List.map_set, he]
  apply List.ext_getElem?
  intro i
  rw [List.getElem?_set]
  split
  · rename_i h
    subst h
    rw [List.getElem?_map, hd]
    have := ltD hd
    simp [this]
  · rfl
/-- Who failed over last leads. -/
theorem failed {l : Dms} {x : ByteArray} {r : Int} (h : fob l x r = true) :
    (dvb (foa l x r) x = true ∧ lda (foa l x r) x = r) ∧ (kgb l (foa l x r) = true ∧ knb l (foa l x r) = true) ∧ (kgb (foa l x r) l = true ∧ knb (foa l x r) l = false) := by
  rw [foa_yes h]
  unfold fob at h
  rw [Bool.and_eq_true] at h
  obtain ⟨hg, hd, hx⟩ := dvb_at h.1
  obtain ⟨h1, h2, h3⟩ := nxb_iff.1 h.2
  have hgt := nx_gt (v := (dvv l x).ver) h2.1 h2.2
  have hlf := nx_left (v := (dvv l x).ver) h2.1 h2.2
  generalize dvv l x = d at *
  generalize hz : nx d.ver r = z at *
  obtain ⟨d', hd'⟩ : ∃ d' : Dm, d' = ⟨d.nm, z, d.nt⟩ := ⟨_, rfl⟩
  rw [← hd']
  have hn' : d'.nm = d.nm := by rw [hd']
  have hv' : d'.ver = z := by rw [hd']
  have hk := ltD hd
  have hnm := nms_set (e := d') hd hn'
  have hgd := hg.good d (List.mem_of_getElem? hd)
  have hgf : GoodDm (l.set (pl l x) d') := by
    refine good_of (by rw [hnm]; exact hg.rise) (fun e he => ?_) (by rw [List.length_set]; exact hg.1)
    rcases List.mem_or_eq_of_mem_set he with k | k
    · exact hg.good e k
    · rw [k, hd']; exact ⟨hgd.1, hgd.2.1, inB_iff.2 ⟨by show 0 ≤ z; omega, by show z ≤ 1000000; omega⟩, hgd.2.2.2⟩
  have hat : (l.set (pl l x) d')[pl l x]? = some d' := at_set hk d'
  have hfd := dvv_found hgf hat
  rw [hn', hx] at hfd
  refine ⟨⟨hfd.1, by rw [lda_yes hfd.1, hfd.2.1, hv', hlf]⟩, kn_of hg hgf (fun e he => ?_), kn_not hgf hg (fun hkn => ?_)⟩
  · obtain ⟨i, hi⟩ := List.mem_iff_getElem?.1 he
    by_cases hik : i = pl l x
    · rw [hik, hd] at hi
      simp only [Option.some.injEq] at hi
      subst hi
      refine ⟨d', List.mem_of_getElem? hat, hn', ?_⟩
      rw [← Bool.not_eq_true, lsD_iff]
      rintro (k | ⟨k, _⟩) <;> omega
    · refine ⟨e, List.mem_iff_getElem?.2 ⟨i, ?_⟩, rfl, lsD_irr e⟩
      rw [List.getElem?_set, if_neg (fun c => hik c.symm)]; exact hi
  · obtain ⟨y, hy, e1, e2⟩ := hkn d' (List.mem_of_getElem? hat)
    obtain ⟨i, hi⟩ := List.mem_iff_getElem?.1 hy
    have p1 := (at_place hg.rise hi).1
    rw [e1, hn', hx] at p1
    rw [← p1, hd] at hi
    simp only [Option.some.injEq] at hi
    subst hi
    have : lsD d d' = true := (lsD_iff _ _).2 (.inl (by omega))
    rw [this] at e2; cases e2
end M
end Go.Proofs.Ytgccoognklolbaa

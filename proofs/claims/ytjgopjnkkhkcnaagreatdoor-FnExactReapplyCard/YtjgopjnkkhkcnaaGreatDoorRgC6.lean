/-
  The law of Reapply: both texts tell the same. Condition: the table knownKinds reads as the program's text lays it.
-/
import Derived.Test.YtjgopjnkkhkcnaaGreatDoorRgL6
import Derived.Test.YtjgopjnkkhkcnaaGreatDoorRgQi
import Derived.Test.YtjgopjnkkhkcnaaGreatDoorRgQs
namespace Go.Proofs.YtjgopjnkkhkcnaaGreatDoor
open Go.RowKit M
theorem law_reapply (id ver : Int) (v : Value) (bs : Brs) (w : World) (hv : BrsOf w v bs) (hf : Fine bs) (hkk : KK w) :
    Calls Tryz.prog 6 #[rv id ver v] w fun e w' => e = .returned (.bool true) ∧ Below w.heap.size w w' :=
  law_Reapply_run id ver v bs w hv hf hkk (fun hs => by
    obtain ⟨my, hmy⟩ : ∃ my : St → Ev → Bool, ∀ s e, BP (my s e) (May s e) :=
      ⟨fun s e => Classical.choose (bp_ex (May s e)), fun s e => Classical.choose_spec (bp_ex (May s e))⟩
    obtain ⟨b, hb⟩ := bp_ex (GdR ⟨id, ver, bs⟩)
    cases hc : (b && (rgv ver == id))
    · exact ⟨0, 0, [], 0, false, by simp, fun v w h hco => spec_reap_no id ver v bs b w h hs hco hb hc, fun v w h hk => impl_reap_no id ver v bs b w h hs hk hb hc⟩
    · rw [Bool.and_eq_true] at hc
      have hg : GdR ⟨id, ver, bs⟩ := hb.1 hc.1
      have hg2 : GdR ⟨id, ver, (rpA my ⟨id, ver, bs⟩).1⟩ := rpl_good hmy _ _ hg
      exact ⟨id, ver, (rpA my ⟨id, ver, bs⟩).1, ((rpA my ⟨id, ver, bs⟩).2 : Int), true, ⟨hg2.2.2.1.1, fun b hb' => ⟨(hg2.2.2.1.2.1 b hb').short, (hg2.2.2.1.2.1 b hb').names⟩⟩, fun v w h hco => spec_reap_ok my hmy id ver v bs w h hs hco hg hc.2, fun v w h hk => impl_reap_ok my hmy id ver v bs w h hs hk hg hc.2⟩)
end Go.Proofs.YtjgopjnkkhkcnaaGreatDoor

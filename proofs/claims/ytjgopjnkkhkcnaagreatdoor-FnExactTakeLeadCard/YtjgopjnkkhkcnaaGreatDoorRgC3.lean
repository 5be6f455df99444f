/-
  The law of TakeLead: both texts tell the same. Condition: the table knownKinds reads as the program's text lays it.
-/
import Derived.Test.YtjgopjnkkhkcnaaGreatDoorRgL3
import Derived.Test.YtjgopjnkkhkcnaaGreatDoorRgD
import Derived.Test.YtjgopjnkkhkcnaaGreatDoorRgDs
namespace Go.Proofs.YtjgopjnkkhkcnaaGreatDoor
open Go.RowKit M
theorem law_takeLead (id ver : Int) (v : Value) (bs : Brs) (w : World) (hv : BrsOf w v bs) (hf : Fine bs) (hkk : KK w) :
    Calls Tryz.prog 4 #[rv id ver v] w fun e w' => e = .returned (.bool true) ∧ Below w.heap.size w w' :=
  law_TakeLead_run id ver v bs w hv hf hkk (fun hs => by
    obtain ⟨b, hb⟩ := bp_ex (GdR ⟨id, ver, bs⟩)
    cases hc : (b && nxb ver id)
    · exact ⟨0, 0, [], false, by simp, fun v w h hco => spec_lead_no id ver v bs b w h hs hco hb hc, fun v w h hk => impl_lead_no id ver v bs b w h hs hk hb hc⟩
    · rw [Bool.and_eq_true] at hc
      have hg : GdR ⟨id, ver, bs⟩ := hb.1 hc.1
      exact ⟨id, nx ver id, bs, true, ⟨hg.2.2.1.1, fun b hb' => ⟨(hg.2.2.1.2.1 b hb').short, (hg.2.2.1.2.1 b hb').names⟩⟩, fun v w h hco => spec_lead_ok id ver v bs w h hs hco hg hc.2, fun v w h hk => impl_lead_ok id ver v bs w h hs hk hg hc.2⟩)
end Go.Proofs.YtjgopjnkkhkcnaaGreatDoor

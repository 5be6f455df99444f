/-
  The law of WordOf: both texts tell the same. Condition: the table knownKinds reads as the program's text lays it.
-/
import Derived.Test.YtjgopjnkkhkcnaaGreatDoorRgL4
import Derived.Test.YtjgopjnkkhkcnaaGreatDoorRgE
namespace Go.Proofs.YtjgopjnkkhkcnaaGreatDoor
open Go.RowKit M
theorem law_wordOf (id ver : Int) (v : Value) (bs : Brs) (w : World) (hv : BrsOf w v bs) (hf : Fine bs) (hkk : KK w) :
    Calls Tryz.prog 5 #[rv id ver v] w fun e w' => e = .returned (.bool true) ∧ Below w.heap.size w w' :=
  law_WordOf_run id ver v bs w hv hf hkk (fun hs => by
    obtain ⟨b, hb⟩ := bp_ex (GdR ⟨id, ver, bs⟩)
    cases b
    · exact ⟨0, [], false, by simp, fun v w h hco => spec_word_no id ver v bs w h hs hco hb, fun v w h hk => impl_word_no id ver v bs w h hs hk hb⟩
    · have hg : GdR ⟨id, ver, bs⟩ := hb.1 rfl
      exact ⟨ver, bs, true, ⟨hg.2.2.1.1, fun b hb' => ⟨(hg.2.2.1.2.1 b hb').short, (hg.2.2.1.2.1 b hb').names⟩⟩, fun v w h hco => spec_word_ok id ver v bs w h hs hco hg, fun v w h hk => impl_word_ok id ver v bs w h hs hk hg⟩)
end Go.Proofs.YtjgopjnkkhkcnaaGreatDoor

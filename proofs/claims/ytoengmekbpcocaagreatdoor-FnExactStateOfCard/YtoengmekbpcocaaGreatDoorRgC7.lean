/-
  The law of StateOf: both texts tell the same. Condition: the table knownKinds reads as the program's text lays it.
-/
import Derived.Test.YtoengmekbpcocaaGreatDoorRgL7
namespace Go.Proofs.YtoengmekbpcocaaGreatDoor
open Go.RowKit M
theorem law_stateOf (id ver : Int) (v : Value) (bs : Brs) (w : World) (hv : BrsOf w v bs) (hf : Fine bs) (hkk : KK w) :
    Calls Tryz.prog 10 #[rv id ver v] w fun e w' => e = .returned (.bool true) ∧ Below w.heap.size w w' :=
  law_StateOf_run id ver v bs w hv hf hkk (fun hs => by
    obtain ⟨b, hb⟩ := bp_ex (GdR ⟨id, ver, bs⟩)
    cases b
    · exact ⟨zst, false, ⟨Nat.zero_le _, Nat.zero_le _⟩, fun v w h hco => spec_state_no id ver v bs w h hs hco hb, fun v w h hk => impl_state_no id ver v bs w h hs hk hb⟩
    · have hg : GdR ⟨id, ver, bs⟩ := hb.1 rfl
      exact ⟨stB bs, true, (good_short (stB_good hg.2.2.1)).1, fun v w h hco => spec_state_ok id ver v bs w h hs hco hg, fun v w h hk => impl_state_ok id ver v bs w h hs hk hg⟩)
end Go.Proofs.YtoengmekbpcocaaGreatDoor

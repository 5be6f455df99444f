/-
  The law of HearWord: both texts tell the same. Condition: the table knownKinds reads as the program's text lays it.
-/
import Derived.Test.YtoengmekbpcocaaGreatDoorRgL8
import Derived.Test.YtoengmekbpcocaaGreatDoorRgI
namespace Go.Proofs.YtoengmekbpcocaaGreatDoor
open Go.RowKit M
theorem law_hearWord (id ver : Int) (v : Value) (bs : Brs) (wver : Int) (u : Value) (ys : Brs) (w : World) (hv : BrsOf w v bs) (hf : Fine bs) (hu : BrsOf w u ys) (hf2 : Fine ys) (hkk : KK w) :
    Calls Tryz.prog 8 #[rv id ver v, wv wver u] w fun e w' => e = .returned (.bool true) ∧ Below w.heap.size w w' :=
  law_HearWord_run id ver v bs wver u ys w hv hf hu hf2 hkk (fun hs hs2 => by
    obtain ⟨b, hb⟩ := bp_ex (GdR ⟨id, ver, bs⟩)
    cases b
    · exact ⟨0, 0, [], false, by simp, fun v u w h hco h2 hco2 => spec_hear_no id ver v bs wver u ys w h hs h2 hs2 hco hco2 hb, fun v u w h h2 hk => impl_hear_no id ver v bs wver u ys w h hs h2 hs2 hk hb⟩
    have hg : GdR ⟨id, ver, bs⟩ := hb.1 rfl
    obtain ⟨c, hc⟩ := bp_ex (GdW wver ys)
    cases c
    · exact ⟨0, 0, [], false, by simp, fun v u w h hco h2 hco2 => spec_hear_word id ver v bs wver u ys w h hs h2 hs2 hco hco2 hg hc, fun v u w h h2 hk => impl_hear_word id ver v bs wver u ys w h hs h2 hs2 hk hg hc⟩
    have hw : GdW wver ys := hc.1 rfl
    by_cases hm : (mge bs ys).length ≤ 12
    case neg => exact ⟨0, 0, [], false, by simp, fun v u w h hco h2 hco2 => spec_hear_many id ver v bs wver u ys w h hs h2 hs2 hco hco2 hg hw hm, fun v u w h h2 hk => impl_hear_many id ver v bs wver u ys w h hs h2 hs2 hk hg hw hm⟩
    have h2 : GdU (mge bs ys) := mge_good hg.2.2.1.2 hw.2.1.2.1
    exact ⟨id, (if ver < wver then wver else ver), mge bs ys, true, ⟨hm, fun b hb => ⟨(h2.1 b hb).short, (h2.1 b hb).names⟩⟩, fun v u w h hco h2 hco2 => spec_hear_ok id ver v bs wver u ys w h hs h2 hs2 hco hco2 hg hw hm, fun v u w h h2 hk => impl_hear_ok id ver v bs wver u ys w h hs h2 hs2 hk hg hw hm⟩)
end Go.Proofs.YtoengmekbpcocaaGreatDoor

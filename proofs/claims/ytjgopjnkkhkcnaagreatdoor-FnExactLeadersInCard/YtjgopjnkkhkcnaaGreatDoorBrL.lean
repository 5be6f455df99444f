/-
  The laws of chapter 15 whose answers are numbers and bools, walked: they return true and turn nothing that was there, wherever both texts tell the same.
-/
import Derived.Test.YtjgopjnkkhkcnaaGreatDoorBrHs
import Derived.Deep.RegionWith
namespace Go.Proofs.YtjgopjnkkhkcnaaGreatDoor
open Go.RowKit M
open Go.Sort (grow)
namespace M
def SmE (es : Evs) : Prop := es.length ≤ 1048576 ∧ ∀ e ∈ es, e.name.size ≤ maxLen
theorem sm_e {es : Evs} (h : ∀ e ∈ es, e.name.size ≤ maxLen) (hl : wt es ≤ 1048576) : SmE es := ⟨by unfold wt at hl; omega, h⟩
theorem fine_small {bs : Brs} (h : Fine bs) (hl : bs.length + wb bs ≤ 1048576) : FineS bs := ⟨by omega, fun b hb => ⟨by
  have := wb_mem hb
  unfold wt at this; omega, (h.2 b hb).2⟩⟩
end M
end Go.Proofs.YtjgopjnkkhkcnaaGreatDoor

/-
  The law of TakeCall: both texts tell the same. Condition: the table knownKinds reads as the program's text lays it.
-/
import Derived.Test.YtjgopjnkkhkcnaaGreatDoorRgL5
import Derived.Test.YtjgopjnkkhkcnaaGreatDoorRgF
import Derived.Test.YtjgopjnkkhkcnaaGreatDoorRgG3
namespace Go.Proofs.YtjgopjnkkhkcnaaGreatDoor
open Go.RowKit M
set_option maxRecDepth 20000 in
theorem law_takeCall (id ver : Int) (v : Value) (bs : Brs) (kd : Int) (xn : ByteArray) (w : World) (hv : BrsOf w v bs) (hf : Fine bs) (hx : xn.size ≤ maxLen) (hkk : KK w) :
    Calls Tryz.prog 3 #[rv id ver v, .int .i64 kd, .string xn] w fun e w' => e = .returned (.bool true) ∧ Below w.heap.size w w' := by
  by_cases hsn : xn.size ≤ 1048576
  case neg =>
    have hgt : (1048576 : Int) < (xn.size : Int) := by omega
    have hyt := hx
    unfold maxLen at hyt
    obtain ⟨a, c, rfl⟩ := hv.form
    have hb0 := low1 w (.cells #[.int .i64 id, .int .i64 ver, .slice a bs.length c] 26)
    clear hv hf hkk
    go_enter Tryz.func3, Tryz.ntmps3
    go_wp2
    go_ret
    exact ⟨rfl, hb0⟩
  refine law_TakeCall_run id ver v bs kd xn w hv hf hkk hsn (fun hs => ?_)
  obtain ⟨my, hmy⟩ : ∃ my : St → Ev → Bool, ∀ s e, BP (my s e) (May s e) :=
    ⟨fun s e => Classical.choose (bp_ex (May s e)), fun s e => Classical.choose_spec (bp_ex (May s e))⟩
  obtain ⟨b, hb⟩ := bp_ex (GdR ⟨id, ver, bs⟩)
  cases b
  · exact ⟨0, 0, [], 1, by simp, fun v w h hco => spec_take_no id ver v bs kd xn w h hs hco hb, fun v w h hk => impl_call_no id ver v bs kd xn w h hs hk hb⟩
  · have hg : GdR ⟨id, ver, bs⟩ := hb.1 rfl
    have hg2 : GdR ⟨id, ver, tkb my ⟨id, ver, bs⟩ kd xn⟩ := tkb_good hmy hg
    exact ⟨id, ver, tkb my ⟨id, ver, bs⟩ kd xn, tkc my ⟨id, ver, bs⟩ kd xn, ⟨hg2.2.2.1.1, fun b hb' => ⟨(hg2.2.2.1.2.1 b hb').short, (hg2.2.2.1.2.1 b hb').names⟩⟩, fun v w h hco => spec_take_ok my hmy id ver v bs kd xn w h hs hco hg hx, fun v w h hk => impl_call_ok my hmy id ver v bs kd xn w h hs hk hg hx⟩
end Go.Proofs.YtjgopjnkkhkcnaaGreatDoor

/-
  What the laws of TickWheel and AdvanceWheel keep: Drop's, and a list of numbers beside it.
-/
import Derived.Test.YtcodllammndciaaWhLK
namespace Go.Proofs.Ytcodllammndciaa
open Go.RowKit M
open Clk (upd upd_same upd_other)
namespace M
def DG (w A W : World) (x : Int) (v : Value) (g0 : Nat) (x' : Int) (us : Value) (H : Nat) (ux : Value) (k : Nat) (rs : Nat → Rw) (gG Bg hg : Nat) (u1 : Value) (k' : Nat) (rs' : Nat → Rw) (r1 : Value) (q : Nat) (f : Nat → Int) : Prop :=
  DF w A W x v g0 x' us H ux k rs gG Bg hg u1 k' rs' ∧ AnsC W Bg r1 q f
theorem DG.down {w A W : World} {x : Int} {v : Value} {g0 : Nat} {x' : Int} {us : Value} {H : Nat} {ux : Value} {k : Nat} {rs : Nat → Rw} {W' : World} {gG Bg hg : Nat} {u1 : Value} {k' : Nat} {rs' : Nat → Rw} {r1 : Value} {q : Nat} {f : Nat → Int} (h : DG w A W x v g0 x' us H ux k rs gG Bg hg u1 k' rs' r1 q f) (hb : Below W.heap.size W W') : DG w A W' x v g0 x' us H ux k rs gG Bg hg u1 k' rs' r1 q f :=
  ⟨h.1.down hb, h.2.below hb⟩
theorem DG.al {w A W : World} {x : Int} {v : Value} {g0 : Nat} {x' : Int} {us : Value} {H : Nat} {ux : Value} {k : Nat} {rs : Nat → Rw} {B : Nat} {u1 : Value} {k' : Nat} {rs' : Nat → Rw} {r1 : Value} {q : Nat} {f : Nat → Int} (h : D7 w A W x v g0 x' us H ux k rs) (ha : AnsW W B u1 k' rs') (hB : H + 1 ≤ B) (hc : AnsC W B r1 q f) : DG w A (W.alloc (.cells #[.int .i64 x', u1] 24)) x v g0 x' us H ux k rs W.heap.size B W.heap.size u1 k' rs' r1 q f :=
  ⟨DF.al h ha hB, hc.below ((Below.refl W.heap.size W).alloc (Nat.le_refl _) _)⟩
def E8 (w A W : World) (x : Int) (v : Value) (g0 gG Bg hg : Nat) (x' : Int) (us u1 : Value) (k' : Nat) (rs1 : Nat → Rw) (r1 : Value) (q : Nat) (f : Nat → Int) : Prop :=
  D8 w A W x v g0 gG Bg hg x' us u1 k' rs1 ∧ AnsC W Bg r1 q f
theorem E8.down {w A W : World} {x : Int} {v : Value} {g0 gG Bg hg : Nat} {x' : Int} {us u1 : Value} {k' : Nat} {rs1 : Nat → Rw} {r1 : Value} {q : Nat} {f : Nat → Int} {W' : World} (h : E8 w A W x v g0 gG Bg hg x' us u1 k' rs1 r1 q f) (hb : Below W.heap.size W W') : E8 w A W' x v g0 gG Bg hg x' us u1 k' rs1 r1 q f :=
  ⟨h.1.down hb, h.2.below hb⟩
theorem E8.marked {w A W : World} {x : Int} {v : Value} {g0 gG Bg hg : Nat} {x' : Int} {us u1 : Value} {k' : Nat} {rs1 : Nat → Rw} {r1 : Value} {q : Nat} {f : Nat → Int} {W' : World} {rs2 : Nat → Rw} (h : E8 w A W x v g0 gG Bg hg x' us u1 k' rs1 r1 q f) (hk : Kept Bg hg W W') (ha : AnsX W' Bg hg u1 k' rs2) (hK : KpB W W') : E8 w A W' x v g0 gG Bg hg x' us u1 k' rs2 r1 q f :=
  ⟨h.1.marked hk ha, h.2.kpb hK⟩
theorem E8.listed {w A W : World} {x : Int} {v : Value} {g0 gG Bg hg : Nat} {x' : Int} {us u1 : Value} {k' : Nat} {rs1 : Nat → Rw} {r1 : Value} {q : Nat} {f f2 : Nat → Int} {W' : World} (h : E8 w A W x v g0 gG Bg hg x' us u1 k' rs1 r1 q f) (hb : Below Bg W W') (hc : AnsC W' Bg r1 q f2) (hX : ∀ {Bg hg k : Nat} {v : Value} {rs : Nat → Rw}, AnsX W Bg hg v k rs → AnsX W' Bg hg v k rs) (hW : ∀ {g m : Nat} {h' : Nat → Value}, Blk W g m h' 24 → Blk W' g m h' 24) : E8 w A W' x v g0 gG Bg hg x' us u1 k' rs1 r1 q f2 :=
  have h9 := h.1.2.2.2.2.2
  ⟨⟨⟨h.1.1.1.below hb (by omega), h.1.1.2.1.trans (hb.mono (by omega)), Nat.le_trans h.1.1.2.2 hb.size⟩, hW h.1.2.1, hW h.1.2.2.1, hX h.1.2.2.2.1, h.1.2.2.2.2.1.trans (hb.mono h9.2.1), h9⟩, hc⟩
theorem DG.k8 {w A W : World} {x : Int} {v : Value} {g0 : Nat} {x' : Int} {us : Value} {H : Nat} {ux : Value} {k : Nat} {rs : Nat → Rw} {W' : World} {gG Bg hg : Nat} {u1 : Value} {k' : Nat} {rs' : Nat → Rw} {r1 : Value} {q : Nat} {f : Nat → Int} (h : DG w A W x v g0 x' us H ux k rs gG Bg hg u1 k' rs' r1 q f) (hk : Kept A.heap.size H W W') (hK : KpB W W') : E8 w A W' x v g0 gG Bg hg x' us u1 k' rs' r1 q f :=
  ⟨h.1.k8 hk, h.2.kpb hK⟩
end M
end Go.Proofs.Ytcodllammndciaa

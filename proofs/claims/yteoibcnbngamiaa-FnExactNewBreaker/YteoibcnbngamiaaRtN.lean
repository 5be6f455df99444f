/-
  The laws of GoodBreaker and NewBreaker, at every argument.
-/
import Derived.Test.YteoibcnbngamiaaRtL
import Derived.Test.YteoibcnbngamiaaRtG
namespace Go.Proofs.Yteoibcnbngamiaa
open Go.RowKit M
theorem law_breaker (p : Br) (w : World) :
    Calls Try.prog 7 #[brv p] w fun e w' => e = .returned (.bool true) ∧ Below w.heap.size w w' :=
  law_breaker_run p _ w (fun W => spec_breaker p _ W rfl) (fun W => impl_breaker p _ W rfl)
set_option maxRecDepth 20000 in
set_option maxHeartbeats 2000000 in
theorem law_new (l c : Int) (w : World) :
    Calls Try.prog 6 #[.int .i64 l, .int .i64 c] w fun e w' => e = .returned (.bool true) ∧ Below w.heap.size w w' := by
  obtain ⟨b, hb⟩ : ∃ b, decide (GBd l c) = b := ⟨_, rfl⟩
  obtain ⟨r, hr⟩ : ∃ r, (if b = true then fresh l c else (⟨0, 0, 0, 0, 0⟩ : Br)) = r := ⟨_, rfl⟩
  have HS := hide (fun W => spec_new l c b r W hb hr)
  have HI := hide (fun W => impl_new l c b r W hb hr)
  have hbb : (b != b) = false := by simp
  clear hb hr
  go_enter Try.func6, Try.ntmps6
  go_wp2_with fail
  refine (HS.out _).mono ?_
  rintro e w2 ⟨rfl, hb⟩
  have hb3 := hb.alloc hb.size (.cells #[.int .i64 r.l, .int .i64 r.c, .int .i64 r.s, .int .i64 r.k, .int .i64 r.o] 37)
  have HW3 := hide (new5 w2 (.int .i64 r.l) (.int .i64 r.c) (.int .i64 r.s) (.int .i64 r.k) (.int .i64 r.o) 37)
  clear hb HS
  go_wp2_with fail
  refine (HI.out _).mono ?_
  rintro e w5 ⟨rfl, hb⟩
  have hb5 := hb3.trans (hb.mono hb3.size)
  have hb6 := hb5.alloc hb5.size (.cells #[.int .i64 r.l, .int .i64 r.c, .int .i64 r.s, .int .i64 r.k, .int .i64 r.o] 37)
  have hne : w2.heap.size < w5.heap.size := (HW3.out.down hb).lt
  obtain ⟨⟨d0, d1, d2, d3, d4⟩, -⟩ := ((HW3.out.down hb).alloc (.cells #[.int .i64 r.l, .int .i64 r.c, .int .i64 r.s, .int .i64 r.k, .int .i64 r.o] 37)).five
  clear hb hb3 hb5 HI HW3
  go_wp2_with fail
  refine (eq_breaker r _).mono ?_
  rintro e w7 ⟨rfl, hb⟩
  have hb7 := hb6.trans (hb.mono hb6.size)
  clear hb hb6 d0 d1 d2 d3 d4
  go_wp2
  go_ret
  exact ⟨rfl, hb7⟩
end Go.Proofs.Yteoibcnbngamiaa

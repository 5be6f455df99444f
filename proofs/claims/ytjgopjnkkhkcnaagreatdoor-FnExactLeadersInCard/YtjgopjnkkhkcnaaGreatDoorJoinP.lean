/-
  Facts of the program that every card of the seat asks.
-/
import Derived.Test.YtjgopjnkkhkcnaaGreatDoorJoinF
import Derived.ProofKit
namespace Go.Proofs.YtjgopjnkkhkcnaaGreatDoor
theorem jp1 : laidOutB Tryz.prog = true := by kernel_rfl
theorem jp2 : mapsRowed Tryz.prog = true := by kernel_rfl
theorem jp6 : (Tryz.prog.stops == []) = true := by kernel_rfl
theorem jp8 : (Tryz.prog.stopKnobs == []) = true := by kernel_rfl
theorem jp24 : Tryz.prog.stopsHeard = true := by kernel_rfl
theorem jp25 : Tryz.prog.mayEnter = true := by kernel_rfl
end Go.Proofs.YtjgopjnkkhkcnaaGreatDoor

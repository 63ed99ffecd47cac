/-
  Package cons: slices.SortFunc at no edge, by a contract.
-/
import Derived.Test.YtimmkenmahagjaaGreatDoorCS
import Derived.Shelf.SlSortCmp.NoneTotal
namespace Go.Proofs.YtimmkenmahagjaaGreatDoor
open Go.RowKit Go.Extern.Stop Go.Stop Go.Extern Go.Sort
theorem sortE_none (a : Option Addr) (cap : Nat) (fv : Value) (w : World) : Calls Tryz.prog 114 #[.slice a 0 cap, fv] w fun e w' => e = .returned (.tuple #[]) ∧ w' = w :=
  AnyF.slices_SortFunc_none Tryz.sortE a cap fv w
end Go.Proofs.YtimmkenmahagjaaGreatDoor

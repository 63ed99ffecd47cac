/-
  Rows of numbers as elements.
-/
import Derived.Test.YtglonlpfnllocaaGreatDoorPMemM
namespace Go.Proofs.YtglonlpfnllocaaGreatDoor
open Go.RowKit Go.Extern.Stop Go.Stop Go.Extern

abbrev TSI : TypeId := 40
abbrev TSS : TypeId := 36
theorem Tryz.infoInts : (Tryz.prog.info? 40).map (fun i => (i.zero, i.size, i.bytes)) = some (some (.slice none 0 0), 1, 24) := by kernel_rfl
end Go.Proofs.YtglonlpfnllocaaGreatDoor

/-
  Package prog: readVar, by a contract.
-/
import Derived.Test.YtakmmpbkojhmhaaGreatDoorPS
import Derived.Test.YtakmmpbkojhmhaaGreatDoorPMem
namespace Go.Proofs.YtakmmpbkojhmhaaGreatDoor
open Go.RowKit Go.Extern.Stop Go.Stop Go.Extern

/-- What readVar, readFun, readStmt and readLine do. -/
def Does (a : Nat → Addr) (B pb : Nat) (w w' : World) (d : ProgD × Option Nat) (e : Ending) : Prop :=
  e = .returned (errV a d.2) ∧ (∃ v1 v2 v3 ps qs, St w' B pb d.1 v1 v2 v3 ps qs) ∧ Below B w w'
theorem errs_below {w w' : World} {a : Nat → Addr} {B : Nat} (h : Errs5 w a) (hb : Below B w w') (hB : 18 ≤ B) : Errs5 w' a := by
  have k : ∀ (g : Nat) v, g < 18 → w.cell? ⟨g, 0, none⟩ = some v → w'.cell? ⟨g, 0, none⟩ = some v := fun g v hg hc => by
    rw [hb.cell (p := ⟨g, 0, none⟩) (show g < B by omega)]; exact hc
  exact ⟨k _ _ (by decide) h.c0, k _ _ (by decide) h.c1, k _ _ (by decide) h.c2, k _ _ (by decide) h.c3, k _ _ (by decide) h.c4, k _ _ (by decide) h.c5, k _ _ (by decide) h.c6, k _ _ (by decide) h.c7, k _ _ (by decide) h.c8⟩
end Go.Proofs.YtakmmpbkojhmhaaGreatDoor

/-
  A row that lists nine errors of package api and errors.errorType gives 'ErrsT'.
-/
import Derived.Test.YtakmmpbkojhmhaaGreatDoorLaidErrs
import Derived.Test.YtakmmpbkojhmhaaGreatDoorPZ3
namespace Go.Proofs.YtakmmpbkojhmhaaGreatDoor
open Go.ChangeShapes Go.WideShapes Go.RowKit

theorem errsT_of {W : World} {l : List (String × DataW Unit)} (h : laidMetH Tryz.prog l W)
    (hf : ∀ i, i < 9 → l.filter (fun x => x.1 == errNames.getD i "") = [(errNames.getD i "", .iface "*errors.errorString" (.ptr (.agg [.lit (.string (errText i))])))])
    (he : l.filter (fun x => x.1 == "errors.errorType") = [("errors.errorType", Rows.laid_errors_errorType)]) : ∃ a, ErrsT W a := by
  have hg : ∀ i, i < 11 → Tryz.prog.globalNamed (errNames.getD i "") = some (errVar i) := fun i hi => of_decide_eq_true (List.all_eq_true.1 Tryz.errGlobals i (List.mem_range.2 hi))
  have ht : ∀ i, i < 11 → (Tryz.prog.globals[errVar i]?).map (·.type) = some 27 := fun i hi => of_decide_eq_true (List.all_eq_true.1 Tryz.errTypes i (List.mem_range.2 hi))
  have all : ∀ i, ∃ a, i < 9 → W.cell? ⟨errVar i, 0, none⟩ = some (.iface 231 (.pointer (some a))) := by
    intro i
    by_cases hi : i < 9
    · obtain ⟨a, s, r, _⟩ := sentinel_of h _ _ _ (hf i hi) (hg i (by omega)) (ht i (by omega))
      exact ⟨a, fun _ => r⟩
    · exact ⟨⟨0, 0, none⟩, fun g => absurd g hi⟩
  refine ⟨fun i => Classical.choose (all i), ?_⟩
  have cc : ∀ i, i < 9 → W.cell? ⟨errVar i, 0, none⟩ = some (.iface 231 (.pointer (some (Classical.choose (all i))))) := fun i hi => Classical.choose_spec (all i) hi
  exact ⟨⟨cc 0 (by omega), cc 1 (by omega), cc 2 (by omega), cc 3 (by omega), cc 4 (by omega), cc 5 (by omega), cc 6 (by omega), cc 7 (by omega), cc 8 (by omega)⟩, handle_of h he⟩
end Go.Proofs.YtakmmpbkojhmhaaGreatDoor

/-
  A row that lists all eleven errors of package api and errors.errorType gives 'Errs'.
-/
import Derived.Test.YtbppimahedbpoaaDoorLaid
namespace Go.Proofs.YtbppimahedbpoaaDoor
open Go.ChangeShapes Go.WideShapes Go.RowKit

def errNames : List String := ["fingerpost/api.ErrText", "fingerpost/api.ErrBound", "fingerpost/api.ErrShape", "fingerpost/api.ErrKind", "fingerpost/api.ErrName", "fingerpost/api.ErrNone", "fingerpost/api.ErrExist", "fingerpost/api.ErrFull", "fingerpost/api.ErrArgs", "fingerpost/api.ErrOrder", "fingerpost/api.ErrSum"]
def lastBytes : List (List UInt8) := [[116, 101, 120, 116], [98, 111, 117, 110, 100], [115, 104, 97, 112, 101], [107, 105, 110, 100], [110, 97, 109, 101], [110, 111, 110, 101], [101, 120, 105, 115, 116], [102, 117, 108, 108], [97, 114, 103, 115], [111, 114, 100, 101, 114], [115, 117, 109]]
def errText (i : Nat) : List UInt8 := [102, 105, 110, 103, 101, 114, 112, 111, 115, 116, 58, 32] ++ lastBytes.getD i []
theorem errText_ne : ∀ i, i < 11 → ∀ j, j < 11 → i ≠ j → errText i ≠ errText j := by decide +kernel
def errVar (i : Nat) : Nat := [4, 1, 2, 0, 6, 7, 8, 3, 9, 10, 5].getD i 0

theorem Tryd.errGlobals : ((List.range 11).all fun i => decide (Tryd.prog.globalNamed (errNames.getD i "") = some (errVar i))) = true := by kernel_rfl
theorem Tryd.errTypes : ((List.range 11).all fun i => decide ((Tryd.prog.globals[errVar i]?).map (·.type) = some 30)) = true := by kernel_rfl
theorem errs_of {W : World} {l : List (String × DataW Unit)} (h : laidMetH Tryd.prog l W)
    (hf : ∀ i, i < 11 → l.filter (fun x => x.1 == errNames.getD i "") = [(errNames.getD i "", .iface "*errors.errorString" (.ptr (.agg [.lit (.string (errText i))])))])
    (he : l.filter (fun x => x.1 == "errors.errorType") = [("errors.errorType", Rows.laid_errors_errorType)]) : ∃ a, Errs W a := by
  have hg : ∀ i, i < 11 → Tryd.prog.globalNamed (errNames.getD i "") = some (errVar i) := fun i hi => of_decide_eq_true (List.all_eq_true.1 Tryd.errGlobals i (List.mem_range.2 hi))
  have ht : ∀ i, i < 11 → (Tryd.prog.globals[errVar i]?).map (·.type) = some 30 := fun i hi => of_decide_eq_true (List.all_eq_true.1 Tryd.errTypes i (List.mem_range.2 hi))
  have key : ∀ i, i < 11 → ∃ (a : Addr) (s : ByteArray), W.cell? ⟨errVar i, 0, none⟩ = some (.iface 106 (.pointer (some a))) ∧ W.cell? a = some (.string s) ∧ s.data.toList = errText i ∧ ∃ c t, W.heap[a.block]? = some (.cells c t (0, 0)) :=
    fun i hi => sentinel_of h _ _ _ (hf i hi) (hg i hi) (ht i hi)
  have all : ∀ i, ∃ a, i < 11 → ∃ s : ByteArray, W.cell? ⟨errVar i, 0, none⟩ = some (.iface 106 (.pointer (some a))) ∧ W.cell? a = some (.string s) ∧ s.data.toList = errText i ∧ ∃ c t, W.heap[a.block]? = some (.cells c t (0, 0)) := by
    intro i
    by_cases hi : i < 11
    · obtain ⟨a, s, r⟩ := key i hi
      exact ⟨a, fun _ => ⟨s, r⟩⟩
    · exact ⟨⟨0, 0, none⟩, fun g => absurd g hi⟩
  refine ⟨fun i => Classical.choose (all i), ?_⟩
  have sp := fun i => Classical.choose_spec (all i)
  have cc : ∀ i, i < 11 → W.cell? ⟨errVar i, 0, none⟩ = some (.iface 106 (.pointer (some (Classical.choose (all i))))) := fun i hi => by
    obtain ⟨s, r, _⟩ := sp i hi
    exact r
  exact {
    c0 := cc 0 (by omega), c1 := cc 1 (by omega), c2 := cc 2 (by omega), c3 := cc 3 (by omega), c4 := cc 4 (by omega), c5 := cc 5 (by omega), c6 := cc 6 (by omega), c7 := cc 7 (by omega), c8 := cc 8 (by omega), c9 := cc 9 (by omega), c10 := cc 10 (by omega)
    et := handle_of h he
    hp := fun i hi => by obtain ⟨s, _, _, _, r⟩ := sp i hi; exact r
    ne := fun i j hi hj hij e => by
      obtain ⟨s1, _, c1, t1, _⟩ := sp i hi
      obtain ⟨s2, _, c2, t2, _⟩ := sp j hj
      rw [e, c2] at c1
      have : s2 = s1 := by simpa using c1
      subst this
      exact errText_ne i hi j hj hij (t1.symm.trans t2) }
end Go.Proofs.YtbppimahedbpoaaDoor

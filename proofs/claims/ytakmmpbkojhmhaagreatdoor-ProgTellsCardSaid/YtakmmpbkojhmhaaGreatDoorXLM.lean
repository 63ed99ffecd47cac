/-
  From what a row lists of the package variables to where the errors of package api lie.
-/
import Derived.Test.YtakmmpbkojhmhaaGreatDoorRows
import Derived.Test.YtakmmpbkojhmhaaGreatDoorBase
import Derived.LaidLaws
import Derived.LaidHandle
import Derived.LaidSub
import Derived.LaidMore
import Derived.Stop.LaidErr
import Derived.Stop.Joined
namespace Go.Proofs.YtakmmpbkojhmhaaGreatDoor
open Go.ChangeShapes Go.WideShapes Go.RowKit

theorem Tryz.own : ownKnob Tryz.prog.godebug = none := by kernel_rfl
theorem Tryz.cellsES : Tryz.prog.cellsOf 250 = 1 := by kernel_rfl
theorem Tryz.cellsString : Tryz.prog.cellsOf 9 = 1 := by kernel_rfl
theorem Tryz.star : "*" ++ "errors.errorString" = "*errors.errorString" := by decide
theorem Tryz.rowES (u : TypeId) (h : Tryz.prog.typeName? 3 u = some "*errors.errorString") : u = 231 :=
  typeName_ptr_named (nm := "errors.errorString") (by rw [Tryz.star]; kernel_rfl) (by kernel_rfl) (by decide) u (by rw [Tryz.star]; exact h)

/-- One listed sentinel: its variable's cell; behind it the text; the row of cells is not frozen. -/
theorem sentinel_one {P : Program} {n nm : String} {text : List UInt8} {r : List (String × DataW Unit)} {W : World} {g : Nat} {ti tp te ts : TypeId} {ms : Array (String × TypeId)} {f : Field}
    (h : laidMet P ((n, .iface nm (.ptr (.agg [.lit (.string text)]))) :: r) W)
    (hg : P.globalNamed n = some g) (ht : (P.globals[g]?).map (·.type) = some ti) (hi : P.underlying ti = some (.interface ms)) (hrow : ∀ u, P.typeName? 3 u = some nm → u = tp)
    (hp : P.underlying tp = some (.pointer te)) (he : P.underlying te = some (.struct #[f])) (hft : f.type = ts) (hfo : f.offset = 0) (hs : P.underlying ts = some .string) (hc : P.cellsOf te = 1) (hcs : P.cellsOf ts = 1) :
    ∃ (a : Addr) (s : ByteArray), W.cell? ⟨g, 0, none⟩ = some (.iface tp (.pointer (some a))) ∧ W.cell? a = some (.string s) ∧ s.data.toList = text ∧ ∃ c t, W.heap[a.block]? = some (.cells c t (0, 0)) := by
  obtain ⟨ps, ⟨g0, t0, cs0, f0, p0, q0, hg0, ht0, hv0, hd0, _, e0⟩, _, hrows⟩ := h
  obtain rfl := Option.some.inj (hg.symm.trans hg0)
  obtain rfl := Option.some.inj (ht.symm.trans ht0)
  subst e0
  obtain ⟨l0⟩ := cs0
  have ok0 : ∀ u v, l0 = [.iface u v] → Value.okWide P W .any 0 u v := fun u v e => by
    subst e
    exact (hrows g 0 (by simp [MemPlace.row])).2 u v (by simpa using World.var?_cell hg0 hv0 0)
  obtain ⟨a0, s0, rfl, hc0, hs0, hz0, rfl⟩ := errorString_of_trod hi hrow hp he hft hfo hs hc hcs hd0 ok0
  exact ⟨a0, s0, by simpa using World.var?_cell hg0 hv0 0, hc0, hs0, (hrows a0.block a0.off (by simp [MemPlace.row])).1⟩

theorem sentinel_of {W : World} {l : List (String × DataW Unit)} (h : laidMetH Tryz.prog l W) (n : String) (text : List UInt8) (g : Nat)
    (hf : l.filter (fun x => x.1 == n) = [(n, .iface "*errors.errorString" (.ptr (.agg [.lit (.string text)])))])
    (hg : Tryz.prog.globalNamed n = some g) (ht : (Tryz.prog.globals[g]?).map (·.type) = some 27) :
    ∃ (a : Addr) (s : ByteArray), W.cell? ⟨g, 0, none⟩ = some (.iface 231 (.pointer (some a))) ∧ W.cell? a = some (.string s) ∧ s.data.toList = text ∧ ∃ c t, W.heap[a.block]? = some (.cells c t (0, 0)) := by
  have h1 := h.filter (fun x => x.1 == n)
  rw [hf] at h1
  have h2 : laidMet Tryz.prog [(n, .iface "*errors.errorString" (.ptr (.agg [.lit (.string text)])))] W := h1
  exact sentinel_one h2 hg ht Tryz.underlying27 Tryz.rowES Tryz.underlying231 Tryz.underlying250 rfl rfl Tryz.underlying9 Tryz.cellsES Tryz.cellsString

theorem Tryz.et : Tryz.prog.globalNamed "errors.errorType" = some 11 := by kernel_rfl
theorem Tryz.rt : (Tryz.prog.cutTypes.find? (·.1 == "internal/reflectlite.rtype")).map (·.2) = some 164 := by kernel_rfl
theorem Tryz.oneRow : ((List.range 262).filter fun t => Tryz.prog.rowNamed t [101, 114, 114, 111, 114]) = [27] := by kernel_rfl
theorem Tryz.size : Tryz.prog.types.size = 262 := by kernel_rfl
theorem handle_of {W : World} {l : List (String × DataW Unit)} (h : laidMetH Tryz.prog l W) (hf : l.filter (fun x => x.1 == "errors.errorType") = [("errors.errorType", Rows.laid_errors_errorType)]) :
    W.cell? ⟨11, 0, none⟩ = some (.iface 164 (.agg #[.pointer (some ⟨18, 27, none⟩)])) := by
  have h1 := h.filter (fun x => x.1 == "errors.errorType")
  rw [hf] at h1
  have h' : laidMet Tryz.prog [] W ∧ handlesMet Tryz.prog [("errors.errorType", Rows.laid_errors_errorType)] W := h1
  obtain ⟨name, u, ty, e1, e2, e3, e4, e5⟩ := h'.2 _ (List.mem_singleton.2 rfl)
  have en : name = [101, 114, 114, 111, 114] := (Option.some.inj e1).symm
  subst en
  obtain rfl := Option.some.inj (Tryz.rt.symm.trans e2)
  have hm : ty ∈ (List.range 262).filter fun t => Tryz.prog.rowNamed t [101, 114, 114, 111, 114] := List.mem_filter.2 ⟨List.mem_range.2 (by rw [← Tryz.size]; exact e3), e4⟩
  rw [Tryz.oneRow] at hm
  obtain rfl := List.mem_singleton.1 hm
  have hh : typeHandle Tryz.prog 27 = .pointer (some ⟨18, 27, none⟩) := by kernel_rfl
  rw [hh] at e5
  simpa using World.var?_cell Tryz.et e5 0
end Go.Proofs.YtakmmpbkojhmhaaGreatDoor

/-
  A row that lists all eleven errors of package api and errors.errorType gives 'Errs'.
-/
namespace Go.Proofs.YtakmmpbkojhmhaaGreatDoor
open Go.ChangeShapes Go.WideShapes Go.RowKit

def errNames : List String := ["fingerpost/api.ErrText", "fingerpost/api.ErrBound", "fingerpost/api.ErrShape", "fingerpost/api.ErrKind", "fingerpost/api.ErrName", "fingerpost/api.ErrNone", "fingerpost/api.ErrExist", "fingerpost/api.ErrFull", "fingerpost/api.ErrArgs", "fingerpost/api.ErrOrder", "fingerpost/api.ErrSum"]
def lastBytes : List (List UInt8) := [[116, 101, 120, 116], [98, 111, 117, 110, 100], [115, 104, 97, 112, 101], [107, 105, 110, 100], [110, 97, 109, 101], [110, 111, 110, 101], [101, 120, 105, 115, 116], [102, 117, 108, 108], [97, 114, 103, 115], [111, 114, 100, 101, 114], [115, 117, 109]]
def errText (i : Nat) : List UInt8 := [102, 105, 110, 103, 101, 114, 112, 111, 115, 116, 58, 32] ++ lastBytes.getD i []
theorem errText_ne : ∀ i, i < 11 → ∀ j, j < 11 → i ≠ j → errText i ≠ errText j := by decide +kernel
def errVar (i : Nat) : Nat := [1, 3, 4, 5, 6, 7, 8, 2, 9, 0, 10].getD i 0

theorem Tryz.errGlobals : ((List.range 11).all fun i => decide (Tryz.prog.globalNamed (errNames.getD i "") = some (errVar i))) = true := by kernel_rfl
theorem Tryz.errTypes : ((List.range 11).all fun i => decide ((Tryz.prog.globals[errVar i]?).map (·.type) = some 27)) = true := by kernel_rfl
theorem errs_of {W : World} {l : List (String × DataW Unit)} (h : laidMetH Tryz.prog l W)
    (hf : ∀ i, i < 11 → l.filter (fun x => x.1 == errNames.getD i "") = [(errNames.getD i "", .iface "*errors.errorString" (.ptr (.agg [.lit (.string (errText i))])))])
    (he : l.filter (fun x => x.1 == "errors.errorType") = [("errors.errorType", Rows.laid_errors_errorType)]) : ∃ a, Errs W a := by
  have hg : ∀ i, i < 11 → Tryz.prog.globalNamed (errNames.getD i "") = some (errVar i) := fun i hi => of_decide_eq_true (List.all_eq_true.1 Tryz.errGlobals i (List.mem_range.2 hi))
  have ht : ∀ i, i < 11 → (Tryz.prog.globals[errVar i]?).map (·.type) = some 27 := fun i hi => of_decide_eq_true (List.all_eq_true.1 Tryz.errTypes i (List.mem_range.2 hi))
  have key : ∀ i, i < 11 → ∃ (a : Addr) (s : ByteArray), W.cell? ⟨errVar i, 0, none⟩ = some (.iface 231 (.pointer (some a))) ∧ W.cell? a = some (.string s) ∧ s.data.toList = errText i ∧ ∃ c t, W.heap[a.block]? = some (.cells c t (0, 0)) :=
    fun i hi => sentinel_of h _ _ _ (hf i hi) (hg i hi) (ht i hi)
  have all : ∀ i, ∃ a, i < 11 → ∃ s : ByteArray, W.cell? ⟨errVar i, 0, none⟩ = some (.iface 231 (.pointer (some a))) ∧ W.cell? a = some (.string s) ∧ s.data.toList = errText i ∧ ∃ c t, W.heap[a.block]? = some (.cells c t (0, 0)) := by
    intro i
    by_cases hi : i < 11
    · obtain ⟨a, s, r⟩ := key i hi
      exact ⟨a, fun _ => ⟨s, r⟩⟩
    · exact ⟨⟨0, 0, none⟩, fun g => absurd g hi⟩
  refine ⟨fun i => Classical.choose (all i), ?_⟩
  have sp := fun i => Classical.choose_spec (all i)
  have cc : ∀ i, i < 11 → W.cell? ⟨errVar i, 0, none⟩ = some (.iface 231 (.pointer (some (Classical.choose (all i))))) := fun i hi => by
    obtain ⟨s, r, _⟩ := sp i hi
    exact r
  exact {
    c0 := cc 0 (by omega), c1 := cc 1 (by omega), c2 := cc 2 (by omega), c3 := cc 3 (by omega), c4 := cc 4 (by omega), c5 := cc 5 (by omega), c6 := cc 6 (by omega), c7 := cc 7 (by omega), c8 := cc 8 (by omega), c9 := cc 9 (by omega), c10 := cc 10 (by omega)
    et := handle_of h he
    hp := fun i hi => by obtain ⟨s, _, _, _, r⟩ := sp i hi; exact r
    ne := fun i j hi hj hij e => by
      obtain ⟨s1, _, c1, t1, _⟩ := sp i hi
      obtain ⟨s2, _, c2, t2, _⟩ := sp j hj
      rw [e, c2] at c1
      have : s2 = s1 := by simpa using c1
      subst this
      exact errText_ne i hi j hj hij (t1.symm.trans t2) }
end Go.Proofs.YtakmmpbkojhmhaaGreatDoor

/-
  What Least tells, for a seat without package calls.
-/
import Derived.Test.YtglonlpfnllocaaGreatDoorZFM
import Derived.Deep.RegionHeld3
namespace Go.Proofs.YtglonlpfnllocaaGreatDoor
open Go.RowKit Go.Extern.Stop Go.Stop Go.Extern

/-- An answer is the least one. -/
def LeastL (P : ProgD) (L : List (List Int)) : Prop := ∃ m, FixK P m ∧ L = iterD P m
theorem LeastL.uniq {P : ProgD} {L M : List (List Int)} (h : LeastL P L) (g : LeastL P M) : L = M := by
  obtain ⟨m, h1, rfl⟩ := h
  obtain ⟨n, g1, rfl⟩ := g
  rw [h1.uniq g1]
theorem LeastL.sets {P : ProgD} {L : List (List Int)} (h : LeastL P L) (hc : checkE P = none) : SetsOk P L := by
  obtain ⟨m, h1, rfl⟩ := h
  exact setsOk_iter hc m
/-- What Least tells, once more. -/
theorem leastY_any (a : Nat → Addr) (P : ProgD) (v1 v2 v3 : Value) (w : World) (hS : SmallP P) (h : IsProg w v1 v2 v3 P) (hE : Errs5 w a) (h3 : Three w a) :
    Calls Tryz.prog 11 #[.agg #[v1, v2, v3]] w fun e w' => ∃ va vn vc ev k, e = .returned (.tuple #[.slice va vn vc, .int .i64 k, ev]) ∧
      ((checkE P = none ∧ ev = .nilIface ∧ ∃ L, LeastL P L ∧ vn = L.length ∧ IsSets w' (.slice va vn vc) L) ∨ ((checkE P).isNone = false ∧ Value.slice va vn vc = .slice none 0 0 ∧ (∃ t x, ev = .iface t (.pointer (some x))) ∧ ErrV w' a (checkE P) ev)) ∧ Below w.heap.size w w' := by
  refine (least_any a P v1 v2 v3 w hS h hE h3).mono ?_
  rintro e w' ⟨va, vn, vc, ev, k, rfl, hcs, hb⟩
  refine ⟨va, vn, vc, ev, k, rfl, ?_, hb⟩
  rcases hcs with ⟨q1, q2, m, -, q4, q5⟩ | ⟨q1, q2, -, q4⟩
  · refine Or.inl ⟨q1, q2, _, ⟨m, q4, rfl⟩, ?_, q5⟩
    obtain ⟨a', c', e', _⟩ := q5
    injection e' with _ e2 _
  · refine Or.inr ⟨q1, q2, ?_, q4⟩
    rcases q4.cases with ⟨q, _⟩ | ⟨_, q⟩
    · rw [q] at q1; cases q1
    · exact q
end Go.Proofs.YtglonlpfnllocaaGreatDoor

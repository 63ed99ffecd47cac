/-
  Package solve, plain: a number more in a set, where the search says.
-/
import Derived.Test.YtglonlpfnllocaaGreatDoorVBM
namespace Go.Proofs.YtglonlpfnllocaaGreatDoor
open Go.RowKit Go.Extern.Stop Go.Stop Go.Extern

/-- A set with a number more, cut at the count of those that are less. -/
theorem insD_cut {l : List Int} (h : l.Pairwise (· < ·)) (x : Int) : insD l x = l.take (l.countP (· < x)) ++ x :: l.drop (l.countP (· < x)) := by
  induction l with
  | nil => simp [insD]
  | cons a r ih =>
    have p := List.pairwise_cons.1 h
    by_cases e : a < x
    · have h1 : insD (a :: r) x = a :: insD r x := by simp [insD, e]
      rw [h1, ih p.2, List.countP_cons_of_pos (by simpa using e)]
      rfl
    · have h1 : insD (a :: r) x = x :: a :: r := by simp [insD, e]
      have h2 : r.countP (· < x) = 0 := List.countP_eq_zero.2 fun y hy => by
        have := p.1 y hy
        simp
        omega
      rw [h1, List.countP_cons_of_neg (by simpa using e), h2]
      rfl
theorem insD_at (l : List Int) (x : Int) : l.countP (· < x) ≤ l.length := List.countP_le_length
end Go.Proofs.YtglonlpfnllocaaGreatDoor

/-
  The closed fact's program, for a seat without 'fixed'.
-/
import Derived.Test.YtglonlpfnllocaaGreatDoorZFM
import Derived.Lib.QuietBelow
namespace Go.Proofs.YtglonlpfnllocaaGreatDoor
open Go.RowKit Go.Extern.Stop Go.Stop Go.Extern

theorem isSet_oneF {o : Int} (h0 : 0 ≤ o) (h1 : o < 1000) : IsSet [o] := by
  refine ⟨fun j hj => ?_, fun j hj => by simp at hj⟩
  have : j = 0 := by simp at hj; omega
  subst this
  exact ⟨h0, h1⟩
def progF : ProgD := ⟨[[97], [98]], [], [⟨kAddr, 0, 1, []⟩, ⟨kCopy, 1, 0, []⟩]⟩
theorem progF_check : checkE progF = none := by decide
theorem progF_small : SmallP progF := by
  unfold SmallP
  refine ⟨by decide, by decide, by decide, ?_, ?_⟩
  · intro f hf
    cases hf
  · intro s hs
    simp [progF] at hs
    rcases hs with rfl | rfl <;> decide
theorem roundF (hs : List (List Int)) (a b : List Int) (hl : hs.length = 2) (h0 : norm (gotD progF hs 0) = a) (h1 : norm (gotD progF hs 1) = b) : roundD progF hs = [a, b] := by
  unfold roundD
  rw [hl]
  show [norm (gotD progF hs 0), norm (gotD progF hs 1)] = _
  rw [h0, h1]
theorem norm_one1 : norm [1] = [1] := norm_set (isSet_oneF (by decide) (by decide))
theorem norm_two1 : norm [1, 1] = [1] := (norm_congr (fun x => by simp)).trans norm_one1
theorem iterF0 : iterD progF 0 = [[], []] := by decide
theorem iterF1 : iterD progF 1 = [[1], []] := by
  show roundD progF (iterD progF 0) = _
  rw [iterF0]
  refine roundF _ _ _ rfl ?_ ?_
  · rw [show gotD progF [[], []] 0 = [1] by decide]; exact norm_one1
  · rw [show gotD progF [[], []] 1 = [] by decide]; exact norm_nil
theorem iterF2 : iterD progF 2 = [[1], [1]] := by
  show roundD progF (iterD progF 1) = _
  rw [iterF1]
  refine roundF _ _ _ rfl ?_ ?_
  · rw [show gotD progF [[1], []] 0 = [1, 1] by decide]; exact norm_two1
  · rw [show gotD progF [[1], []] 1 = [1] by decide]; exact norm_one1
theorem fixF : FixK progF 2 := by
  refine ⟨?_, fun j hj => ?_⟩
  · rw [iterF2]
    refine roundF _ _ _ rfl ?_ ?_
    · rw [show gotD progF [[1], [1]] 0 = [1, 1] by decide]; exact norm_two1
    · rw [show gotD progF [[1], [1]] 1 = [1, 1] by decide]; exact norm_two1
  · match j, hj with
    | 0, _ => show iterD progF 1 ≠ _; rw [iterF1, iterF0]; decide
    | 1, _ => show iterD progF 2 ≠ _; rw [iterF2, iterF1]; decide
abbrev fVars : Obj := .cells #[.string ⟨#[97]⟩, .string ⟨#[98]⟩] 9
abbrev fStmts : Obj := .cells #[.string ⟨#[97, 100, 100, 114]⟩, .int .i64 0, .int .i64 1, .slice none 0 0, .string ⟨#[99, 111, 112, 121]⟩, .int .i64 1, .int .i64 0, .slice none 0 0] 45
abbrev fProg (n : Nat) : Obj := .cells #[.slice (some ⟨n, 0, none⟩) 2 2, .slice none 0 0, .slice (some ⟨n + 1, 0, none⟩) 2 2] 26
theorem progF_is (w : World) : IsProg ((w.alloc fVars).alloc fStmts) (.slice (some ⟨w.heap.size, 0, none⟩) 2 2) (.slice none 0 0) (.slice (some ⟨w.heap.size + 1, 0, none⟩) 2 2) progF := by
  have hb : Below (w.alloc fVars).heap.size (w.alloc fVars) ((w.alloc fVars).alloc fStmts) := below1 _ _
  refine ⟨⟨_, _, rfl, Nat.le_refl _, fun j hj => ⟨_, _, rfl, ?_⟩⟩, ⟨_, _, rfl, Nat.le_refl _, fun j hj => absurd hj (Nat.not_lt_zero _)⟩, ⟨_, _, rfl, Nat.le_refl _, fun j hj => ⟨_, _, rfl, ?_⟩⟩⟩
  · refine cell_keep hb ?_
    match j, hj with
    | 0, _ => simp [progF, S]
    | 1, _ => simp [progF, S]
  · match j, hj with
    | 0, _ => exact ⟨.slice none 0 0, by simp [progF, S, kAddr], by simp [progF], by simp [progF], by simp, IsInts.nil _ _ _, none, 0, rfl, Nat.le_refl _⟩
    | 1, _ => exact ⟨.slice none 0 0, by simp [progF, S, kCopy], by simp [progF], by simp [progF], by simp, IsInts.nil _ _ _, none, 0, rfl, Nat.le_refl _⟩

end Go.Proofs.YtglonlpfnllocaaGreatDoor

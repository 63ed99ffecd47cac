/-
  What Object tells of what a variable or a thing has: plain.
-/
import Derived.Test.YteekjigaicmohaaGreatDoorHAM
namespace Go.Proofs.YteekjigaicmohaaGreatDoor
open Go.RowKit Go.Extern.Stop Go.Stop Go.Extern

theorem bthenS {w0 w1 w2 : World} (h1 : Below w0.heap.size w0 w1) (h2 : Below w1.heap.size w1 w2) : Below w0.heap.size w0 w2 := h1.trans (h2.mono h1.size)
theorem objV_R {P : ProgD} {L : List (List Int)} {s : StD} (hc : checkE P = none) (h : Inv P L s) {r : Ref} (hr : r.ok P.vars.length P.funs.length s.things.length) : objV P s.places (refKind r).toList (refNo r : Int) = objR P s.places r := by
  cases r using ref_cases with
  | var i =>
    have h1 : i < P.vars.length := hr
    rw [objV_var (by show ¬ (i : Int) < 0; omega) (by simp only [refKind, ByteArray.toList_eq])]
    show (if (i : Int) < (P.vars.length : Int) then (i : Int) else -1) = (i : Int)
    rw [if_pos (by omega)]
  | thing t =>
    have h1 : t < s.things.length := hr
    obtain ⟨q1, q2, q3⟩ := h.pl t (by rw [h.lp]; exact h1)
    rw [objV_thing (by show ¬ (t : Int) < 0; omega) (by simp only [refKind, ByteArray.toList_eq])]
    show (if (t : Int) < (s.places.length : Int) then placeD P (s.places.getD ((t : Int)).toNat 0) else -1) = _
    rw [if_pos (by rw [h.lp]; omega), Int.toNat_natCast, placeD_in (by rw [hc]; rfl) ⟨q1, by omega, q3⟩]
    rfl
  | fn i =>
    have h1 : i < P.funs.length := hr
    rw [objV_fun (by show ¬ (i : Int) < 0; omega) (by simp only [refKind, ByteArray.toList_eq])]
    show (if (i : Int) < (P.funs.length : Int) then _ else -1) = _
    rw [if_pos (by omega)]
    rfl
theorem objR_nat {P : ProgD} {pl : List Int} (r : Ref) : ∃ n : Nat, objR P pl r = (n : Int) := by
  cases r using ref_cases with
  | var i => exact ⟨i, rfl⟩
  | thing t => exact ⟨_, rfl⟩
  | fn i => exact ⟨places P P.stmts.length + i, by show ((places P P.stmts.length : Nat) : Int) + (i : Int) = _; omega⟩
/-- What Object tells of what a variable or a thing has. -/
theorem value_obj {P : ProgD} {L : List (List Int)} {s : StD} (hc : checkE P = none) (h : Inv P L s) {r : Ref} (hr : r.ok P.vars.length P.funs.length s.things.length) (hf : r.isFn = false) :
    (objV P s.places (valK (s.get r)).toList (valN (s.get r)) = -1 ∧ ((valK (s.get r)).toList == [110, 111, 110, 101]) = true) ∨ ∃ n : Nat, objV P s.places (valK (s.get r)).toList (valN (s.get r)) = (n : Int) ∧ (n : Int) ∈ setAt L (objR P s.places r) ∧ ((valK (s.get r)).toList == [110, 111, 110, 101]) = false := by
  cases hx : s.get r with
  | none =>
    left
    exact ⟨objV_none (by simp only [valK, ByteArray.toList_eq]; decide), by simp only [valK, ByteArray.toList_eq]; decide⟩
  | some x =>
    right
    obtain ⟨q1, q2⟩ := h.has r hr hf x hx
    obtain ⟨n, hn⟩ := objR_nat (P := P) (pl := s.places) x
    refine ⟨n, ?_, by rw [← hn]; exact q2, ?_⟩
    · show objV P s.places (refKind x).toList (refNo x : Int) = _
      rw [objV_R hc h q1, hn]
    · show ((refKind x).toList == [110, 111, 110, 101]) = false
      cases x using ref_cases with
      | var i => simp only [refKind, ByteArray.toList_eq]; decide
      | thing i => simp only [refKind, ByteArray.toList_eq]; decide
      | fn i => simp only [refKind, ByteArray.toList_eq]; decide
end Go.Proofs.YteekjigaicmohaaGreatDoor

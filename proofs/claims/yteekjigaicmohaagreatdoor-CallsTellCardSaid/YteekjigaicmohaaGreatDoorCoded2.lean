/-
  coded of the second package of statements: an error's number, without a place, by contracts.
-/
import Derived.Test.YteekjigaicmohaaGreatDoorBase
namespace Go.Proofs.YteekjigaicmohaaGreatDoor
open Go.RowKit Go.Extern.Stop Go.Stop Go.Extern

/-- coded(nil, 0). -/
theorem coded2_nil (w : World) : Calls Tryz.prog 21 #[.nilIface, .int .i64 0] w fun e w' => e = .returned (.bool true) ∧ Below w.heap.size w w' := by
  go_enter Tryz.func21, Tryz.ntmps21
  go_wp2_with (go_at_call 56; refine (code_nil _).mono ?_; rintro e w' ⟨rfl, rfl⟩)
  go_ret
  exact ⟨rfl, Below.refl _ _⟩
/-- coded of one of the eleven, at its number. -/
theorem coded2_err (a : Nat → Addr) (i : Nat) (n : Int) (w : World) (hi : i < 11) (hn : n = i + 1) (h : Errs w a) :
    Calls Tryz.prog 21 #[.iface 267 (.pointer (some (a i))), .int .i64 n] w fun e w' => e = .returned (.bool true) ∧ Below w.heap.size w w' := by
  subst hn
  have H : Hid (Errs w a) := h
  clear h
  go_enter Tryz.func21, Tryz.ntmps21
  go_wp2_with (go_at_call 56; refine (code_err a i _ hi ?_).mono ?_; exact H.out; rintro e w' ⟨rfl, hB⟩)
  go_ret
  exact ⟨rfl, hB⟩
end Go.Proofs.YteekjigaicmohaaGreatDoor

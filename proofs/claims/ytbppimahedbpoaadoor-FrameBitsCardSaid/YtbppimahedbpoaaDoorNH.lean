/-
  The document's sum and its bytes, by contracts.
-/
import Derived.Test.YtbppimahedbpoaaDoorNG
namespace Go.Proofs.YtbppimahedbpoaaDoor
open Go.RowKit Go.Extern.Stop Go.Stop Go.Extern

/-- The document's step: the k-th bit of the byte is taken in as it comes. -/
def refC (b : Nat) : Nat → Nat → Nat
  | 0, c => c
  | k + 1, c => (refC b k c / 2) ^^^ (if (refC b k c ^^^ b / 2 ^ k) % 2 = 1 then polyN else 0)
theorem xor_half (a b : Nat) : (a ^^^ b) / 2 = (a / 2) ^^^ (b / 2) := by
  have := Nat.shiftRight_xor_distrib (i := 1) (a := a) (b := b)
  simpa [Nat.shiftRight_eq_div_pow] using this
theorem refC_steps (b c : Nat) : ∀ k, stepsC k (c ^^^ b) = refC b k c ^^^ (b / 2 ^ k)
  | 0 => by simp [stepsC, refC]
  | k + 1 => by
    have ih := refC_steps b c k
    show stepC (stepsC k (c ^^^ b)) = _
    rw [ih]
    unfold stepC
    have h1 : (refC b k c ^^^ b / 2 ^ k) / 2 = (refC b k c / 2) ^^^ (b / 2 ^ (k + 1)) := by
      rw [xor_half, Nat.pow_succ, Nat.div_div_eq_div_mul]
    rw [h1]
    show _ = ((refC b k c / 2) ^^^ (if (refC b k c ^^^ b / 2 ^ k) % 2 = 1 then polyN else 0)) ^^^ (b / 2 ^ (k + 1))
    rw [Nat.xor_assoc, Nat.xor_assoc, Nat.xor_comm (b / 2 ^ (k + 1))]
theorem refC_lt (b : Nat) {c : Nat} (h : c < 4294967296) : ∀ k, refC b k c < 4294967296
  | 0 => h
  | k + 1 => by
    have := refC_lt b h k
    refine Nat.xor_lt_two_pow (n := 32) (by omega) ?_
    split <;> decide
theorem refC_bring (b : UInt8) (c : Nat) : refC b.toNat 8 c = bringC c b := by
  unfold bringC
  rw [refC_steps]
  have := b.toNat_lt
  rw [show b.toNat / 2 ^ 8 = 0 by omega, Nat.xor_zero]
end Go.Proofs.YtbppimahedbpoaaDoor

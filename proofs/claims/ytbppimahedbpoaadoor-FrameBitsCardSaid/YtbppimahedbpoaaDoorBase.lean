/-
  A []int that reads as a list of numbers; the numbers' comparison (SameInts), coded and the other small helpers, by contracts.
-/
import Derived.Test.YtbppimahedbpoaaDoorCode
import Derived.Deep.QuietTactic
import Derived.BigQuiet
namespace Go.Proofs.YtbppimahedbpoaaDoor
open Go.RowKit Go.Extern.Stop Go.Stop Go.Extern

/-- The value v is a []int that reads as zs in the world w. -/
def IsInts (w : World) (v : Value) (zs : List Int) : Prop :=
  (zs = [] ∧ ∃ a c, v = .slice a 0 c) ∨ (zs ≠ [] ∧ ∃ b o c, v = .slice (some ⟨b, o, none⟩) zs.length c ∧ ∀ j, j < zs.length → w.cell? ⟨b, o + j, none⟩ = some (.int .i64 (zs.getD j 0)))

theorem IsInts.below {w w' : World} {v : Value} {zs : List Int} (h : IsInts w v zs) (hb : Below w.heap.size w w') : IsInts w' v zs := by
  rcases h with h | ⟨hz, b, o, c, rfl, hc⟩
  · exact Or.inl h
  · exact Or.inr ⟨hz, b, o, c, rfl, fun j hj => cell_keep hb (hc j hj)⟩
theorem IsInts.nil (w : World) (a : Option Addr) (c : Nat) : IsInts w (.slice a 0 c) [] := Or.inl ⟨rfl, a, c, rfl⟩
theorem isInts_of_cells {w : World} {b o n c : Nat} {zs : List Int} (hn : n = zs.length) (hc : ∀ j, j < zs.length → w.cell? ⟨b, o + j, none⟩ = some (.int .i64 (zs.getD j 0))) : IsInts w (.slice (some ⟨b, o, none⟩) n c) zs := by
  subst hn
  by_cases h : zs = []
  · subst h; exact Or.inl ⟨rfl, _, _, rfl⟩
  · exact Or.inr ⟨h, b, o, c, rfl, hc⟩

set_option maxHeartbeats 1000000 in
theorem sameInts_cons (zs : List Int) (b1 o1 c1 b2 o2 c2 : Nat) (w : World) (hm : zs.length ≤ 1000000)
    (h1 : ∀ j, j < zs.length → w.cell? ⟨b1, o1 + j, none⟩ = some (.int .i64 (zs.getD j 0))) (h2 : ∀ j, j < zs.length → w.cell? ⟨b2, o2 + j, none⟩ = some (.int .i64 (zs.getD j 0))) :
    Calls Tryd.prog 15 #[.slice (some ⟨b1, o1, none⟩) zs.length c1, .slice (some ⟨b2, o2, none⟩) zs.length c2] w fun e w' => e = .returned (.bool true) ∧ Below w.heap.size w w' := by
  have H1 : Hid (∀ j, j < zs.length → w.cell? ⟨b1, o1 + j, none⟩ = some (.int .i64 (zs.getD j 0))) := h1
  have H2 : Hid (∀ j, j < zs.length → w.cell? ⟨b2, o2 + j, none⟩ = some (.int .i64 (zs.getD j 0))) := h2
  clear h1 h2
  generalize hn : zs.length = n at *
  have HN : Hid (zs.length = n) := hn
  clear hn
  go_enter Tryd.func15, Tryd.ntmps15
  go_wp2
  go_loopw [5] (fun t wr => ∃ k : Nat, k ≤ n ∧ t = .int .i64 k ∧ Below w.heap.size w wr) (fun t _ => (n - intOf t).toNat)
  case atStart => exact ⟨0, Nat.zero_le _, rfl, Below.refl _ _⟩
  case round =>
    obtain ⟨k, hk, rfl, hB⟩ := hrel
    by_cases hlt : k < n
    · have e1 := cell_keep hB (H1.out k hlt)
      have e2 := cell_keep hB (H2.out k hlt)
      generalize zs.getD k 0 = z at e1 e2
      go_wp2
      go_quiet (fail)
      go_wp2
      go_roundw
      case rel => exact ⟨k + 1, hlt, by go_num, below_drewN hB _⟩
      case measure => simp [intOf]; omega
    · go_wp2
      go_ret
      exact ⟨rfl, hB⟩
set_option maxHeartbeats 1000000 in
theorem sameInts_none (a1 a2 : Option Addr) (c1 c2 : Nat) (w : World) :
    Calls Tryd.prog 15 #[.slice a1 0 c1, .slice a2 0 c2] w fun e w' => e = .returned (.bool true) ∧ Below w.heap.size w w' := by
  go_enter Tryd.func15, Tryd.ntmps15
  go_wp2
  go_loopw [5] (fun t wr => t = .int .i64 0 ∧ Below w.heap.size w wr) (fun _ _ => 0)
  case atStart => exact ⟨rfl, Below.refl _ _⟩
  case round =>
    obtain ⟨rfl, hB⟩ := hrel
    go_wp2
    go_ret
    exact ⟨rfl, hB⟩
/-- SameInts at two lists of the same numbers. -/
theorem sameInts_true (zs : List Int) (v1 v2 : Value) (w : World) (hm : zs.length ≤ 1000000) (h1 : IsInts w v1 zs) (h2 : IsInts w v2 zs) :
    Calls Tryd.prog 15 #[v1, v2] w fun e w' => e = .returned (.bool true) ∧ Below w.heap.size w w' := by
  rcases h1 with ⟨hz, a1, c1, rfl⟩ | ⟨hz, b1, o1, c1, rfl, hc1⟩
  · rcases h2 with ⟨_, a2, c2, rfl⟩ | ⟨hz', _⟩
    · exact sameInts_none a1 a2 c1 c2 w
    · exact absurd hz hz'
  · rcases h2 with ⟨hz', _⟩ | ⟨_, b2, o2, c2, rfl, hc2⟩
    · exact absurd hz' hz
    · exact sameInts_cons zs b1 o1 c1 b2 o2 c2 w hm hc1 hc2

end Go.Proofs.YtbppimahedbpoaaDoor

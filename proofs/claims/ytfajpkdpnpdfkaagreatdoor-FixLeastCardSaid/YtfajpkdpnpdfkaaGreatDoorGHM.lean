/-
  What ConsTells and FixLeast hold in memory: a fault's box; sets' errors.
-/
import Derived.Test.YtfajpkdpnpdfkaaGreatDoorGDM
import Derived.Test.YtfajpkdpnpdfkaaGreatDoorXGM
import Derived.Test.YtfajpkdpnpdfkaaGreatDoorQEM
import Derived.Test.YtfajpkdpnpdfkaaGreatDoorXKM
namespace Go.Proofs.YtfajpkdpnpdfkaaGreatDoor
open Go.RowKit Go.Extern.Stop Go.Stop Go.Extern

abbrev fltG (c n : Int) : Obj := .cells #[.int .i64 c, .int .i64 n] 34
theorem fltG_set {w : World} {b : Nat} {c n : Int} (h : w.heap[b]? = some (fltG c n)) (c' n' : Int) : ((w.setCell ⟨b, 0, none⟩ (.int .i64 c')).setCell ⟨b, 1, none⟩ (.int .i64 n')).heap[b]? = some (fltG c' n') := by
  have h1 := set_block _ _ 0 _ _ _ h (.int .i64 c')
  have h2 := set_block _ _ 1 _ _ _ h1 (.int .i64 n')
  rw [h2]; rfl
theorem fltG_cells {w : World} {b : Nat} {c n : Int} (h : w.heap[b]? = some (fltG c n)) : (w.cell? ⟨b, 0, none⟩ = some (.int .i64 c) ∧ w.cell? ⟨b, 1, none⟩ = some (.int .i64 n)) ∧ (w.frozen? ⟨b, 0, none⟩ = false ∧ w.frozen? ⟨b, 1, none⟩ = false) := by
  refine ⟨⟨?_, ?_⟩, Lib.frozen_of_heap h 0, Lib.frozen_of_heap h 1⟩
  · rw [Lib.cell_of_heap h]; rfl
  · rw [Lib.cell_of_heap h]; rfl
theorem codeG_pos {e : ErrD} (h : e.isNone = false) : 0 < codeE e := by
  cases e with
  | none => cases h
  | some x => show 0 < (x.1 : Int) + 1; omega
theorem codeF_E (e : ErrD) : codeF e = codeE e := by cases e <;> rfl
theorem placeF_E (e : ErrD) : placeF e = placeE e := by cases e <;> rfl
theorem consG_bad {P : ProgD} {hs : List (List Int)} (h : (checkE P).isNone = false) : consE P hs = checkE P := by
  unfold consE
  cases e : checkE P with
  | none => rw [e] at h; cases h
  | some x => rfl
theorem setsE_lt (M : Int) (hs : List (List Int)) (k : Nat) {x : Nat × Int} (h : setsE M k hs = some x) : x.1 < 11 := by
  induction hs generalizing k with
  | nil => cases h
  | cons z r ih =>
    unfold setsE at h
    cases e : oneE M z with
    | none => rw [e] at h; exact ih _ h
    | some c =>
      rw [e] at h
      injection h with h
      subst h
      unfold oneE at e
      split at e
      · injection e with e; show c < 11; omega
      · split at e
        · injection e with e; show c < 11; omega
        · split at e
          · injection e with e; show c < 11; omega
          · cases e
theorem consE_lt {P : ProgD} {hs : List (List Int)} {x : Nat × Int} (h : consE P hs = some x) : x.1 < 11 := by
  unfold consE at h
  cases e : checkE P with
  | some y =>
    rw [e] at h
    injection h with h
    subst h
    exact checkE_lt e
  | none =>
    rw [e] at h
    dsimp only at h
    split at h
    · exact setsE_lt _ _ _ h
    · injection h with h
      subst h
      show 2 < 11
      omega
end Go.Proofs.YtfajpkdpnpdfkaaGreatDoor

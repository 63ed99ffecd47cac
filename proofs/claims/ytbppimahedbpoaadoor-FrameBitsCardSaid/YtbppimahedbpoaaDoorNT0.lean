/-
  A byte of a text's bytes is another: memory.
-/
import Derived.Test.YtbppimahedbpoaaDoorNS
import Derived.Lib.ConvBytes
import Derived.Lib.SmallJoins
namespace Go.Proofs.YtbppimahedbpoaaDoor
open Go.RowKit Go.Extern.Stop Go.Stop Go.Extern

abbrev TB8 : TypeId := 5
theorem conv_to (s : ByteArray) (w : World) : (convert 9 46 (.string s)).run Tryd.prog w = .ok (.slice (some ⟨w.heap.size, 0, none⟩) s.size (grownCap w s.size 0 TB8)) (Lib.bytesWorld w TB8 s) :=
  Lib.run_convert_string_bytes w _ _ _ s Tryd.underlying9 Tryd.underlying46 Tryd.underlying5
/-- Bytes in memory. -/
structure BytesAt (w : World) (g : Nat) (l : Bs) : Prop where
  blk : ∃ (cs : Array Value) (N : Nat), w.heap[g]? = some (.cells cs TB8 (N, N + 1)) ∧ l.length ≤ N ∧ N ≤ cs.size ∧ ∀ j, j < l.length → cs[j]? = some (.int .u8 ((l.getD j 0).toNat : Int))
theorem BytesAt.cell {w : World} {g : Nat} {l : Bs} (h : BytesAt w g l) (j : Nat) (hj : j < l.length) : w.cell? ⟨g, j, none⟩ = some (.int .u8 ((l.getD j 0).toNat : Int)) := by
  obtain ⟨cs, N, h1, -, -, h4⟩ := h.blk
  rw [Lib.cell_of_heap h1, h4 j hj]
theorem BytesAt.fz {w : World} {g : Nat} {l : Bs} (h : BytesAt w g l) (j : Nat) (hj : j < l.length) : w.frozen? ⟨g, j, none⟩ = false := by
  obtain ⟨cs, N, h1, h2, -, -⟩ := h.blk
  simp only [World.frozen?, h1]
  simp
  omega
theorem bytesAt_new (s : ByteArray) (w : World) : BytesAt (Lib.bytesWorld w TB8 s) w.heap.size s.data.toList := by
  have h1 : s.size ≤ (Lib.bytesCells w TB8 s).size := by
    unfold Lib.bytesCells
    rw [Array.size_append, Array.size_map]
    exact Nat.le_add_right _ _
  have h2 : s.size = s.data.toList.length := Lib.size_eq s
  refine ⟨⟨_, _, Lib.bytesWorld_at_new w TB8 s, by omega, Nat.le_refl _, fun j hj => ?_⟩⟩
  have h3 := Lib.bytesWorld_cell w TB8 s j (by omega)
  rw [Lib.cell_of_heap (Lib.bytesWorld_at_new w TB8 s)] at h3
  exact h3
theorem BytesAt.conv {w : World} {g c : Nat} {l : Bs} (h : BytesAt w g l) : (convert 46 9 (.slice (some ⟨g, 0, none⟩) l.length c)).run Tryd.prog w = .ok (.string (S l)) w :=
  run_convert_bytes_back (P := Tryd.prog) w 46 9 5 ⟨g, 0, none⟩ c l Tryd.underlying46 Tryd.underlying5 Tryd.underlying9 (fun j hj => by
    have := h.cell j hj
    rw [Addr.add_lit, Nat.zero_add, this]
    simp [List.getD, hj])
theorem BytesAt.set {w : World} {g p : Nat} {l : Bs} (h : BytesAt w g l) (hp : p < l.length) (b : UInt8) : BytesAt (w.setCell ⟨g, p, none⟩ (.int .u8 (b.toNat : Int))) g (l.set p b) := by
  obtain ⟨cs, N, h1, h2, h3, h4⟩ := h.blk
  have hs : (l.set p b).length = l.length := List.length_set
  refine ⟨⟨_, N, set_block w g p cs _ _ h1 _, by omega, by rw [Array.size_setIfInBounds]; exact h3, fun j hj => ?_⟩⟩
  rw [hs] at hj
  by_cases e : j = p
  · subst e
    rw [Array.getElem?_setIfInBounds_self_of_lt (by omega), List.getD, List.getElem?_set_self hj]
    rfl
  · rw [Array.getElem?_setIfInBounds_ne (Ne.symm e), h4 j hj, List.getD, List.getD, List.getElem?_set_ne (Ne.symm e)]
/-- A bit of a byte, turned: another byte. -/
def flipB (u : UInt8) (r : Nat) : UInt8 := UInt8.ofNat (u.toNat ^^^ 2 ^ r)
theorem flipB_toNat (u : UInt8) (r : Nat) (hr : r < 8) : (flipB u r).toNat = u.toNat ^^^ 2 ^ r := by
  unfold flipB
  rw [UInt8.toNat_ofNat']
  have h1 : u.toNat ^^^ 2 ^ r < 2 ^ 8 := Nat.xor_lt_two_pow u.toNat_lt (Nat.pow_lt_pow_right (by decide) hr)
  omega
theorem flipB_ne (u : UInt8) (r : Nat) (hr : r < 8) : flipB u r ≠ u := fun e => by
  have h1 := flipB_toNat u r hr
  rw [e] at h1
  have h2 : 0 = 2 ^ r := xorL (c := u.toNat) (by rw [Nat.xor_zero]; exact h1)
  have : 0 < 2 ^ r := Nat.pow_pos (by decide)
  omega
end Go.Proofs.YtbppimahedbpoaaDoor

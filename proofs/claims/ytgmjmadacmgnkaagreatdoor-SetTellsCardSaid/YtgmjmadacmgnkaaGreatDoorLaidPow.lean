/-
  What the rows on sets open: a []int that came in, and the table of powers of ten.
-/
import Derived.Test.YtgmjmadacmgnkaaGreatDoorLaid
import Derived.Test.YtgmjmadacmgnkaaGreatDoorText
import Derived.Lib.LaidTab
import Derived.ProofKit
import Derived.OpenShut
import Derived.Carry
namespace Go.Proofs.YtgmjmadacmgnkaaGreatDoor
open Go.ChangeShapes Go.WideShapes Go.ChangeAt Go.RowKit

theorem Tryz.laidOut : laidOutB Tryz.prog = true := by kernel_rfl
theorem Tryz.gPowType : (Tryz.prog.globals[12]?).map (·.type) = some 149 := by kernel_rfl
theorem Tryz.cellsU64 : Tryz.prog.cellsOf 127 = 1 := by kernel_rfl
theorem Tryz.cells20 : Tryz.prog.cellsOf 149 = 20 := by kernel_rfl
theorem pow_data : (Rows.laid_internal_strconv_uint64pow10 : DataW Unit) = Lib.tabData .u64 Lib.pow10Tab := by kernel_rfl

theorem pow_of {W : World} {l : List (String × DataW Unit)} (h : laidMetH Tryz.prog l W)
    (hf : l.filter (fun x => x.1 == "internal/strconv.uint64pow10") = [("internal/strconv.uint64pow10", Rows.laid_internal_strconv_uint64pow10)]) : Pow W := by
  have h1 := h.filter (fun x => x.1 == "internal/strconv.uint64pow10")
  rw [hf, pow_data] at h1
  have h2 : laidMet Tryz.prog [("internal/strconv.uint64pow10", Lib.tabData .u64 Lib.pow10Tab)] W := h1
  exact Lib.tabIs_of_head (rest := []) Tryz.gPow Tryz.gPowType Tryz.underlying149 Tryz.underlying127 Tryz.cellsU64 Tryz.cells20 h2

set_option maxRecDepth 100000 in
/-- A []int that came in reads as numbers. -/
theorem ints_in {H : Type} {enc : TypeId × Value → H} {W : World} {base : Nat} {v : Value} {d : DataW H} {p : List MemPlace} (hv : Value.okWide Tryz.prog W .any base 22 v)
    (h : DataW.Trod enc Tryz.prog W 0 (fun _ => true) true 22 v d p) : ∃ a n c zs, v = .slice a n c ∧ n = zs.length ∧ IsInts W v zs ∧ ∀ x ∈ p, x.block < W.heap.size := by
  obtain ⟨a, n, c, rfl⟩ := okWide_slice Tryz.underlying22 hv
  have hlt : ∀ x ∈ p, x.block < W.heap.size := by obtain ⟨m, hm⟩ := h; exact DataW.trod_lt m _ _ _ hm
  obtain ⟨fuel, hf⟩ := h
  rcases open_ints Tryz.underlying22 Tryz.underlying3 (by kernel_rfl) hf with ⟨hcs, _⟩ | ⟨x, l, c', zs, hcs, _, hl, hm, hz, _, hcell, hwz⟩
  · simp [Value.cells] at hcs
    obtain ⟨rfl, rfl, rfl⟩ := hcs
    exact ⟨none, 0, 0, [], rfl, rfl, IsInts.nil _ _ _, hlt⟩
  · simp [Value.cells] at hcs
    obtain ⟨rfl, rfl, rfl⟩ := hcs
    have hz' : zs.length = c := by simpa using hz
    refine ⟨some x, n, c, zs.take n, rfl, by rw [List.length_take]; omega, ?_, hlt⟩
    by_cases h0 : n = 0
    · subst h0
      exact IsInts.nil _ _ _
    · obtain ⟨b, off, rfl, hc⟩ := ints_at hcell (by omega)
      refine isInts_of_cells (by rw [List.length_take]; omega) fun j hj => ?_
      rw [List.length_take] at hj
      rw [hc j (by omega)]
      have : j < n := by omega
      simp [List.getD, this]
end Go.Proofs.YtgmjmadacmgnkaaGreatDoor

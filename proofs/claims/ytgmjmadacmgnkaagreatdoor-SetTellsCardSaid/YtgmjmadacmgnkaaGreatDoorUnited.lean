/-
  The closed fact that the laws on sets begin with.
-/
import Derived.Test.YtgmjmadacmgnkaaGreatDoorText
namespace Go.Proofs.YtgmjmadacmgnkaaGreatDoor
open Go.RowKit Go.Extern.Stop Go.Stop Go.Extern Go.Sort

theorem norm_1323 : norm ([1, 3] ++ [2, 3]) = [1, 2, 3] := by
  refine rise_ext _ _ (norm_rise _) (by decide) fun x => ?_
  rw [norm_mem]
  simp
  omega
theorem itoa_digit (n : Nat) (h : n < 10) : Lib.itoa (n : Int) = [UInt8.ofNat (48 + n)] := by
  unfold Lib.itoa
  rw [if_neg (by omega)]
  rw [Int.toNat_natCast, Lib.decDigits, dif_pos h]
theorem text_123 : setText [1, 2, 3] = [123, 49, 44, 50, 44, 51, 125] := by
  have h1 := itoa_digit 1 (by omega)
  have h2 := itoa_digit 2 (by omega)
  have h3 := itoa_digit 3 (by omega)
  unfold setText
  simp only [List.map_cons, List.map_nil]
  rw [show Lib.itoa 1 = [49] from h1, show Lib.itoa 2 = [50] from h2, show Lib.itoa 3 = [51] from h3]
  rfl
theorem set13 : IsSet [1, 3] := ⟨inB_iff.2 (by simp), rise_of_pairwise (by decide)⟩
theorem set23 : IsSet [2, 3] := ⟨inB_iff.2 (by simp), rise_of_pairwise (by decide)⟩
theorem set123 : IsSet [1, 2, 3] := ⟨inB_iff.2 (by simp), rise_of_pairwise (by decide)⟩
theorem ints_new (w : World) (zs : List Int) (B : Nat) (hB : w.heap.size = B) (n c : Nat) (hn : n = zs.length) : IsInts (w.alloc (.cells (zs.map (Value.int .i64)).toArray 3)) (.slice (some ⟨B, 0, none⟩) n c) zs := by
  subst hB
  refine isInts_of_cells hn fun j hj => ?_
  rw [World.cell?_alloc_at _ _ _ _ rfl]
  simp [hj]

set_option maxHeartbeats 2000000 in
theorem united_any (w : World) (ht : Pow w) : Calls Tryz.prog 4 #[] w fun e w' => e = .returned (.bool true) ∧ Below w.heap.size w w' := by
  have HT : Hid (Pow w) := ht
  clear ht
  go_enter Tryz.func4, Tryz.ntmps4
  go_wp2_with fail
  have hB0 := fun o1 o2 => ((Below.refl w.heap.size w).alloc (Nat.le_refl _) o1).alloc (by simp) o2
  refine (union_ok [1, 3] [2, 3] _ _ _ (by decide) (by decide) ?_ ?_ set13 set23).mono ?_
  · exact (ints_new w [1, 3] _ rfl 2 2 rfl).below ((Below.refl _ _).alloc (Nat.le_refl _) _)
  · exact ints_new (w.alloc _) [2, 3] _ (by simp) 2 2 rfl
  rintro e w1 ⟨v1, rfl, hI1, hB1⟩
  rw [norm_1323] at hI1
  have HI : Hid (IsInts w1 v1 [1, 2, 3]) := hI1
  have hBw : Below w.heap.size w w1 := (hB0 _ _).trans (hB1.mono (by simp; omega))
  clear hB1 hI1
  go_wp2_with fail
  have hB1' := fun o => (Below.refl w1.heap.size w1).alloc (Nat.le_refl _) o
  refine (sameInts_true [1, 2, 3] v1 _ _ (by decide) (HI.out.below (hB1' _)) (ints_new w1 [1, 2, 3] _ rfl 3 3 rfl)).mono ?_
  rintro e w2 ⟨rfl, hB2⟩
  have hB12 : Below w1.heap.size w1 w2 := (hB1' _).trans (hB2.mono (by simp))
  have hBw2 : Below w.heap.size w w2 := hBw.trans (hB12.mono hBw.size)
  clear hB1' hB2 hB0
  go_wp2_with fail
  have hT2 : Pow w2 := pow_below HT.out (pow_lt HT.out) hBw2
  have HX := text_ok [1, 2, 3] v1 w2 (by decide) (HI.out.below hB12) set123 hT2
  rw [text_123] at HX
  refine HX.mono ?_
  clear HX hT2
  rintro e w3 ⟨rfl, hB3⟩
  go_wp2
  go_ret
  exact ⟨rfl, hBw2.trans (hB3.mono hBw2.size)⟩
end Go.Proofs.YtgmjmadacmgnkaaGreatDoor

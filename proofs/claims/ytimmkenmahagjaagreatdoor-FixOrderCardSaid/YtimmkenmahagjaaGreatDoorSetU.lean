/-
  Package set: Union, holds, by contracts.
-/
import Derived.Test.YtimmkenmahagjaaGreatDoorSetD
namespace Go.Proofs.YtimmkenmahagjaaGreatDoor
open Go.RowKit Go.Extern.Stop Go.Stop Go.Extern Go.Sort

theorem inB_append {ys zs : List Int} (h1 : InB ys) (h2 : InB zs) : InB (ys ++ zs) := by
  intro j hj
  rw [List.length_append] at hj
  by_cases h : j < ys.length
  · have := h1 j h
    simpa [List.getD, List.getElem?_append_left h] using this
  · have := h2 (j - ys.length) (by omega)
    simpa [List.getD, List.getElem?_append_right (Nat.le_of_not_lt h)] using this

set_option maxHeartbeats 1000000 in
theorem union_own (ys zs : List Int) (u v : Value) (w : World) (hy : ys.length ≤ 100000) (hz : zs.length ≤ 100000) (h1 : IsInts w u ys) (h2 : IsInts w v zs) (s1 : IsSet ys) (s2 : IsSet zs) :
    Calls Tryz.prog 25 #[u, v] w fun e w' => ∃ v', e = .returned (.tuple #[v', .nilIface]) ∧ IsInts w' v' (norm (ys ++ zs)) ∧ Below w.heap.size w w' ∧ (ys ++ zs ≠ [] → ∀ g, v'.ownBlock = some g → w.heap.size ≤ g) := by
  have H1 : Hid (IsInts w u ys) := h1
  have H2 : Hid (IsInts w v zs) := h2
  have HK : Hid (Calls Tryz.prog 59 #[u, v] w fun e w' => e = .returned .nilIface ∧ Below w.heap.size w w') := pair_ok ys zs u v w (by omega) (by omega) h1 h2 s1 s2
  obtain ⟨ua, uc, rfl⟩ := h1.form
  obtain ⟨va, vc, rfl⟩ := h2.form
  clear h1 h2
  go_enter Tryz.func25, Tryz.ntmps25
  go_wp2_with fail
  refine HK.out.mono ?_
  rintro e w1 ⟨rfl, hB1⟩
  go_wp2_with fail
  have hB1' := fun o => hB1.alloc hB1.size o
  refine (concat_two ys zs _ _ _ _ (by omega) (by omega) (H1.out.below (hB1' _)) (H2.out.below (hB1' _)) (by simp) (by simp)).mono ?_
  rintro e w2 ⟨v2, rfl, hI2, hB2⟩
  have hBw2 : Below w.heap.size w w2 := (hB1' _).trans (hB2.mono (by have := hB1.size; simp; omega))
  have HI : Hid (IsInts w2 v2 (ys ++ zs)) := hI2
  clear hI2 hB2 hB1'
  go_wp2_with fail
  refine (of_own (ys ++ zs) v2 w2 (by simp; omega) HI.out (inB_append s1.1 s2.1)).mono ?_
  rintro e w3 ⟨v3, rfl, hI3, hB3, hO3⟩
  have HX : Hid (IsInts w3 v3 (norm (ys ++ zs)) ∧ Below w.heap.size w w3 ∧ (ys ++ zs ≠ [] → ∀ g, v3.ownBlock = some g → w.heap.size ≤ g)) := ⟨hI3, hBw2.trans (hB3.mono hBw2.size), fun q g hg => Nat.le_trans hBw2.size (hO3 q g hg)⟩
  clear hI3 hB3 hO3
  go_wp2
  go_ret2
  exact ⟨v3, rfl, HX.out⟩
theorem union_ok (ys zs : List Int) (u v : Value) (w : World) (hy : ys.length ≤ 100000) (hz : zs.length ≤ 100000) (h1 : IsInts w u ys) (h2 : IsInts w v zs) (s1 : IsSet ys) (s2 : IsSet zs) :
    Calls Tryz.prog 25 #[u, v] w fun e w' => ∃ v', e = .returned (.tuple #[v', .nilIface]) ∧ IsInts w' v' (norm (ys ++ zs)) ∧ Below w.heap.size w w' :=
  (union_own ys zs u v w hy hz h1 h2 s1 s2).mono fun _ _ ⟨v', q1, q2, q3, _⟩ => ⟨v', q1, q2, q3⟩

/-- holds: is a number one of numbers that do not fall? -/
theorem holds_any (zs : List Int) (v : Value) (x : Int) (w : World) (hm : zs.length ≤ 1000000) (h : IsInts w v zs) (hs : zs.Pairwise (· ≤ ·)) :
    Calls Tryz.prog 70 #[v, .int .i64 x] w fun e w' => e = .returned (.bool (zs.contains x)) ∧ Below w.heap.size w w' := by
  rcases h with ⟨hz, a, c, rfl⟩ | ⟨hz, b, o, c, rfl, hc⟩
  · subst hz
    go_enter Tryz.func70, Tryz.ntmps70
    go_wp2_with fail
    refine (Tryz.slices_BinarySearch_int_empty _ _ _ _).mono ?_
    rintro e w1 ⟨rfl, rfl⟩
    go_wp2
    go_ret
    exact ⟨rfl, Below.refl _ _⟩
  · have HC : Hid (∀ j, j < zs.length → w.cell? ⟨b, o + j, none⟩ = some (.int .i64 (zs.getD j 0))) := hc
    have HS : Hid (zs.Pairwise (· ≤ ·)) := hs
    clear hc hs hz
    go_enter Tryz.func70, Tryz.ntmps70
    go_wp2_with fail
    refine (Tryz.slices_BinarySearch_int b o zs.length c zs x w (Nat.le_refl _) (by omega) HC.out (by rw [List.take_length]; exact HS.out)).mono ?_
    rintro e w1 ⟨rfl, q, rfl⟩
    rw [List.take_length]
    obtain ⟨B, hBe⟩ : ∃ B, B = zs.contains x := ⟨_, rfl⟩
    rw [← hBe]
    have HBe : Hid (B = zs.contains x) := hBe
    clear hBe
    generalize List.countP (fun y => decide (y < x)) zs = C
    go_wp2
    go_ret
    exact ⟨by rw [← HBe.out]; rfl, below_drewN (Below.refl _ _) _⟩

theorem owns_belowS {w w' : World} {B : Nat} {e : TypeId} {k : Nat} {v : Value} {n : Nat} {xs : List Value} (h : w.ownsRow B e k v n xs) (hb : Below w.heap.size w w') : w'.ownsRow B e k v n xs := by
  refine ⟨h.1, ?_⟩
  rcases h.2 with h2 | ⟨g, cap, cur, hv, hg, hh, r⟩
  · exact Or.inl h2
  · have hl : g < w.heap.size := (Array.getElem?_eq_some_iff.1 hh).1
    exact Or.inr ⟨g, cap, cur, hv, hg, by rw [hb.block g hl]; exact hh, r⟩
theorem take_succ_getD (zs : List Int) (k : Nat) (h : k < zs.length) : zs.take (k + 1) = zs.take k ++ [zs.getD k 0] := by
  rw [List.take_succ_eq_append_getElem h]
  simp [List.getD, h]
end Go.Proofs.YtimmkenmahagjaaGreatDoor

/-
  Package set: sorted, Of, by contracts.
-/
import Derived.Test.YtimmkenmahagjaaGreatDoorSetB
import Derived.Test.YtimmkenmahagjaaGreatDoorShelfT
namespace Go.Proofs.YtimmkenmahagjaaGreatDoor
open Go.RowKit Go.Extern.Stop Go.Stop Go.Extern Go.Sort

/-- The numbers in order. -/
def srt (zs : List Int) : List Int := zs.mergeSort fun x y => decide (x ≤ y)
theorem srt_length (zs : List Int) : (srt zs).length = zs.length := by unfold srt; exact List.length_mergeSort zs
/-- The numbers in order, each once. -/
def norm (zs : List Int) : List Int := Lib.compact (srt zs)
theorem norm_length_le (zs : List Int) : (norm zs).length ≤ zs.length := by
  have := Lib.compact_length_le (srt zs)
  rw [srt_length] at this
  exact this

theorem norm_nil : norm [] = [] := List.eq_nil_of_length_eq_zero (Nat.le_zero.1 (norm_length_le []))

theorem isInts_of_holds {w : World} {b o c : Nat} {zs : List Int} {n : Nat} (hn : n = zs.length) (h : Holds (Value.int .i64) w b o zs.toArray) : IsInts w (.slice (some ⟨b, o, none⟩) n c) zs := by
  refine isInts_of_cells hn fun j hj => ?_
  have := (h j (by simpa using hj)).1
  rw [this]
  simp [List.getD, hj]

theorem isInts_of_prefix {w : World} {b o c : Nat} {zs rest : List Int} (h : Holds (Value.int .i64) w b o (zs ++ rest).toArray) : IsInts w (.slice (some ⟨b, o, none⟩) zs.length c) zs := by
  refine isInts_of_cells rfl fun j hj => ?_
  have := (h j (by simp; omega)).1
  rw [this]
  simp [List.getD, hj, List.getElem?_append_left hj]

/-- What sorted leaves: a slice of its own over the numbers in order. -/
def Sorted (w w' : World) (e : Ending) (zs : List Int) : Prop :=
  (zs = [] ∧ ∃ a c, e = .returned (.slice a 0 c) ∧ Below w.heap.size w w') ∨
  (zs ≠ [] ∧ ∃ g cap, e = .returned (.slice (some ⟨g, 0, none⟩) zs.length cap) ∧ w.heap.size ≤ g ∧ g < w'.heap.size ∧ zs.length ≤ cap ∧ Holds (Value.int .i64) w' g 0 (srt zs).toArray ∧ Below w.heap.size w w')

theorem below_grow {B : Nat} {w0 w : World} {os : Array Obj} (h : Below B w0 w) (hB : B ≤ w.heap.size) : Below B w0 (grow w os) :=
  ⟨h.os, h.tape, h.output, by have := h.size; simp [grow]; omega, fun k hk => by rw [heap_grow_old _ _ (by omega)]; exact h.block k hk⟩

set_option maxHeartbeats 1000000 in
theorem sorted_any (zs : List Int) (v : Value) (w : World) (hm : zs.length ≤ 1000000) (h : IsInts w v zs) :
    Calls Tryz.prog 67 #[v] w fun e w' => Sorted w w' e zs := by
  rcases h with ⟨hz, a, c, rfl⟩ | ⟨hz, b, o, c, rfl, hc⟩
  · subst hz
    cases a with
    | none =>
      go_enter Tryz.func67, Tryz.ntmps67
      go_wp2_with fail
      refine (Tryz.slices_Clone_int_nil _ _ _).mono ?_
      rintro e w1 ⟨rfl, rfl⟩
      go_wp2_with fail
      refine (Tryz.slices_Sort_int_none _ _ _).mono ?_
      rintro e w1 ⟨rfl, rfl⟩
      go_wp2_with fail
      go_ret
      exact Or.inl ⟨rfl, _, _, rfl, Below.refl _ _⟩
    | some a =>
      go_enter Tryz.func67, Tryz.ntmps67
      go_wp2_with fail
      refine (Tryz.slices_Clone_int_zero _ _ _).mono ?_
      rintro e w1 ⟨v1, rfl, hown, hnn, hbel⟩
      obtain ⟨g, cap, rfl, _, _, _, _, _, _⟩ := Lib.holds_of_ownsRow (enc := Value.int .i64) (zs := []) hown hnn
      go_wp2_with fail
      refine (Tryz.slices_Sort_int_none _ _ _).mono ?_
      rintro e w2 ⟨rfl, rfl⟩
      go_wp2_with fail
      go_ret
      exact Or.inl ⟨rfl, _, _, rfl, hbel⟩
  · have HZ : Hid (zs ≠ []) := hz
    have HC : Hid (∀ j, j < zs.length → w.cell? ⟨b, o + j, none⟩ = some (.int .i64 (zs.getD j 0))) := hc
    clear hz hc
    go_enter Tryz.func67, Tryz.ntmps67
    go_wp2_with fail
    refine (Tryz.slices_Clone_int b o zs.length c zs w (Nat.le_refl _) (by omega) HC.out).mono ?_
    rintro e w1 ⟨v1, rfl, hown, hnn, hbel⟩
    rw [List.take_length] at hown
    obtain ⟨g, cap, rfl, hbg, hgl, hncap, hcm, hlen, hH⟩ := Lib.holds_of_ownsRow hown hnn
    have HH : Hid (Holds (Value.int .i64) w1 g 0 zs.toArray) := hH
    have HO : Hid (w1.ownsRow w.heap.size 3 1 (.slice (some ⟨g, 0, none⟩) zs.length cap) zs.length (zs.map (Value.int .i64))) := hown
    clear hH hown hnn hlen
    go_wp2_with fail
    refine (Tryz.slices_Sort_int g 0 cap zs w1 HH.out hgl (by omega)).mono ?_
    rintro e w2 ⟨rfl, n, os, rfl⟩
    go_wp2_with fail
    go_ret
    refine Or.inr ⟨HZ.out, g, cap, rfl, hbg, ?_, hncap, ?_, ?_⟩
    · simp [grow, putRow, mapBlock, Sort.ahead]; omega
    · exact holds_grow _ _ os g 0 _ (by simpa [putRow, mapBlock, Sort.ahead] using hgl) (holds_putRow _ _ g 0 _ _ (holds_ahead _ w1 n g 0 _ HH.out) (by simp))
    · exact below_grow (Lib.below_putRow hbel hbg) (by simpa [putRow, mapBlock, Sort.ahead] using hbel.size)

theorem of_no (a : Nat → Addr) (zs : List Int) (v : Value) (w : World) (hm : zs.length ≤ 1000000) (h : IsInts w v zs) (hin : ¬ InB zs) (h3 : Three w a) :
    Calls Tryz.prog 60 #[v] w fun e w' => e = .returned (.tuple #[.slice none 0 0, .iface 210 (.pointer (some (a 1)))]) ∧ Below w.heap.size w w' := by
  have HK : Hid (Calls Tryz.prog 86 #[v] w fun e w' => e = .returned (.iface 210 (.pointer (some (a 1)))) ∧ w' = w) := bounds_no a zs v w hm h hin h3
  clear h hin h3 hm
  go_enter Tryz.func60, Tryz.ntmps60
  go_wp2_with (go_at_call 86; refine HK.out.mono ?_; rintro e w' ⟨rfl, rfl⟩)
  go_ret2
  exact ⟨rfl, Below.refl _ _⟩

theorem of_own (zs : List Int) (v : Value) (w : World) (hm : zs.length ≤ 1000000) (h : IsInts w v zs) (hin : InB zs) :
    Calls Tryz.prog 60 #[v] w fun e w' => ∃ v', e = .returned (.tuple #[v', .nilIface]) ∧ IsInts w' v' (norm zs) ∧ Below w.heap.size w w' ∧ (zs ≠ [] → ∀ g, v'.ownBlock = some g → w.heap.size ≤ g) := by
  have HK : Hid (Calls Tryz.prog 86 #[v] w fun e w' => e = .returned .nilIface ∧ w' = w) := bounds_ok zs v w hm h hin
  have HS : Hid (Calls Tryz.prog 67 #[v] w fun e w' => Sorted w w' e zs) := sorted_any zs v w hm h
  clear h hin
  go_enter Tryz.func60, Tryz.ntmps60
  go_wp2_with fail
  refine HK.out.mono ?_
  rintro e w' ⟨rfl, hw⟩
  obtain rfl := hw.symm
  go_wp2_with fail
  refine HS.out.mono ?_
  rintro e w1 hs
  rcases hs with ⟨hz, b, c, rfl, hB⟩ | ⟨hz, g, cap, rfl, hg1, hg2, hcap, hH, hB⟩
  · subst hz
    go_wp2_with fail
    refine (Tryz.slices_Compact_int_empty _ _ _).mono ?_
    rintro e w2 ⟨rfl, rfl⟩
    go_wp2
    go_ret2
    exact ⟨.slice b 0 c, rfl, by rw [norm_nil]; exact IsInts.nil _ _ _, hB, fun q => absurd rfl q⟩
  · have HH : Hid (Holds (Value.int .i64) w1 g 0 (srt zs).toArray) := hH
    have HD : Hid (Calls Tryz.prog 87 #[.slice (some ⟨g, 0, none⟩) zs.length cap] w1 fun e w' => e = .returned (.slice (some ⟨g, 0, none⟩) (norm zs).length cap) ∧ ∃ q, w' = putRow (Value.int .i64) (Sort.ahead w1 q) g 0 (norm zs ++ List.replicate (zs.length - (norm zs).length) 0).toArray) := by
      have HC := Tryz.slices_Compact_int g 0 cap (srt zs) w1 hH (by rw [srt_length]; omega) (by rw [srt_length]; exact hcap)
      rw [srt_length] at HC
      exact HC
    clear hH hz
    go_wp2_with fail
    refine Calls.mono HD.out ?_
    rintro e w2 ⟨rfl, q, rfl⟩
    go_wp2
    go_ret2
    refine ⟨.slice (some ⟨g, 0, none⟩) (norm zs).length cap, rfl, ?_, Lib.below_putRow hB hg1, fun _ g' hg' => ?_⟩
    rotate_left
    · have : g' = g := by simpa [Value.ownBlock] using hg'.symm
      rw [this]; exact hg1
    refine isInts_of_prefix (rest := List.replicate (zs.length - (norm zs).length) 0) ?_
    exact holds_putRow _ _ g 0 _ _ (holds_ahead _ w1 q g 0 _ HH.out) (by have := norm_length_le zs; simp [srt_length]; omega)
theorem of_ok (zs : List Int) (v : Value) (w : World) (hm : zs.length ≤ 1000000) (h : IsInts w v zs) (hin : InB zs) :
    Calls Tryz.prog 60 #[v] w fun e w' => ∃ v', e = .returned (.tuple #[v', .nilIface]) ∧ IsInts w' v' (norm zs) ∧ Below w.heap.size w w' :=
  (of_own zs v w hm h hin).mono fun _ _ ⟨v', h1, h2, h3, _⟩ => ⟨v', h1, h2, h3⟩
end Go.Proofs.YtimmkenmahagjaaGreatDoor

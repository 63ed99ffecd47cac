/-
  Package set: checkBounds, Check, checkPair, sorted, Of, by contracts.
-/
import Derived.Test.YtglonlpfnllocaaGreatDoorBase
import Derived.Test.YtglonlpfnllocaaGreatDoorShelf
import Derived.Lib.OwnBridge
import Derived.Lib.RowBridge
import Derived.Sort.Grow
import Derived.Test.YtglonlpfnllocaaGreatDoorShelfT
import Derived.OwnWalk
import Derived.Lib.AppendZerosOnto
import Derived.Lib.AppendZeros
namespace Go.Proofs.YtglonlpfnllocaaGreatDoor
open Go.RowKit Go.Extern.Stop Go.Stop Go.Extern

/-- Three of the errors: ErrText, ErrBound, ErrOrder. -/
structure Three (w : World) (a : Nat → Addr) : Prop where
  c1 : w.cell? ⟨5, 0, none⟩ = some (.iface 221 (.pointer (some (a 1))))
  c9 : w.cell? ⟨9, 0, none⟩ = some (.iface 221 (.pointer (some (a 9))))
theorem Three.below {w w' : World} {a : Nat → Addr} (h : Three w a) (hb : Below w.heap.size w w') : Three w' a where
  c1 := cell_keep hb h.c1
  c9 := cell_keep hb h.c9
theorem Errs.three {w : World} {a : Nat → Addr} (h : Errs w a) : Three w a := ⟨h.c1, h.c9⟩

/-- Each number is one that a set may have. -/
def InB (zs : List Int) : Prop := ∀ j, j < zs.length → 0 ≤ zs.getD j 0 ∧ zs.getD j 0 < 1000
/-- The numbers rise. -/
def Rise (zs : List Int) : Prop := ∀ j, j + 1 < zs.length → zs.getD j 0 < zs.getD (j + 1) 0

set_option maxHeartbeats 1000000 in
theorem bounds_ok (zs : List Int) (v : Value) (w : World) (hm : zs.length ≤ 1000000) (h : IsInts w v zs) (hin : InB zs) :
    Calls Tryz.prog 123 #[v] w fun e w' => e = .returned .nilIface ∧ w' = w := by
  have HI : Hid (InB zs) := hin
  clear hin
  rcases h with ⟨hz, b, c, rfl⟩ | ⟨hz, b, o, c, rfl, hc⟩
  · clear hz
    go_enter Tryz.func123, Tryz.ntmps123
    go_wp2
    go_loop [7] (fun t => t = .int .i64 0) (fun _ => 0)
    case atStart => rfl
    case round =>
      subst hrel
      go_wp2
      go_ret
      exact ⟨rfl, rfl⟩
  · have HC : Hid (∀ j, j < zs.length → w.cell? ⟨b, o + j, none⟩ = some (.int .i64 (zs.getD j 0))) := hc
    clear hc hz
    generalize hn : zs.length = n at *
    have HN : Hid (zs.length = n) := hn
    clear hn
    go_enter Tryz.func123, Tryz.ntmps123
    go_wp2
    go_loop [7] (fun t => ∃ k : Nat, k ≤ n ∧ t = .int .i64 k) (fun t => (n - intOf t).toNat)
    case atStart => exact ⟨0, Nat.zero_le _, rfl⟩
    case round =>
      obtain ⟨k, hk, rfl⟩ := hrel
      by_cases hlt : k < n
      · have e1 := HC.out k hlt
        have e2 := HI.out k (by rw [HN.out]; exact hlt)
        generalize zs.getD k 0 = z at e1 e2
        obtain ⟨e3, e4⟩ := e2
        go_wp2
        go_round
        case rel => exact ⟨k + 1, hlt, by go_num⟩
        case measure => simp [intOf]; omega
      · go_wp2
        go_ret
        exact ⟨rfl, rfl⟩

set_option maxHeartbeats 1000000 in
theorem bounds_no (a : Nat → Addr) (zs : List Int) (v : Value) (w : World) (hm : zs.length ≤ 1000000) (h : IsInts w v zs) (hin : ¬ InB zs) (h3 : Three w a) :
    Calls Tryz.prog 123 #[v] w fun e w' => e = .returned (.iface 221 (.pointer (some (a 1)))) ∧ w' = w := by
  have HI : Hid (¬ InB zs) := hin
  have e0 := h3.c1
  clear hin h3
  rcases h with ⟨hz, b, c, rfl⟩ | ⟨hz, b, o, c, rfl, hc⟩
  · subst hz
    exact absurd (fun j hj => absurd hj (Nat.not_lt_zero _)) HI.out
  · have HC : Hid (∀ j, j < zs.length → w.cell? ⟨b, o + j, none⟩ = some (.int .i64 (zs.getD j 0))) := hc
    clear hc hz
    generalize hn : zs.length = n at *
    have HN : Hid (zs.length = n) := hn
    clear hn
    go_enter Tryz.func123, Tryz.ntmps123
    go_wp2
    go_loop [7] (fun t => ∃ k : Nat, k ≤ n ∧ t = .int .i64 k ∧ ∀ j, j < k → 0 ≤ zs.getD j 0 ∧ zs.getD j 0 < 1000) (fun t => (n - intOf t).toNat)
    case atStart => exact ⟨0, Nat.zero_le _, rfl, fun j hj => absurd hj (Nat.not_lt_zero _)⟩
    case round =>
      obtain ⟨k, hk, rfl, hall⟩ := hrel
      have HA : Hid (∀ j, j < k → 0 ≤ zs.getD j 0 ∧ zs.getD j 0 < 1000) := hall
      clear hall
      by_cases hlt : k < n
      · have e1 := HC.out k hlt
        by_cases hb : 0 ≤ zs.getD k 0 ∧ zs.getD k 0 < 1000
        · have HB : Hid (0 ≤ zs.getD k 0 ∧ zs.getD k 0 < 1000) := hb
          generalize zs.getD k 0 = z at e1 hb
          obtain ⟨e3, e4⟩ := hb
          go_wp2
          go_round
          case rel =>
            refine ⟨k + 1, hlt, by go_num, fun j hj => ?_⟩
            rcases Nat.lt_succ_iff_lt_or_eq.1 hj with g | g
            · exact HA.out j g
            · rw [g]; exact HB.out
          case measure => simp [intOf]; omega
        · clear HA
          generalize zs.getD k 0 = z at e1 hb
          by_cases e3 : z < 0
          · clear hb
            go_wp2
            go_ret
            exact ⟨rfl, rfl⟩
          · have e4 : 1000 ≤ z := by omega
            clear hb
            go_wp2
            go_ret
            exact ⟨rfl, rfl⟩
      · refine absurd (fun j hj => HA.out j ?_) HI.out
        rw [HN.out] at hj
        omega
end Go.Proofs.YtglonlpfnllocaaGreatDoor

/-
  Package set: Check, checkPair, sorted, Of, by contracts.
-/
namespace Go.Proofs.YtglonlpfnllocaaGreatDoor
open Go.RowKit Go.Extern.Stop Go.Stop Go.Extern

set_option maxHeartbeats 1000000 in
theorem check_bound (a : Nat → Addr) (zs : List Int) (v : Value) (w : World) (hm : zs.length ≤ 1000000) (h : IsInts w v zs) (hin : ¬ InB zs) (h3 : Three w a) :
    Calls Tryz.prog 142 #[v] w fun e w' => e = .returned (.iface 221 (.pointer (some (a 1)))) ∧ Below w.heap.size w w' := by
  have K := bounds_no a zs v w hm h hin h3
  have HK : Hid (Calls Tryz.prog 123 #[v] w fun e w' => e = .returned (.iface 221 (.pointer (some (a 1)))) ∧ w' = w) := K
  clear K h hin h3 hm
  go_enter Tryz.func142, Tryz.ntmps142
  go_wp2_with (go_at_call 123; refine HK.out.mono ?_; rintro e w' ⟨rfl, hw⟩; obtain rfl := hw.symm)
  go_ret
  exact ⟨rfl, Below.refl _ _⟩

set_option maxHeartbeats 1000000 in
theorem check_ok (zs : List Int) (v : Value) (w : World) (hm : zs.length ≤ 1000000) (h : IsInts w v zs) (hin : InB zs) (hr : Rise zs) :
    Calls Tryz.prog 142 #[v] w fun e w' => e = .returned .nilIface ∧ Below w.heap.size w w' := by
  have HK : Hid (Calls Tryz.prog 123 #[v] w fun e w' => e = .returned .nilIface ∧ w' = w) := bounds_ok zs v w hm h hin
  have HR : Hid (Rise zs) := hr
  clear hin hr
  rcases h with ⟨hz, b, c, rfl⟩ | ⟨hz, b, o, c, rfl, hc⟩
  · clear hz
    go_enter Tryz.func142, Tryz.ntmps142
    go_wp2_with (go_at_call 123; refine HK.out.mono ?_; rintro e w' ⟨rfl, hw⟩; obtain rfl := hw.symm)
    go_loopw [4] (fun t wr => t = .int .i64 1 ∧ wr = w) (fun _ _ => 0)
    case atStart => exact ⟨rfl, rfl⟩
    case round =>
      obtain ⟨rfl, rfl⟩ := hrel
      go_wp2
      go_ret
      exact ⟨rfl, Below.refl _ _⟩
  · have HC : Hid (∀ j, j < zs.length → w.cell? ⟨b, o + j, none⟩ = some (.int .i64 (zs.getD j 0))) := hc
    clear hc
    have hp : 0 < zs.length := List.length_pos_iff.2 hz
    clear hz
    generalize hn : zs.length = n at *
    have HN : Hid (zs.length = n) := hn
    clear hn
    go_enter Tryz.func142, Tryz.ntmps142
    go_wp2_with (go_at_call 123; refine HK.out.mono ?_; rintro e w' ⟨rfl, hw⟩; obtain rfl := hw.symm)
    go_loopw [4] (fun t wr => ∃ k : Nat, k + 1 ≤ n ∧ t = .int .i64 (k + 1) ∧ Below w.heap.size w wr) (fun t _ => (n - intOf t).toNat)
    case atStart => exact ⟨0, by omega, rfl, Below.refl _ _⟩
    case round =>
      obtain ⟨k, hk, rfl, hB⟩ := hrel
      by_cases hlt : k + 1 < n
      · have e1 := cell_keep hB (HC.out k (by omega))
        have e2 := cell_keep hB (HC.out (k + 1) hlt)
        have e3 := HR.out k (by rw [HN.out]; exact hlt)
        generalize zs.getD k 0 = y at e1 e3
        generalize zs.getD (k + 1) 0 = z at e2 e3
        go_wp2
        go_quiet (fail)
        go_wp2
        go_roundw
        case rel => exact ⟨k + 1, by omega, by go_num, below_drewN hB _⟩
        case measure => simp [intOf]; omega
      · go_wp2
        go_ret
        exact ⟨rfl, hB⟩

set_option maxHeartbeats 1000000 in
theorem check_order (a : Nat → Addr) (zs : List Int) (v : Value) (w : World) (hm : zs.length ≤ 1000000) (h : IsInts w v zs) (hin : InB zs) (hr : ¬ Rise zs) (h3 : Three w a) :
    Calls Tryz.prog 142 #[v] w fun e w' => e = .returned (.iface 221 (.pointer (some (a 9)))) ∧ Below w.heap.size w w' := by
  have HK : Hid (Calls Tryz.prog 123 #[v] w fun e w' => e = .returned .nilIface ∧ w' = w) := bounds_ok zs v w hm h hin
  have HR : Hid (¬ Rise zs) := hr
  have H9 : Hid (w.cell? ⟨9, 0, none⟩ = some (.iface 221 (.pointer (some (a 9))))) := h3.c9
  clear hin hr h3
  rcases h with ⟨hz, b, c, rfl⟩ | ⟨hz, b, o, c, rfl, hc⟩
  · subst hz
    exact absurd (fun j hj => absurd hj (Nat.not_lt_zero _)) HR.out
  · have HC : Hid (∀ j, j < zs.length → w.cell? ⟨b, o + j, none⟩ = some (.int .i64 (zs.getD j 0))) := hc
    clear hc
    have hp : 0 < zs.length := List.length_pos_iff.2 hz
    clear hz
    generalize hn : zs.length = n at *
    have HN : Hid (zs.length = n) := hn
    clear hn
    go_enter Tryz.func142, Tryz.ntmps142
    go_wp2_with (go_at_call 123; refine HK.out.mono ?_; rintro e w' ⟨rfl, hw⟩; obtain rfl := hw.symm)
    go_loopw [4] (fun t wr => ∃ k : Nat, k + 1 ≤ n ∧ t = .int .i64 (k + 1) ∧ Below w.heap.size w wr ∧ ∀ j, j < k → zs.getD j 0 < zs.getD (j + 1) 0) (fun t _ => (n - intOf t).toNat)
    case atStart => exact ⟨0, by omega, rfl, Below.refl _ _, fun j hj => absurd hj (Nat.not_lt_zero _)⟩
    case round =>
      obtain ⟨k, hk, rfl, hB, hall⟩ := hrel
      have HA : Hid (∀ j, j < k → zs.getD j 0 < zs.getD (j + 1) 0) := hall
      clear hall
      by_cases hlt : k + 1 < n
      · have e1 := cell_keep hB (HC.out k (by omega))
        have e2 := cell_keep hB (HC.out (k + 1) hlt)
        by_cases hlt2 : zs.getD k 0 < zs.getD (k + 1) 0
        · have HB : Hid (zs.getD k 0 < zs.getD (k + 1) 0) := hlt2
          generalize zs.getD k 0 = y at e1 hlt2
          generalize zs.getD (k + 1) 0 = z at e2 hlt2
          go_wp2
          go_quiet (fail)
          go_wp2
          go_roundw
          case rel =>
            refine ⟨k + 1, by omega, by go_num, below_drewN hB _, fun j hj => ?_⟩
            rcases Nat.lt_succ_iff_lt_or_eq.1 hj with g | g
            · exact HA.out j g
            · rw [g]; exact HB.out
          case measure => simp [intOf]; omega
        · have hge : zs.getD (k + 1) 0 ≤ zs.getD k 0 := by omega
          have e9 := cell_keep hB H9.out
          clear hlt2 HA
          generalize zs.getD k 0 = y at e1 hge
          generalize zs.getD (k + 1) 0 = z at e2 hge
          go_wp2
          go_quiet (fail)
          go_wp2
          go_ret
          exact ⟨rfl, below_drewN hB _⟩
      · refine absurd (fun j hj => HA.out j ?_) HR.out
        rw [HN.out] at hj
        omega

/-- A set: its numbers are ones that a set may have, and they rise. -/
def IsSet (zs : List Int) : Prop := InB zs ∧ Rise zs
end Go.Proofs.YtglonlpfnllocaaGreatDoor

/-
  Package set: sorted, Of, by contracts.
-/
namespace Go.Proofs.YtglonlpfnllocaaGreatDoor
open Go.RowKit Go.Extern.Stop Go.Stop Go.Extern Go.Sort

/-- The numbers in order. -/
def srt (zs : List Int) : List Int := zs.mergeSort fun x y => decide (x ≤ y)
theorem srt_length (zs : List Int) : (srt zs).length = zs.length := by unfold srt; exact List.length_mergeSort zs
/-- The numbers in order, each once. -/
def norm (zs : List Int) : List Int := Lib.compact (srt zs)
theorem norm_length_le (zs : List Int) : (norm zs).length ≤ zs.length := by
  have := Lib.compact_length_le (srt zs)
  rw [srt_length] at this
  exact this

theorem norm_nil : norm [] = [] := List.eq_nil_of_length_eq_zero (Nat.le_zero.1 (norm_length_le []))

theorem isInts_of_holds {w : World} {b o c : Nat} {zs : List Int} {n : Nat} (hn : n = zs.length) (h : Holds (Value.int .i64) w b o zs.toArray) : IsInts w (.slice (some ⟨b, o, none⟩) n c) zs := by
  refine isInts_of_cells hn fun j hj => ?_
  have := (h j (by simpa using hj)).1
  rw [this]
  simp [List.getD, hj]

theorem isInts_of_prefix {w : World} {b o c : Nat} {zs rest : List Int} (h : Holds (Value.int .i64) w b o (zs ++ rest).toArray) : IsInts w (.slice (some ⟨b, o, none⟩) zs.length c) zs := by
  refine isInts_of_cells rfl fun j hj => ?_
  have := (h j (by simp; omega)).1
  rw [this]
  simp [List.getD, hj, List.getElem?_append_left hj]

/-- What sorted leaves: a slice of its own over the numbers in order. -/
def Sorted (w w' : World) (e : Ending) (zs : List Int) : Prop :=
  (zs = [] ∧ ∃ a c, e = .returned (.slice a 0 c) ∧ Below w.heap.size w w') ∨
  (zs ≠ [] ∧ ∃ g cap, e = .returned (.slice (some ⟨g, 0, none⟩) zs.length cap) ∧ w.heap.size ≤ g ∧ g < w'.heap.size ∧ zs.length ≤ cap ∧ Holds (Value.int .i64) w' g 0 (srt zs).toArray ∧ Below w.heap.size w w')

theorem below_grow {B : Nat} {w0 w : World} {os : Array Obj} (h : Below B w0 w) (hB : B ≤ w.heap.size) : Below B w0 (grow w os) :=
  ⟨h.os, h.tape, h.output, by have := h.size; simp [grow]; omega, fun k hk => by rw [heap_grow_old _ _ (by omega)]; exact h.block k hk⟩

set_option maxHeartbeats 1000000 in
theorem sorted_any (zs : List Int) (v : Value) (w : World) (hm : zs.length ≤ 1000000) (h : IsInts w v zs) :
    Calls Tryz.prog 52 #[v] w fun e w' => Sorted w w' e zs := by
  rcases h with ⟨hz, a, c, rfl⟩ | ⟨hz, b, o, c, rfl, hc⟩
  · subst hz
    cases a with
    | none =>
      go_enter Tryz.func52, Tryz.ntmps52
      go_wp2_with fail
      refine (Tryz.slices_Clone_int_nil _ _ _).mono ?_
      rintro e w1 ⟨rfl, rfl⟩
      go_wp2_with fail
      refine (Tryz.slices_Sort_int_none _ _ _).mono ?_
      rintro e w1 ⟨rfl, rfl⟩
      go_wp2_with fail
      go_ret
      exact Or.inl ⟨rfl, _, _, rfl, Below.refl _ _⟩
    | some a =>
      go_enter Tryz.func52, Tryz.ntmps52
      go_wp2_with fail
      refine (Tryz.slices_Clone_int_zero _ _ _).mono ?_
      rintro e w1 ⟨v1, rfl, hown, hnn, hbel⟩
      obtain ⟨g, cap, rfl, _, _, _, _, _, _⟩ := Lib.holds_of_ownsRow (enc := Value.int .i64) (zs := []) hown hnn
      go_wp2_with fail
      refine (Tryz.slices_Sort_int_none _ _ _).mono ?_
      rintro e w2 ⟨rfl, rfl⟩
      go_wp2_with fail
      go_ret
      exact Or.inl ⟨rfl, _, _, rfl, hbel⟩
  · have HZ : Hid (zs ≠ []) := hz
    have HC : Hid (∀ j, j < zs.length → w.cell? ⟨b, o + j, none⟩ = some (.int .i64 (zs.getD j 0))) := hc
    clear hz hc
    go_enter Tryz.func52, Tryz.ntmps52
    go_wp2_with fail
    refine (Tryz.slices_Clone_int b o zs.length c zs w (Nat.le_refl _) (by omega) HC.out).mono ?_
    rintro e w1 ⟨v1, rfl, hown, hnn, hbel⟩
    rw [List.take_length] at hown
    obtain ⟨g, cap, rfl, hbg, hgl, hncap, hcm, hlen, hH⟩ := Lib.holds_of_ownsRow hown hnn
    have HH : Hid (Holds (Value.int .i64) w1 g 0 zs.toArray) := hH
    have HO : Hid (w1.ownsRow w.heap.size 3 1 (.slice (some ⟨g, 0, none⟩) zs.length cap) zs.length (zs.map (Value.int .i64))) := hown
    clear hH hown hnn hlen
    go_wp2_with fail
    refine (Tryz.slices_Sort_int g 0 cap zs w1 HH.out hgl (by omega)).mono ?_
    rintro e w2 ⟨rfl, n, os, rfl⟩
    go_wp2_with fail
    go_ret
    refine Or.inr ⟨HZ.out, g, cap, rfl, hbg, ?_, hncap, ?_, ?_⟩
    · simp [grow, putRow, mapBlock, Sort.ahead]; omega
    · exact holds_grow _ _ os g 0 _ (by simpa [putRow, mapBlock, Sort.ahead] using hgl) (holds_putRow _ _ g 0 _ _ (holds_ahead _ w1 n g 0 _ HH.out) (by simp))
    · exact below_grow (Lib.below_putRow hbel hbg) (by simpa [putRow, mapBlock, Sort.ahead] using hbel.size)

theorem of_no (a : Nat → Addr) (zs : List Int) (v : Value) (w : World) (hm : zs.length ≤ 1000000) (h : IsInts w v zs) (hin : ¬ InB zs) (h3 : Three w a) :
    Calls Tryz.prog 93 #[v] w fun e w' => e = .returned (.tuple #[.slice none 0 0, .iface 221 (.pointer (some (a 1)))]) ∧ Below w.heap.size w w' := by
  have HK : Hid (Calls Tryz.prog 123 #[v] w fun e w' => e = .returned (.iface 221 (.pointer (some (a 1)))) ∧ w' = w) := bounds_no a zs v w hm h hin h3
  clear h hin h3 hm
  go_enter Tryz.func93, Tryz.ntmps93
  go_wp2_with (go_at_call 123; refine HK.out.mono ?_; rintro e w' ⟨rfl, rfl⟩)
  go_ret2
  exact ⟨rfl, Below.refl _ _⟩

theorem of_own (zs : List Int) (v : Value) (w : World) (hm : zs.length ≤ 1000000) (h : IsInts w v zs) (hin : InB zs) :
    Calls Tryz.prog 93 #[v] w fun e w' => ∃ v', e = .returned (.tuple #[v', .nilIface]) ∧ IsInts w' v' (norm zs) ∧ Below w.heap.size w w' ∧ (zs ≠ [] → ∀ g, v'.ownBlock = some g → w.heap.size ≤ g) := by
  have HK : Hid (Calls Tryz.prog 123 #[v] w fun e w' => e = .returned .nilIface ∧ w' = w) := bounds_ok zs v w hm h hin
  have HS : Hid (Calls Tryz.prog 52 #[v] w fun e w' => Sorted w w' e zs) := sorted_any zs v w hm h
  clear h hin
  go_enter Tryz.func93, Tryz.ntmps93
  go_wp2_with fail
  refine HK.out.mono ?_
  rintro e w' ⟨rfl, hw⟩
  obtain rfl := hw.symm
  go_wp2_with fail
  refine HS.out.mono ?_
  rintro e w1 hs
  rcases hs with ⟨hz, b, c, rfl, hB⟩ | ⟨hz, g, cap, rfl, hg1, hg2, hcap, hH, hB⟩
  · subst hz
    go_wp2_with fail
    refine (Tryz.slices_Compact_int_empty _ _ _).mono ?_
    rintro e w2 ⟨rfl, rfl⟩
    go_wp2
    go_ret2
    exact ⟨.slice b 0 c, rfl, by rw [norm_nil]; exact IsInts.nil _ _ _, hB, fun q => absurd rfl q⟩
  · have HH : Hid (Holds (Value.int .i64) w1 g 0 (srt zs).toArray) := hH
    have HD : Hid (Calls Tryz.prog 124 #[.slice (some ⟨g, 0, none⟩) zs.length cap] w1 fun e w' => e = .returned (.slice (some ⟨g, 0, none⟩) (norm zs).length cap) ∧ ∃ q, w' = putRow (Value.int .i64) (Sort.ahead w1 q) g 0 (norm zs ++ List.replicate (zs.length - (norm zs).length) 0).toArray) := by
      have HC := Tryz.slices_Compact_int g 0 cap (srt zs) w1 hH (by rw [srt_length]; omega) (by rw [srt_length]; exact hcap)
      rw [srt_length] at HC
      exact HC
    clear hH hz
    go_wp2_with fail
    refine Calls.mono HD.out ?_
    rintro e w2 ⟨rfl, q, rfl⟩
    go_wp2
    go_ret2
    refine ⟨.slice (some ⟨g, 0, none⟩) (norm zs).length cap, rfl, ?_, Lib.below_putRow hB hg1, fun _ g' hg' => ?_⟩
    rotate_left
    · have : g' = g := by simpa [Value.ownBlock] using hg'.symm
      rw [this]; exact hg1
    refine isInts_of_prefix (rest := List.replicate (zs.length - (norm zs).length) 0) ?_
    exact holds_putRow _ _ g 0 _ _ (holds_ahead _ w1 q g 0 _ HH.out) (by have := norm_length_le zs; simp [srt_length]; omega)
theorem of_ok (zs : List Int) (v : Value) (w : World) (hm : zs.length ≤ 1000000) (h : IsInts w v zs) (hin : InB zs) :
    Calls Tryz.prog 93 #[v] w fun e w' => ∃ v', e = .returned (.tuple #[v', .nilIface]) ∧ IsInts w' v' (norm zs) ∧ Below w.heap.size w w' :=
  (of_own zs v w hm h hin).mono fun _ _ ⟨v', h1, h2, h3, _⟩ => ⟨v', h1, h2, h3⟩
end Go.Proofs.YtglonlpfnllocaaGreatDoor

/-
  Lists of numbers put behind one another: append, OwnInts.
-/
namespace Go.Proofs.YtglonlpfnllocaaGreatDoor
open Go.RowKit Go.Extern.Stop Go.Stop Go.Extern Go.Sort

theorem Tryz.infoIntS : (Tryz.prog.info? 3).map (fun i => (i.zero, i.size, i.bytes)) = some (some (.int .i64 0), 1, 8) := by kernel_rfl

theorem heap_newS (w : World) (o : Obj) : (w.alloc o).heap[w.heap.size]? = some o := by
  show (w.heap.push o)[w.heap.size]? = some o
  simp

theorem IsInts.form {w : World} {v : Value} {zs : List Int} (h : IsInts w v zs) : ∃ a c, v = .slice a zs.length c := by
  rcases h with ⟨hz, a, c, rfl⟩ | ⟨hz, b, o, c, rfl, hc⟩
  · subst hz; exact ⟨a, c, rfl⟩
  · exact ⟨_, c, rfl⟩

theorem isInts_of_owns {w : World} {base n : Nat} {v : Value} {zs : List Int} (h : w.ownsRow base 3 1 v n (zs.map (Value.int .i64))) : IsInts w v zs := by
  have hn : n = zs.length := by have := h.1; simp at this; omega
  rcases h.2 with ⟨rfl, h0⟩ | ⟨g, cap, cur, rfl, _⟩
  · have : zs = [] := List.eq_nil_of_length_eq_zero (by omega)
    subst this
    exact IsInts.nil _ _ _
  · refine isInts_of_cells hn fun j hj => ?_
    have := h.cells (g := g) rfl j (.int .i64 (zs.getD j 0)) (by simp [List.getD, hj])
    rw [Addr.add_lit] at this
    exact this

theorem run_append_ints (w : World) (base : Nat) (v : Value) (n : Nat) (xs : List Value) (hown : w.ownsRow base 3 1 v n xs) (x : Value) (zs : List Int) (hx : IsInts w x zs)
    (hbd : n + zs.length ≤ 10000000) (hbase : base ≤ w.heap.size) (ty : TypeId) :
    ∃ v' w', (Builtin.append_ #[40, 40] ty #[v, x]).run Tryz.prog w = .ok v' w' ∧ w'.ownsRow base 3 1 v' (n + zs.length) (xs ++ zs.map (Value.int .i64)) ∧ w.grownBy w' v.ownBlock := by
  obtain ⟨i0, hi, hz0, hz1, hz2⟩ := info_parts Tryz.infoIntS
  have some_case : ∀ (ad : Addr) (c : Nat), x = .slice (some ad) zs.length c → (∀ j u, (zs.map (Value.int .i64))[j]? = some u → w.cell? (ad.add j) = some u) →
      ∃ v' w', (Builtin.append_ #[40, 40] ty #[v, x]).run Tryz.prog w = .ok v' w' ∧ w'.ownsRow base 3 1 v' (n + zs.length) (xs ++ zs.map (Value.int .i64)) ∧ w.grownBy w' v.ownBlock := by
    intro ad c ex hc
    subst ex
    obtain ⟨v', w', h1, h2, h3, _⟩ := run_append_own (P := Tryz.prog) w base 40 ty 3 i0 (.int .i64 0) 1 8 Tryz.underlying40 hi hz0 hz1 hz2 rfl (by decide) v n xs hown ad zs.length c (zs.map (Value.int .i64)) (by simp) hc
      (fun u hu => by obtain ⟨y, _, rfl⟩ := List.mem_map.1 hu; rfl) (by unfold maxLen; omega) (by omega) hbase
    exact ⟨v', w', h1, h2, h3⟩
  rcases hx with ⟨hz, a, c, rfl⟩ | ⟨hz, b, o, c, rfl, hc⟩
  · subst hz
    cases a with
    | some ad => exact some_case ad c rfl (fun j u hj => by simp at hj)
    | none =>
      clear some_case
      rcases hown.2 with ⟨rfl, rfl⟩ | ⟨g, cap, cur, rfl, hb, hg, hnc, hcm, hs, ht⟩
      · refine ⟨.slice none 0 0, w, ?_, by simpa using hown, ⟨rfl, rfl, rfl, Nat.le_refl _, fun _ _ _ => rfl⟩⟩
        simp [Builtin.append_, run_underlying Tryz.underlying40, sizeOf, typeInfo, hi, Builtin.lenOf, Builtin.firstCells]
      · refine ⟨.slice (some ⟨g, 0, none⟩) n cap, w, ?_, by simpa using hown, ⟨rfl, rfl, rfl, Nat.le_refl _, fun _ _ _ => rfl⟩⟩
        simp [Builtin.append_, run_underlying Tryz.underlying40, sizeOf, typeInfo, hi, Builtin.lenOf, Builtin.firstCells, hnc, storeCells]
  · refine some_case ⟨b, o, none⟩ c rfl (fun j u hj => ?_)
    have hjl : j < zs.length := by have := (List.getElem?_eq_some_iff.1 hj).1; simpa using this
    rw [Addr.add_lit, hc j hjl]
    rw [← hj]
    simp [List.getD, hjl]

theorem below_of_grownS {B : Nat} {w w' : World} {v : Value} (hg : w.grownBy w' v.ownBlock) (hB : B ≤ w.heap.size) {base n : Nat} {xs : List Value} (ho : w.ownsRow base 3 1 v n xs) (hb : B ≤ base) : Below B w w' :=
  (Below.refl B w).grown hg hB (fun k hk => by
    rcases ho.2 with ⟨rfl, _⟩ | ⟨g, cap, cur, rfl, hbg, _⟩
    · cases hk
    · have : g = k := by simpa [Value.ownBlock] using hk
      omega)

set_option maxRecDepth 100000 in
/-- OwnInts: a copy in memory of its own. -/
theorem ownInts_any (zs : List Int) (v : Value) (w : World) (hm : zs.length ≤ 1000000) (h : IsInts w v zs) :
    Calls Tryz.prog 29 #[v] w fun e w' => ∃ v', e = .returned v' ∧ IsInts w' v' zs ∧ Below w.heap.size w w' := by
  obtain ⟨v', w', hr, ho, hg⟩ := run_append_ints w w.heap.size (.slice none 0 0) 0 [] (World.ownsRow_nil _ _ _ _) v zs h (by omega) (Nat.le_refl _) 40
  have HI : IsInts w' v' zs := isInts_of_owns ho
  have HB : Below w.heap.size w w' := below_of_grownS hg (Nat.le_refl _) (World.ownsRow_nil w w.heap.size _ _) (Nat.le_refl _)
  have HX : Hid (IsInts w' v' zs ∧ Below w.heap.size w w') := ⟨HI, HB⟩
  clear HI HB ho hg h
  go_enter Tryz.func29, Tryz.ntmps29
  go_wp2_with (at_builtin; refine Lib.wpList_append_run _ rfl _ _ _ _ rfl _ _ rfl rfl _ _ hr ?_)
  go_ret
  exact ⟨v', rfl, HX.out⟩
end Go.Proofs.YtglonlpfnllocaaGreatDoor

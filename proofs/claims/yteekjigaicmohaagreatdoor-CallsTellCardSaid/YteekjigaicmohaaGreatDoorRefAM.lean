/-
  The document's answers on sets: SetError and Has of package fingerpostref1, by contracts.
-/
import Derived.Test.YteekjigaicmohaaGreatDoorXSM
namespace Go.Proofs.YteekjigaicmohaaGreatDoor
open Go.RowKit Go.Extern.Stop Go.Stop Go.Extern

set_option maxHeartbeats 1000000 in
theorem refErr_bound (zs : List Int) (v : Value) (w : World) (hm : zs.length ≤ 1000000) (h : IsInts w v zs) (hin : ¬ InB zs) :
    Calls Tryz.prog 26 #[v] w fun e w' => e = .returned (.int .i64 2) ∧ Below w.heap.size w w' := by
  have HI : Hid (¬ InB zs) := hin
  clear hin
  rcases h with ⟨hz, b, c, rfl⟩ | ⟨hz, b, o, c, rfl, hc⟩
  · subst hz
    exact absurd (fun j hj => absurd hj (Nat.not_lt_zero _)) HI.out
  · have HC : Hid (∀ j, j < zs.length → w.cell? ⟨b, o + j, none⟩ = some (.int .i64 (zs.getD j 0))) := hc
    clear hc hz
    generalize hn : zs.length = n at *
    have HN : Hid (zs.length = n) := hn
    clear hn
    go_enter Tryz.func26, Tryz.ntmps26
    go_wp2_with fail
    go_loopw [3] (fun t wr => ∃ k : Nat, k ≤ n ∧ t = .int .i64 k ∧ wr = w ∧ ∀ j, j < k → 0 ≤ zs.getD j 0 ∧ zs.getD j 0 < 1000) (fun t _ => (n - intOf t).toNat)
    case atStart => exact ⟨0, Nat.zero_le _, rfl, rfl, fun j hj => absurd hj (Nat.not_lt_zero _)⟩
    case round =>
      obtain ⟨k, hk, rfl, rfl, hall⟩ := hrel
      have HA : Hid (∀ j, j < k → 0 ≤ zs.getD j 0 ∧ zs.getD j 0 < 1000) := hall
      clear hall
      by_cases hlt : k < n
      · have e1 := HC.out k hlt
        by_cases hb : 0 ≤ zs.getD k 0 ∧ zs.getD k 0 < 1000
        · have HB : Hid (0 ≤ zs.getD k 0 ∧ zs.getD k 0 < 1000) := hb
          generalize zs.getD k 0 = z at e1 hb
          obtain ⟨e3, e4⟩ := hb
          go_wp2_with fail
          go_roundw
          case rel =>
            refine ⟨k + 1, hlt, by go_num, trivial, fun j hj => ?_⟩
            rcases Nat.lt_succ_iff_lt_or_eq.1 hj with g | g
            · exact HA.out j g
            · rw [g]; exact HB.out
          case measure => simp [intOf]; omega
        · clear HA
          generalize zs.getD k 0 = z at e1 hb
          by_cases e3 : z < 0
          · clear hb
            go_wp2_with fail
            go_ret
            exact ⟨rfl, Below.refl _ _⟩
          · have e4 : 1000 ≤ z := by omega
            clear hb
            go_wp2_with fail
            go_ret
            exact ⟨rfl, Below.refl _ _⟩
      · refine absurd (fun j hj => HA.out j ?_) HI.out
        rw [HN.out] at hj
        omega

set_option maxHeartbeats 1000000 in
theorem refErr_ok (zs : List Int) (v : Value) (w : World) (hm : zs.length ≤ 1000000) (h : IsInts w v zs) (hin : InB zs) (hr : Rise zs) :
    Calls Tryz.prog 26 #[v] w fun e w' => e = .returned (.int .i64 0) ∧ Below w.heap.size w w' := by
  have HI : Hid (InB zs) := hin
  have HR : Hid (Rise zs) := hr
  clear hin hr
  rcases h with ⟨hz, b, c, rfl⟩ | ⟨hz, b, o, c, rfl, hc⟩
  · subst hz
    go_enter Tryz.func26, Tryz.ntmps26
    go_wp2_with fail
    go_loopw [3] (fun t wr => t = .int .i64 0 ∧ wr = w) (fun _ _ => 0)
    case atStart => exact ⟨rfl, rfl⟩
    case round =>
      obtain ⟨rfl, rfl⟩ := hrel
      go_wp2_with fail
      go_loopw [4] (fun t wr2 => t = .int .i64 1 ∧ wr2 = wr) (fun _ _ => 0)
      case atStart => exact ⟨rfl, rfl⟩
      case round =>
        obtain ⟨rfl, rfl⟩ := hrel
        go_wp2_with fail
        go_ret
        exact ⟨rfl, Below.refl _ _⟩
  · have HC : Hid (∀ j, j < zs.length → w.cell? ⟨b, o + j, none⟩ = some (.int .i64 (zs.getD j 0))) := hc
    clear hc
    have hp : 0 < zs.length := List.length_pos_iff.2 hz
    clear hz
    generalize hn : zs.length = n at *
    have HN : Hid (zs.length = n) := hn
    clear hn
    go_enter Tryz.func26, Tryz.ntmps26
    go_wp2_with fail
    go_loopw [3] (fun t wr => ∃ k : Nat, k ≤ n ∧ t = .int .i64 k ∧ wr = w) (fun t _ => (n - intOf t).toNat)
    case atStart => exact ⟨0, Nat.zero_le _, rfl, rfl⟩
    case round =>
      obtain ⟨k, hk, rfl, rfl⟩ := hrel
      by_cases hlt : k < n
      · have e1 := HC.out k hlt
        have e2 := HI.out k (by rw [HN.out]; exact hlt)
        generalize zs.getD k 0 = z at e1 e2
        obtain ⟨e3, e4⟩ := e2
        go_wp2_with fail
        go_roundw
        case rel => exact ⟨k + 1, hlt, by go_num, trivial⟩
        case measure => simp [intOf]; omega
      · go_wp2_with fail
        clear hlt hk
        obtain ⟨w0, rfl⟩ : ∃ w0, w0 = wr := ⟨_, rfl⟩
        go_loopw [4] (fun t wr => ∃ k : Nat, k + 1 ≤ n ∧ t = .int .i64 (k + 1) ∧ Below w0.heap.size w0 wr) (fun t _ => (n - intOf t).toNat)
        case atStart => exact ⟨0, by omega, rfl, Below.refl _ _⟩
        case round =>
          obtain ⟨k, hk, rfl, hB⟩ := hrel
          by_cases hlt : k + 1 < n
          · have e1 := cell_keep hB (HC.out k (by omega))
            have e2 := cell_keep hB (HC.out (k + 1) hlt)
            have e3 := HR.out k (by rw [HN.out]; exact hlt)
            generalize zs.getD k 0 = y at e1 e3
            generalize zs.getD (k + 1) 0 = z at e2 e3
            go_wp2
            go_quiet (fail)
            go_wp2
            go_roundw
            case rel => exact ⟨k + 1, by omega, by go_num, below_drewN hB _⟩
            case measure => simp [intOf]; omega
          · go_wp2
            go_ret
            exact ⟨rfl, hB⟩

set_option maxHeartbeats 1000000 in
theorem refErr_order (zs : List Int) (v : Value) (w : World) (hm : zs.length ≤ 1000000) (h : IsInts w v zs) (hin : InB zs) (hr : ¬ Rise zs) :
    Calls Tryz.prog 26 #[v] w fun e w' => e = .returned (.int .i64 10) ∧ Below w.heap.size w w' := by
  have HI : Hid (InB zs) := hin
  have HR : Hid (¬ Rise zs) := hr
  clear hin hr
  rcases h with ⟨hz, b, c, rfl⟩ | ⟨hz, b, o, c, rfl, hc⟩
  · subst hz
    exact absurd (fun j hj => absurd hj (Nat.not_lt_zero _)) HR.out
  · have HC : Hid (∀ j, j < zs.length → w.cell? ⟨b, o + j, none⟩ = some (.int .i64 (zs.getD j 0))) := hc
    clear hc
    have hp : 0 < zs.length := List.length_pos_iff.2 hz
    clear hz
    generalize hn : zs.length = n at *
    have HN : Hid (zs.length = n) := hn
    clear hn
    go_enter Tryz.func26, Tryz.ntmps26
    go_wp2_with fail
    go_loopw [3] (fun t wr => ∃ k : Nat, k ≤ n ∧ t = .int .i64 k ∧ wr = w) (fun t _ => (n - intOf t).toNat)
    case atStart => exact ⟨0, Nat.zero_le _, rfl, rfl⟩
    case round =>
      obtain ⟨k, hk, rfl, rfl⟩ := hrel
      by_cases hlt : k < n
      · have e1 := HC.out k hlt
        have e2 := HI.out k (by rw [HN.out]; exact hlt)
        generalize zs.getD k 0 = z at e1 e2
        obtain ⟨e3, e4⟩ := e2
        go_wp2_with fail
        go_roundw
        case rel => exact ⟨k + 1, hlt, by go_num, trivial⟩
        case measure => simp [intOf]; omega
      · go_wp2_with fail
        clear hlt hk
        obtain ⟨w0, rfl⟩ : ∃ w0, w0 = wr := ⟨_, rfl⟩
        go_loopw [4] (fun t wr => ∃ k : Nat, k + 1 ≤ n ∧ t = .int .i64 (k + 1) ∧ Below w0.heap.size w0 wr ∧ ∀ j, j < k → zs.getD j 0 < zs.getD (j + 1) 0) (fun t _ => (n - intOf t).toNat)
        case atStart => exact ⟨0, by omega, rfl, Below.refl _ _, fun j hj => absurd hj (Nat.not_lt_zero _)⟩
        case round =>
          obtain ⟨k, hk, rfl, hB, hall⟩ := hrel
          have HA : Hid (∀ j, j < k → zs.getD j 0 < zs.getD (j + 1) 0) := hall
          clear hall
          by_cases hlt : k + 1 < n
          · have e1 := cell_keep hB (HC.out k (by omega))
            have e2 := cell_keep hB (HC.out (k + 1) hlt)
            by_cases hlt2 : zs.getD k 0 < zs.getD (k + 1) 0
            · have HB : Hid (zs.getD k 0 < zs.getD (k + 1) 0) := hlt2
              generalize zs.getD k 0 = y at e1 hlt2
              generalize zs.getD (k + 1) 0 = z at e2 hlt2
              go_wp2
              go_quiet (fail)
              go_wp2
              go_roundw
              case rel =>
                refine ⟨k + 1, by omega, by go_num, below_drewN hB _, fun j hj => ?_⟩
                rcases Nat.lt_succ_iff_lt_or_eq.1 hj with g | g
                · exact HA.out j g
                · rw [g]; exact HB.out
              case measure => simp [intOf]; omega
            · have hge : zs.getD (k + 1) 0 ≤ zs.getD k 0 := by omega
              clear hlt2 HA
              generalize zs.getD k 0 = y at e1 hge
              generalize zs.getD (k + 1) 0 = z at e2 hge
              go_wp2
              go_quiet (fail)
              go_wp2
              go_ret
              exact ⟨rfl, below_drewN hB _⟩
          · refine absurd (fun j hj => HA.out j ?_) HR.out
            rw [HN.out] at hj
            omega

set_option maxHeartbeats 1000000 in
theorem refHas_any (zs : List Int) (v : Value) (x : Int) (w : World) (hm : zs.length ≤ 1000000) (h : IsInts w v zs) :
    Calls Tryz.prog 35 #[v, .int .i64 x] w fun e w' => e = .returned (.bool (zs.contains x)) ∧ w' = w := by
  rcases h with ⟨hz, b, c, rfl⟩ | ⟨hz, b, o, c, rfl, hc⟩
  · subst hz
    go_enter Tryz.func35, Tryz.ntmps35
    go_wp2_with fail
    go_loop [5] (fun t => t = .int .i64 0) (fun _ => 0)
    case atStart => rfl
    case round =>
      subst hrel
      go_wp2
      go_ret
      exact ⟨rfl, rfl⟩
  · have HC : Hid (∀ j, j < zs.length → w.cell? ⟨b, o + j, none⟩ = some (.int .i64 (zs.getD j 0))) := hc
    clear hc hz
    generalize hn : zs.length = n at *
    have HN : Hid (zs.length = n) := hn
    clear hn
    go_enter Tryz.func35, Tryz.ntmps35
    go_wp2_with fail
    go_loop [5] (fun t => ∃ k : Nat, k ≤ n ∧ t = .int .i64 k ∧ ∀ j, j < k → zs.getD j 0 ≠ x) (fun t => (n - intOf t).toNat)
    case atStart => exact ⟨0, Nat.zero_le _, rfl, fun j hj => absurd hj (Nat.not_lt_zero _)⟩
    case round =>
      obtain ⟨k, hk, rfl, hall⟩ := hrel
      have HA : Hid (∀ j, j < k → zs.getD j 0 ≠ x) := hall
      clear hall
      by_cases hlt : k < n
      · have e1 := HC.out k hlt
        have hkl : k < zs.length := by rw [HN.out]; exact hlt
        obtain ⟨z, hze⟩ : ∃ z, z = zs.getD k 0 := ⟨_, rfl⟩
        rw [← hze] at e1
        have HZ : Hid (z = zs.getD k 0 ∧ k < zs.length) := ⟨hze, hkl⟩
        clear hze hkl
        cases hzx : (z == x) with
        | true =>
          go_wp2
          go_ret
          refine ⟨?_, rfl⟩
          have : x ∈ zs := by
            rw [← beq_iff_eq.1 hzx, HZ.out.1]
            simp [List.getD, HZ.out.2]
          rw [decide_eq_true this]
          rfl
        | false =>
          have HNE : Hid (z ≠ x) := beq_eq_false_iff_ne.1 hzx
          go_wp2
          go_round
          case rel =>
            refine ⟨k + 1, hlt, by go_num, fun j hj => ?_⟩
            rcases Nat.lt_succ_iff_lt_or_eq.1 hj with g | g
            · exact HA.out j g
            · rw [g, ← HZ.out.1]; exact HNE.out
          case measure => simp [intOf]; omega
      · go_wp2
        go_ret
        refine ⟨?_, rfl⟩
        have : ¬ x ∈ zs := by
          intro hc
          obtain ⟨j, hj, e⟩ := List.mem_iff_getElem.1 hc
          exact absurd (by simp [List.getD, hj, e]) (HA.out j (by rw [HN.out] at hj; omega))
        rw [decide_eq_false this]
        rfl

end Go.Proofs.YteekjigaicmohaaGreatDoor

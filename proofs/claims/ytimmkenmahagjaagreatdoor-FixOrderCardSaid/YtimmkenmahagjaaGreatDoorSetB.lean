/-
  Package set: Check, checkPair, sorted, Of, by contracts.
-/
import Derived.Test.YtimmkenmahagjaaGreatDoorSetA
namespace Go.Proofs.YtimmkenmahagjaaGreatDoor
open Go.RowKit Go.Extern.Stop Go.Stop Go.Extern

set_option maxHeartbeats 1000000 in
theorem check_bound (a : Nat → Addr) (zs : List Int) (v : Value) (w : World) (hm : zs.length ≤ 1000000) (h : IsInts w v zs) (hin : ¬ InB zs) (h3 : Three w a) :
    Calls Tryz.prog 85 #[v] w fun e w' => e = .returned (.iface 210 (.pointer (some (a 1)))) ∧ Below w.heap.size w w' := by
  have K := bounds_no a zs v w hm h hin h3
  have HK : Hid (Calls Tryz.prog 86 #[v] w fun e w' => e = .returned (.iface 210 (.pointer (some (a 1)))) ∧ w' = w) := K
  clear K h hin h3 hm
  go_enter Tryz.func85, Tryz.ntmps85
  go_wp2_with (go_at_call 86; refine HK.out.mono ?_; rintro e w' ⟨rfl, hw⟩; obtain rfl := hw.symm)
  go_ret
  exact ⟨rfl, Below.refl _ _⟩

set_option maxHeartbeats 1000000 in
theorem check_ok (zs : List Int) (v : Value) (w : World) (hm : zs.length ≤ 1000000) (h : IsInts w v zs) (hin : InB zs) (hr : Rise zs) :
    Calls Tryz.prog 85 #[v] w fun e w' => e = .returned .nilIface ∧ Below w.heap.size w w' := by
  have HK : Hid (Calls Tryz.prog 86 #[v] w fun e w' => e = .returned .nilIface ∧ w' = w) := bounds_ok zs v w hm h hin
  have HR : Hid (Rise zs) := hr
  clear hin hr
  rcases h with ⟨hz, b, c, rfl⟩ | ⟨hz, b, o, c, rfl, hc⟩
  · clear hz
    go_enter Tryz.func85, Tryz.ntmps85
    go_wp2_with (go_at_call 86; refine HK.out.mono ?_; rintro e w' ⟨rfl, hw⟩; obtain rfl := hw.symm)
    go_loopw [4] (fun t wr => t = .int .i64 1 ∧ wr = w) (fun _ _ => 0)
    case atStart => exact ⟨rfl, rfl⟩
    case round =>
      obtain ⟨rfl, rfl⟩ := hrel
      go_wp2
      go_ret
      exact ⟨rfl, Below.refl _ _⟩
  · have HC : Hid (∀ j, j < zs.length → w.cell? ⟨b, o + j, none⟩ = some (.int .i64 (zs.getD j 0))) := hc
    clear hc
    have hp : 0 < zs.length := List.length_pos_iff.2 hz
    clear hz
    generalize hn : zs.length = n at *
    have HN : Hid (zs.length = n) := hn
    clear hn
    go_enter Tryz.func85, Tryz.ntmps85
    go_wp2_with (go_at_call 86; refine HK.out.mono ?_; rintro e w' ⟨rfl, hw⟩; obtain rfl := hw.symm)
    go_loopw [4] (fun t wr => ∃ k : Nat, k + 1 ≤ n ∧ t = .int .i64 (k + 1) ∧ Below w.heap.size w wr) (fun t _ => (n - intOf t).toNat)
    case atStart => exact ⟨0, by omega, rfl, Below.refl _ _⟩
    case round =>
      obtain ⟨k, hk, rfl, hB⟩ := hrel
      by_cases hlt : k + 1 < n
      · have e1 := cell_keep hB (HC.out k (by omega))
        have e2 := cell_keep hB (HC.out (k + 1) hlt)
        have e3 := HR.out k (by rw [HN.out]; exact hlt)
        generalize zs.getD k 0 = y at e1 e3
        generalize zs.getD (k + 1) 0 = z at e2 e3
        go_wp2
        go_quiet (fail)
        go_wp2
        go_roundw
        case rel => exact ⟨k + 1, by omega, by go_num, below_drewN hB _⟩
        case measure => simp [intOf]; omega
      · go_wp2
        go_ret
        exact ⟨rfl, hB⟩

set_option maxHeartbeats 1000000 in
theorem check_order (a : Nat → Addr) (zs : List Int) (v : Value) (w : World) (hm : zs.length ≤ 1000000) (h : IsInts w v zs) (hin : InB zs) (hr : ¬ Rise zs) (h3 : Three w a) :
    Calls Tryz.prog 85 #[v] w fun e w' => e = .returned (.iface 210 (.pointer (some (a 9)))) ∧ Below w.heap.size w w' := by
  have HK : Hid (Calls Tryz.prog 86 #[v] w fun e w' => e = .returned .nilIface ∧ w' = w) := bounds_ok zs v w hm h hin
  have HR : Hid (¬ Rise zs) := hr
  have H9 : Hid (w.cell? ⟨9, 0, none⟩ = some (.iface 210 (.pointer (some (a 9))))) := h3.c9
  clear hin hr h3
  rcases h with ⟨hz, b, c, rfl⟩ | ⟨hz, b, o, c, rfl, hc⟩
  · subst hz
    exact absurd (fun j hj => absurd hj (Nat.not_lt_zero _)) HR.out
  · have HC : Hid (∀ j, j < zs.length → w.cell? ⟨b, o + j, none⟩ = some (.int .i64 (zs.getD j 0))) := hc
    clear hc
    have hp : 0 < zs.length := List.length_pos_iff.2 hz
    clear hz
    generalize hn : zs.length = n at *
    have HN : Hid (zs.length = n) := hn
    clear hn
    go_enter Tryz.func85, Tryz.ntmps85
    go_wp2_with (go_at_call 86; refine HK.out.mono ?_; rintro e w' ⟨rfl, hw⟩; obtain rfl := hw.symm)
    go_loopw [4] (fun t wr => ∃ k : Nat, k + 1 ≤ n ∧ t = .int .i64 (k + 1) ∧ Below w.heap.size w wr ∧ ∀ j, j < k → zs.getD j 0 < zs.getD (j + 1) 0) (fun t _ => (n - intOf t).toNat)
    case atStart => exact ⟨0, by omega, rfl, Below.refl _ _, fun j hj => absurd hj (Nat.not_lt_zero _)⟩
    case round =>
      obtain ⟨k, hk, rfl, hB, hall⟩ := hrel
      have HA : Hid (∀ j, j < k → zs.getD j 0 < zs.getD (j + 1) 0) := hall
      clear hall
      by_cases hlt : k + 1 < n
      · have e1 := cell_keep hB (HC.out k (by omega))
        have e2 := cell_keep hB (HC.out (k + 1) hlt)
        by_cases hlt2 : zs.getD k 0 < zs.getD (k + 1) 0
        · have HB : Hid (zs.getD k 0 < zs.getD (k + 1) 0) := hlt2
          generalize zs.getD k 0 = y at e1 hlt2
          generalize zs.getD (k + 1) 0 = z at e2 hlt2
          go_wp2
          go_quiet (fail)
          go_wp2
          go_roundw
          case rel =>
            refine ⟨k + 1, by omega, by go_num, below_drewN hB _, fun j hj => ?_⟩
            rcases Nat.lt_succ_iff_lt_or_eq.1 hj with g | g
            · exact HA.out j g
            · rw [g]; exact HB.out
          case measure => simp [intOf]; omega
        · have hge : zs.getD (k + 1) 0 ≤ zs.getD k 0 := by omega
          have e9 := cell_keep hB H9.out
          clear hlt2 HA
          generalize zs.getD k 0 = y at e1 hge
          generalize zs.getD (k + 1) 0 = z at e2 hge
          go_wp2
          go_quiet (fail)
          go_wp2
          go_ret
          exact ⟨rfl, below_drewN hB _⟩
      · refine absurd (fun j hj => HA.out j ?_) HR.out
        rw [HN.out] at hj
        omega

/-- A set: its numbers are ones that a set may have, and they rise. -/
def IsSet (zs : List Int) : Prop := InB zs ∧ Rise zs

theorem pair_ok (ys zs : List Int) (u v : Value) (w : World) (hy : ys.length ≤ 1000000) (hz : zs.length ≤ 1000000) (h1 : IsInts w u ys) (h2 : IsInts w v zs) (s1 : IsSet ys) (s2 : IsSet zs) :
    Calls Tryz.prog 59 #[u, v] w fun e w' => e = .returned .nilIface ∧ Below w.heap.size w w' := by
  have H2 : Hid (IsInts w v zs) := h2
  have HK : Hid (Calls Tryz.prog 85 #[u] w fun e w' => e = .returned .nilIface ∧ Below w.heap.size w w') := check_ok ys u w hy h1 s1.1 s1.2
  clear h1 h2
  go_enter Tryz.func59, Tryz.ntmps59
  go_wp2_with fail
  refine HK.out.mono ?_
  rintro e w1 ⟨rfl, hB⟩
  go_wp2_with fail
  refine (check_ok zs v w1 hz (H2.out.below hB) s2.1 s2.2).mono ?_
  rintro e w2 ⟨rfl, hB2⟩
  go_wp2
  go_ret
  exact ⟨rfl, hB.trans (hB2.mono hB.size)⟩
end Go.Proofs.YtimmkenmahagjaaGreatDoor

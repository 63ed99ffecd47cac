/-
  Package set: checkBounds, Check, checkPair, sorted, Of, by contracts.
-/
import Derived.Test.YtimmkenmahagjaaGreatDoorBase
import Derived.Test.YtimmkenmahagjaaGreatDoorShelf
import Derived.Lib.OwnBridge
import Derived.Lib.RowBridge
import Derived.Sort.Grow
namespace Go.Proofs.YtimmkenmahagjaaGreatDoor
open Go.RowKit Go.Extern.Stop Go.Stop Go.Extern

/-- Three of the errors: ErrText, ErrBound, ErrOrder. -/
structure Three (w : World) (a : Nat → Addr) : Prop where
  c1 : w.cell? ⟨2, 0, none⟩ = some (.iface 210 (.pointer (some (a 1))))
  c9 : w.cell? ⟨9, 0, none⟩ = some (.iface 210 (.pointer (some (a 9))))
theorem Three.below {w w' : World} {a : Nat → Addr} (h : Three w a) (hb : Below w.heap.size w w') : Three w' a where
  c1 := cell_keep hb h.c1
  c9 := cell_keep hb h.c9
theorem Errs.three {w : World} {a : Nat → Addr} (h : Errs w a) : Three w a := ⟨h.c1, h.c9⟩

/-- Each number is one that a set may have. -/
def InB (zs : List Int) : Prop := ∀ j, j < zs.length → 0 ≤ zs.getD j 0 ∧ zs.getD j 0 < 1000
/-- The numbers rise. -/
def Rise (zs : List Int) : Prop := ∀ j, j + 1 < zs.length → zs.getD j 0 < zs.getD (j + 1) 0

set_option maxHeartbeats 1000000 in
theorem bounds_ok (zs : List Int) (v : Value) (w : World) (hm : zs.length ≤ 1000000) (h : IsInts w v zs) (hin : InB zs) :
    Calls Tryz.prog 86 #[v] w fun e w' => e = .returned .nilIface ∧ w' = w := by
  have HI : Hid (InB zs) := hin
  clear hin
  rcases h with ⟨hz, b, c, rfl⟩ | ⟨hz, b, o, c, rfl, hc⟩
  · clear hz
    go_enter Tryz.func86, Tryz.ntmps86
    go_wp2
    go_loop [7] (fun t => t = .int .i64 0) (fun _ => 0)
    case atStart => rfl
    case round =>
      subst hrel
      go_wp2
      go_ret
      exact ⟨rfl, rfl⟩
  · have HC : Hid (∀ j, j < zs.length → w.cell? ⟨b, o + j, none⟩ = some (.int .i64 (zs.getD j 0))) := hc
    clear hc hz
    generalize hn : zs.length = n at *
    have HN : Hid (zs.length = n) := hn
    clear hn
    go_enter Tryz.func86, Tryz.ntmps86
    go_wp2
    go_loop [7] (fun t => ∃ k : Nat, k ≤ n ∧ t = .int .i64 k) (fun t => (n - intOf t).toNat)
    case atStart => exact ⟨0, Nat.zero_le _, rfl⟩
    case round =>
      obtain ⟨k, hk, rfl⟩ := hrel
      by_cases hlt : k < n
      · have e1 := HC.out k hlt
        have e2 := HI.out k (by rw [HN.out]; exact hlt)
        generalize zs.getD k 0 = z at e1 e2
        obtain ⟨e3, e4⟩ := e2
        go_wp2
        go_round
        case rel => exact ⟨k + 1, hlt, by go_num⟩
        case measure => simp [intOf]; omega
      · go_wp2
        go_ret
        exact ⟨rfl, rfl⟩

set_option maxHeartbeats 1000000 in
theorem bounds_no (a : Nat → Addr) (zs : List Int) (v : Value) (w : World) (hm : zs.length ≤ 1000000) (h : IsInts w v zs) (hin : ¬ InB zs) (h3 : Three w a) :
    Calls Tryz.prog 86 #[v] w fun e w' => e = .returned (.iface 210 (.pointer (some (a 1)))) ∧ w' = w := by
  have HI : Hid (¬ InB zs) := hin
  have e0 := h3.c1
  clear hin h3
  rcases h with ⟨hz, b, c, rfl⟩ | ⟨hz, b, o, c, rfl, hc⟩
  · subst hz
    exact absurd (fun j hj => absurd hj (Nat.not_lt_zero _)) HI.out
  · have HC : Hid (∀ j, j < zs.length → w.cell? ⟨b, o + j, none⟩ = some (.int .i64 (zs.getD j 0))) := hc
    clear hc hz
    generalize hn : zs.length = n at *
    have HN : Hid (zs.length = n) := hn
    clear hn
    go_enter Tryz.func86, Tryz.ntmps86
    go_wp2
    go_loop [7] (fun t => ∃ k : Nat, k ≤ n ∧ t = .int .i64 k ∧ ∀ j, j < k → 0 ≤ zs.getD j 0 ∧ zs.getD j 0 < 1000) (fun t => (n - intOf t).toNat)
    case atStart => exact ⟨0, Nat.zero_le _, rfl, fun j hj => absurd hj (Nat.not_lt_zero _)⟩
    case round =>
      obtain ⟨k, hk, rfl, hall⟩ := hrel
      have HA : Hid (∀ j, j < k → 0 ≤ zs.getD j 0 ∧ zs.getD j 0 < 1000) := hall
      clear hall
      by_cases hlt : k < n
      · have e1 := HC.out k hlt
        by_cases hb : 0 ≤ zs.getD k 0 ∧ zs.getD k 0 < 1000
        · have HB : Hid (0 ≤ zs.getD k 0 ∧ zs.getD k 0 < 1000) := hb
          generalize zs.getD k 0 = z at e1 hb
          obtain ⟨e3, e4⟩ := hb
          go_wp2
          go_round
          case rel =>
            refine ⟨k + 1, hlt, by go_num, fun j hj => ?_⟩
            rcases Nat.lt_succ_iff_lt_or_eq.1 hj with g | g
            · exact HA.out j g
            · rw [g]; exact HB.out
          case measure => simp [intOf]; omega
        · clear HA
          generalize zs.getD k 0 = z at e1 hb
          by_cases e3 : z < 0
          · clear hb
            go_wp2
            go_ret
            exact ⟨rfl, rfl⟩
          · have e4 : 1000 ≤ z := by omega
            clear hb
            go_wp2
            go_ret
            exact ⟨rfl, rfl⟩
      · refine absurd (fun j hj => HA.out j ?_) HI.out
        rw [HN.out] at hj
        omega
end Go.Proofs.YtimmkenmahagjaaGreatDoor

/-
  SameInts at two lists of the same numbers: it only reads.
-/
import Derived.Test.YtfajpkdpnpdfkaaGreatDoorBase
import Derived.Test.YtfajpkdpnpdfkaaGreatDoorXBM
namespace Go.Proofs.YtfajpkdpnpdfkaaGreatDoor
open Go.RowKit Go.Extern.Stop Go.Stop Go.Extern

set_option maxHeartbeats 1000000 in
theorem sameQ_cons (zs : List Int) (b1 o1 c1 b2 o2 c2 : Nat) (w : World) (hm : zs.length ≤ 1000000)
    (h1 : ∀ j, j < zs.length → w.cell? ⟨b1, o1 + j, none⟩ = some (.int .i64 (zs.getD j 0))) (h2 : ∀ j, j < zs.length → w.cell? ⟨b2, o2 + j, none⟩ = some (.int .i64 (zs.getD j 0))) :
    Calls Tryz.prog 16 #[.slice (some ⟨b1, o1, none⟩) zs.length c1, .slice (some ⟨b2, o2, none⟩) zs.length c2] w fun e w' => e = .returned (.bool true) ∧ ∃ m, w' = w.drewN m := by
  have H1 : Hid (∀ j, j < zs.length → w.cell? ⟨b1, o1 + j, none⟩ = some (.int .i64 (zs.getD j 0))) := h1
  have H2 : Hid (∀ j, j < zs.length → w.cell? ⟨b2, o2 + j, none⟩ = some (.int .i64 (zs.getD j 0))) := h2
  clear h1 h2
  generalize hn : zs.length = n at *
  have HN : Hid (zs.length = n) := hn
  clear hn
  go_enter Tryz.func16, Tryz.ntmps16
  go_wp2
  go_loopw [5] (fun t wr => ∃ k : Nat, k ≤ n ∧ t = .int .i64 k ∧ ∃ m, wr = w.drewN m) (fun t _ => (n - intOf t).toNat)
  case atStart => exact ⟨0, Nat.zero_le _, rfl, 0, rfl⟩
  case round =>
    obtain ⟨k, hk, rfl, m, hwr⟩ := hrel
    have hB : Below w.heap.size w wr := by rw [hwr]; exact below_drewN (Below.refl _ _) m
    have HW : Hid (wr = w.drewN m) := hwr
    clear hwr
    by_cases hlt : k < n
    · have e1 := cell_keep hB (H1.out k hlt)
      have e2 := cell_keep hB (H2.out k hlt)
      generalize zs.getD k 0 = z at e1 e2
      go_wp2
      go_quiet (fail)
      go_wp2
      go_roundw
      case rel => exact ⟨k + 1, hlt, by go_num, m + nq, by rw [HW.out, World.drewN_drewN]⟩
      case measure => simp [intOf]; omega
    · go_wp2
      go_ret
      exact ⟨rfl, m, HW.out⟩
set_option maxHeartbeats 1000000 in
theorem sameQ_none (a1 a2 : Option Addr) (c1 c2 : Nat) (w : World) :
    Calls Tryz.prog 16 #[.slice a1 0 c1, .slice a2 0 c2] w fun e w' => e = .returned (.bool true) ∧ ∃ m, w' = w.drewN m := by
  go_enter Tryz.func16, Tryz.ntmps16
  go_wp2
  go_loopw [5] (fun t wr => t = .int .i64 0 ∧ ∃ m, wr = w.drewN m) (fun _ _ => 0)
  case atStart => exact ⟨rfl, 0, rfl⟩
  case round =>
    obtain ⟨rfl, hB⟩ := hrel
    go_wp2
    go_ret
    exact ⟨rfl, hB⟩
/-- SameInts at two lists of the same numbers. -/
theorem sameQ_true (zs : List Int) (v1 v2 : Value) (w : World) (hm : zs.length ≤ 1000000) (h1 : IsInts w v1 zs) (h2 : IsInts w v2 zs) :
    Calls Tryz.prog 16 #[v1, v2] w fun e w' => e = .returned (.bool true) ∧ ∃ m, w' = w.drewN m := by
  rcases h1 with ⟨hz, a1, c1, rfl⟩ | ⟨hz, b1, o1, c1, rfl, hc1⟩
  · rcases h2 with ⟨_, a2, c2, rfl⟩ | ⟨hz', _⟩
    · exact sameQ_none a1 a2 c1 c2 w
    · exact absurd hz hz'
  · rcases h2 with ⟨hz', _⟩ | ⟨_, b2, o2, c2, rfl, hc2⟩
    · exact absurd hz' hz
    · exact sameQ_cons zs b1 o1 c1 b2 o2 c2 w hm hc1 hc2
/-- The same in a world that drew. -/
theorem sameQ_drew (zs : List Int) (v1 v2 : Value) (w : World) (hm : zs.length ≤ 1000000) (h1 : IsInts w v1 zs) (h2 : IsInts w v2 zs) (n : Nat) :
    Calls Tryz.prog 16 #[v1, v2] (w.drewN n) fun e w' => e = .returned (.bool true) ∧ ∃ m, w' = w.drewN m :=
  (sameQ_true zs v1 v2 (w.drewN n) hm (h1.below (below_drewN (Below.refl _ _) n)) (h2.below (below_drewN (Below.refl _ _) n))).mono fun _ _ ⟨he, m, hm⟩ => ⟨he, n + m, by rw [hm, World.drewN_drewN]⟩
end Go.Proofs.YtfajpkdpnpdfkaaGreatDoor

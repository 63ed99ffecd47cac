/-
  The law Names, walked: in whatever world that holds the eleven errors it answers true.
-/
import Derived.Test.YtgmjmadacmgnkaaDoorBase
namespace Go.Proofs.YtgmjmadacmgnkaaDoor
open Go.RowKit Go.Extern.Stop Go.Stop Go.Extern

theorem new_any (s : ByteArray) (w : World) : Calls Tryd.prog 9 #[.string s] w fun e w' => e = .returned (.iface 47 (.pointer (some ⟨w.heap.size, 0, none⟩))) ∧ w' = w.alloc (.cells #[.string s] 49) := by
  go_enter Tryd.func9, Tryd.ntmps9
  go_wp2
  go_ret
  exact ⟨rfl, rfl⟩

theorem heap_alloc_last (w : World) (o : Obj) : (w.alloc o).heap[w.heap.size]? = some o := by
  show (w.heap.push o)[w.heap.size]? = some o
  simp
theorem cells_lit (w : World) (zs : List Int) (t : TypeId) (B : Nat) (hB : w.heap.size = B) (j : Nat) (hj : j < zs.length) : (w.alloc (.cells (zs.map (Value.int .i64)).toArray t)).cell? ⟨B, 0 + j, none⟩ = some (.int .i64 (zs.getD j 0)) := by
  subst hB
  rw [World.cell?_alloc_at _ _ _ _ rfl]
  simp [hj]

def bounds : List Int := [40, 6, 3, 80, 8, 4000, 1000, 2000, 200, 2147483648, 6, 8, 3, 4000, 80, 16]

set_option maxHeartbeats 2000000 in
theorem names_any (a : Nat → Addr) (w : World) (h : Errs w a) :
    Calls Tryd.prog 3 #[] w fun e w' => e = .returned (.bool true) ∧ Below w.heap.size w w' := by
  have H : Hid (Errs w a) := h
  clear h
  go_enter Tryd.func3, Tryd.ntmps3
  go_wp2_with fail
  refine (sameInts_true bounds _ _ _ (by decide) ?_ ?_).mono ?_
  · exact isInts_of_cells rfl (fun j hj => cell_keep ((Below.refl _ _).alloc (Nat.le_refl _) _) (cells_lit w bounds 3 _ rfl j hj))
  · exact isInts_of_cells rfl (fun j hj => cells_lit (w.alloc _) bounds 3 _ (by simp) j hj)
  rintro e w1 ⟨rfl, hB1⟩
  have hBw := ((((Below.refl w.heap.size w).alloc (Nat.le_refl _) _).alloc (by simp) _).trans (hB1.mono (by simp; omega)))
  have HE : Hid (Errs w1 a) := H.out.below hBw
  obtain ⟨k0, k1, k2, k3, k4, k5, k6, k7, k8, k9, k10, _, _, _⟩ := H.out.below hBw
  go_wp2_with fail
  clear k0 k1 k2 k3 k4 k5 k6 k7 k8 k9 k10
  go_loopw [4] (fun t wr => ∃ k : Nat, k ≤ 11 ∧ t = .int .i64 k ∧ Errs wr a ∧ Below w.heap.size w wr ∧ w1.heap.size < wr.heap.size ∧ (∀ j, j < 11 → wr.cell? ⟨w1.heap.size, j, none⟩ = some (.iface 47 (.pointer (some (a j)))))) (fun t _ => (11 - intOf t).toNat)
  case atStart =>
    refine ⟨0, by omega, rfl, HE.out.alloc _, hBw.alloc hBw.size _, by simp, ?_⟩
    intro j hj
    rw [World.cell?_alloc_at _ _ _ _ rfl]
    exact errCells_at a j hj
  case round =>
    obtain ⟨k, hk, rfl, hE, hB, hz, hL⟩ := hrel
    have HR : Hid (Errs wr a) := hE
    have HL : Hid (∀ j, j < 11 → wr.cell? ⟨w1.heap.size, j, none⟩ = some (.iface 47 (.pointer (some (a j))))) := hL
    clear hE hL HE hB1 hBw
    by_cases hlt : k < 11
    · have hl := HL.out k hlt
      go_wp2_with fail
      refine (code_fault a k wr.heap.size 0 7 _ hlt (by simp) (by simp) (HR.out.alloc _)).mono ?_
      rintro e w2 ⟨rfl, hB2⟩
      have hBr : Below wr.heap.size wr w2 := ((Below.refl _ _).alloc (Nat.le_refl _) _).trans (hB2.mono (by simp))
      have hl2 := cell_keep hBr hl
      have HE2 : Hid (Errs w2 a) := HR.out.below hBr
      go_wp2_with fail
      refine (coded_err a k _ _ hlt rfl HE2.out).mono ?_
      rintro e w3 ⟨rfl, hB3⟩
      have hBs : Below wr.heap.size wr w3 := hBr.trans (hB3.mono hBr.size)
      go_wp2_with fail
      go_roundw
      case rel => exact ⟨k + 1, by omega, by go_num, HR.out.below hBs, hB.trans (hBs.mono hB.size), Nat.lt_of_lt_of_le hz hBs.size, fun j hj => cell_keep hBs (HL.out j hj)⟩
      case measure => simp [intOf]; omega
    · go_wp2_with fail
      refine (new_any _ _).mono ?_
      rintro e w2 ⟨rfl, rfl⟩
      go_wp2_with fail
      refine (code_other a ⟨wr.heap.size, 0, none⟩ _ ?_ #[.string ⟨#[97, 110, 111, 116, 104, 101, 114, 32, 111, 110, 101]⟩] 49 ?_ (HR.out.alloc _)).mono ?_
      · intro i hi e
        obtain ⟨c, t, hc⟩ := HR.out.hp i hi
        rw [← e] at hc
        simp at hc
      · exact heap_alloc_last _ _
      rintro e w3 ⟨rfl, hB3⟩
      have hBr : Below wr.heap.size wr w3 := ((Below.refl _ _).alloc (Nat.le_refl _) _).trans (hB3.mono (by simp))
      go_wp2_with fail
      refine (coded_nil _).mono ?_
      rintro e w4 ⟨rfl, hB4⟩
      go_wp2
      go_ret
      exact ⟨rfl, hB.trans ((hBr.trans (hB4.mono hBr.size)).mono hB.size)⟩
end Go.Proofs.YtgmjmadacmgnkaaDoor

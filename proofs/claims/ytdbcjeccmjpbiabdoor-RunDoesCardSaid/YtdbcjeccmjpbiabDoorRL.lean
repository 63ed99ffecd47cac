/-
  ran: the closed fact of a run, by a contract.
-/
import Derived.Test.YtdbcjeccmjpbiabDoorRK
namespace Go.Proofs.YtdbcjeccmjpbiabDoor
open Go.RowKit Go.Extern.Stop Go.Stop Go.Extern

def progR : ProgD := ⟨[[97], [98]], [], [⟨kAddr, 0, 1, []⟩, ⟨kStore, 0, 0, []⟩]⟩
theorem progR_check : checkE progR = none := by decide
theorem progR_done : doneE progR.stmts.length [0, 1] = none := by decide
theorem progR_vars : (doD progR [0, 1]).vars = [some (.var 1), some (.var 1)] := by decide
theorem progR_small : SmallP progR := by
  unfold SmallP
  refine ⟨by decide, by decide, by decide, ?_, ?_⟩
  · intro f hf
    cases hf
  · intro s hs
    simp [progR] at hs
    rcases hs with rfl | rfl <;> decide
abbrev rVars : Obj := .cells #[.string ⟨#[97]⟩, .string ⟨#[98]⟩] 9
abbrev rStmts : Obj := .cells #[.string ⟨#[97, 100, 100, 114]⟩, .int .i64 0, .int .i64 1, .slice none 0 0, .string ⟨#[115, 116, 111, 114, 101]⟩, .int .i64 0, .int .i64 0, .slice none 0 0] 59
abbrev rProg (n : Nat) : Obj := .cells #[.slice (some ⟨n, 0, none⟩) 2 2, .slice none 0 0, .slice (some ⟨n + 1, 0, none⟩) 2 2] 26
abbrev rInts : Obj := .cells #[.int .i64 0, .int .i64 1] 3
theorem progR_is (w : World) : IsProg ((w.alloc rVars).alloc rStmts) (.slice (some ⟨w.heap.size, 0, none⟩) 2 2) (.slice none 0 0) (.slice (some ⟨w.heap.size + 1, 0, none⟩) 2 2) progR := by
  have hb : Below (w.alloc rVars).heap.size (w.alloc rVars) ((w.alloc rVars).alloc rStmts) := below1 _ _
  refine ⟨⟨_, _, rfl, Nat.le_refl _, fun j hj => ⟨_, _, rfl, ?_⟩⟩, ⟨_, _, rfl, Nat.le_refl _, fun j hj => absurd hj (Nat.not_lt_zero _)⟩, ⟨_, _, rfl, Nat.le_refl _, fun j hj => ⟨_, _, rfl, ?_⟩⟩⟩
  · refine cell_keep hb ?_
    match j, hj with
    | 0, _ => simp [progR, S]
    | 1, _ => simp [progR, S]
  · match j, hj with
    | 0, _ => exact ⟨.slice none 0 0, by simp [progR, S, kAddr], by simp [progR], by simp [progR], by simp, IsInts.nil _ _ _, none, 0, rfl, Nat.le_refl _⟩
    | 1, _ => exact ⟨.slice none 0 0, by simp [progR, S, kStore], by simp [progR], by simp [progR], by simp, IsInts.nil _ _ _, none, 0, rfl, Nat.le_refl _⟩

set_option maxRecDepth 100000 in
set_option maxHeartbeats 8000000 in
theorem ran_any (a : Nat → Addr) (w : World) (hE : Errs5 w a) : Calls Tryd.prog 5 #[] w fun e w' => e = .returned (.bool true) ∧ Below w.heap.size w w' := by
  obtain ⟨W0, hW0⟩ : ∃ W, W = ((w.alloc rVars).alloc rStmts).alloc (rProg w.heap.size) := ⟨_, rfl⟩
  obtain ⟨W, hW⟩ : ∃ W, W = W0.alloc rInts := ⟨_, rfl⟩
  have hz0 : W0.heap.size = w.heap.size + 3 := by rw [hW0]; simp
  have hB0 : Below w.heap.size w W0 := by rw [hW0]; exact ((below1 w _).alloc (by simp) _).alloc (by simp; omega) _
  have hBW : Below w.heap.size w W := by rw [hW]; exact hB0.alloc hB0.size _
  have hP : IsProg W (.slice (some ⟨w.heap.size, 0, none⟩) 2 2) (.slice none 0 0) (.slice (some ⟨w.heap.size + 1, 0, none⟩) 2 2) progR := by
    rw [hW]
    refine IsProg.below ?_ (below1 W0 _)
    rw [hW0]
    exact (progR_is w).below (below1 _ _)
  have hI : IsInts W (.slice (some ⟨W0.heap.size, 0, none⟩) 2 2) [0, 1] := by
    rw [hW]
    refine isInts_of_cells rfl (fun j hj => ?_)
    match j, hj with
    | 0, _ => simp
    | 1, _ => simp
  have K1 : Hid (Calls Tryd.prog 8 #[.agg #[.slice (some ⟨w.heap.size, 0, none⟩) 2 2, .slice none 0 0, .slice (some ⟨w.heap.size + 1, 0, none⟩) 2 2], .slice (some ⟨W0.heap.size, 0, none⟩) 2 2] W fun e w' => ∃ g1 c1 a2 m2 c2 a3 m3 c3, e = .returned (.tuple #[.agg #[.slice (some ⟨g1, 0, none⟩) 2 c1, .slice a2 m2 c2, .slice a3 m3 c3], .nilIface]) ∧ w'.cell? ⟨g1, 2, none⟩ = some (.string ⟨#[118, 97, 114]⟩) ∧ w'.cell? ⟨g1, 3, none⟩ = some (.int .i64 1) ∧ Below W.heap.size W w') := by
    refine (do_ok a progR _ _ _ _ [0, 1] W progR_small hP (hE.below hBW) hI (by decide) progR_check progR_done).mono ?_
    rintro e w' ⟨a1, m1, c1, a2, m2, c2, a3, m3, c3, rfl, hv1, -, -, -, -, -, hb⟩
    rw [progR_vars] at hv1
    obtain ⟨g, c, q, hv⟩ := hv1
    cases q
    have := hv 1 (by decide)
    exact ⟨g, _, a2, m2, c2, a3, m3, c3, rfl, this.1, this.2, hb⟩
  have hbox : W0.heap[w.heap.size + 2]? = some (rProg w.heap.size) := by
    have := heap_new ((w.alloc rVars).alloc rStmts) (rProg w.heap.size)
    rw [hW0]; simpa using this
  have b0 : W0.cell? ⟨w.heap.size + 2, 0, none⟩ = some (.slice (some ⟨w.heap.size, 0, none⟩) 2 2) := by rw [Lib.cell_of_heap hbox]; rfl
  have b1 : W0.cell? ⟨w.heap.size + 2, 1, none⟩ = some (.slice none 0 0) := by rw [Lib.cell_of_heap hbox]; rfl
  have b2 : W0.cell? ⟨w.heap.size + 2, 2, none⟩ = some (.slice (some ⟨w.heap.size + 1, 0, none⟩) 2 2) := by rw [Lib.cell_of_heap hbox]; rfl
  rw [hW] at K1 hBW
  clear hbox hP hI hE hz0 hW
  go_enter Tryd.func5, Tryd.ntmps5
  go_upto_region 2 with fail
  rw [← hW0]
  clear hW0
  go_wp2_with (go_at_call 8; refine K1.out.mono ?_; rintro e w1 ⟨g1, c1, a2, m2, c2, a3, m3, c3, rfl, z0, z1, hb⟩; have z0' := fun o => cell_keep (below1 w1 o) z0; have z1' := fun o => cell_keep (below1 w1 o) z1)
  go_ret
  exact ⟨rfl, (hBW.trans (hb.mono hBW.size)).alloc (hBW.trans (hb.mono hBW.size)).size _⟩
end Go.Proofs.YtdbcjeccmjpbiabDoor

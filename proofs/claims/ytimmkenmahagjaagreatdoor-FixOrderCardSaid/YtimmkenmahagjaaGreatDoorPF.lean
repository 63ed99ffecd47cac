/-
  Package prog: checkFuns, by a contract.
-/
import Derived.Test.YtimmkenmahagjaaGreatDoorPE
import Derived.Shelf.Abstract
namespace Go.Proofs.YtimmkenmahagjaaGreatDoor
open Go.RowKit Go.Extern.Stop Go.Stop Go.Extern

theorem cf1 (f : FunD) (pv : Value) (w : World) (h : IsCap w pv f.params) :
    Calls Tryz.prog 98 #[.agg #[.string (S f.name), pv, .int .i64 f.ret]] w fun e w' => e = .returned (.bool (decide (f.params.length ≤ 3))) ∧ Below w.heap.size w w' := by
  obtain ⟨_, a, c, rfl, _⟩ := h
  generalize f.params.length = n at *
  by_cases h3 : (n : Int) ≤ 3
  · have e : decide (n ≤ 3) = true := decide_eq_true (by omega)
    rw [e]; clear e
    go_enter Tryz.func98, Tryz.ntmps98
    go_wp2
    go_ret
    exact ⟨rfl, (Below.refl _ w).alloc (Nat.le_refl _) _⟩
  · have e : decide (n ≤ 3) = false := decide_eq_false (by omega)
    rw [e]; clear e
    go_enter Tryz.func98, Tryz.ntmps98
    go_wp2
    go_ret
    exact ⟨rfl, (Below.refl _ w).alloc (Nat.le_refl _) _⟩
/-- The cell that holds below's function, and the number that it knows. -/
def BelowAt (w : World) (fb : Nat) (n : Nat) : Prop := ∃ nb, w.cell? ⟨fb, 0, none⟩ = some (.func (Fn.func 129) #[] #[.pointer (some ⟨nb, 0, none⟩)]) ∧ w.cell? ⟨nb, 0, none⟩ = some (.int .i64 (n : Int))
theorem BelowAt.below {w w' : World} {fb n : Nat} (h : BelowAt w fb n) (hb : Below w.heap.size w w') : BelowAt w' fb n := by
  obtain ⟨nb, h1, h2⟩ := h
  exact ⟨nb, cell_keep hb h1, cell_keep hb h2⟩
set_option maxHeartbeats 1000000 in
theorem cf2 (n fb : Nat) (f : FunD) (pv : Value) (w : World) (hm : f.params.length ≤ 1000000) (h : IsCap w pv f.params) (hn : BelowAt w fb n) :
    Calls Tryz.prog 99 #[.agg #[.string (S f.name), pv, .int .i64 f.ret], .pointer (some ⟨fb, 0, none⟩)] w fun e w' => e = .returned (.bool ((f.params.all fun k => decide (0 ≤ k) && decide (k < (n : Int))) && (decide (0 ≤ f.ret) && decide (f.ret < (n : Int))))) ∧ Below w.heap.size w w' := by
  have H : Hid (IsCap w pv f.params) := h
  obtain ⟨_, a, c, rfl, _⟩ := h
  obtain ⟨nb, h1, h2⟩ := hn
  have HN : Hid (w.cell? ⟨nb, 0, none⟩ = some (.int .i64 (n : Int))) := h2
  have hlt := lt_of_cell h1
  have hB0 := fun o => (Below.refl w.heap.size w).alloc (Nat.le_refl _) o
  have h1' := fun o => cell_keep (hB0 o) h1
  have H1 : Hid (w.cell? ⟨fb, 0, none⟩ = some (.func (Fn.func 129) #[] #[.pointer (some ⟨nb, 0, none⟩)])) := h1
  clear h1 h2
  obtain ⟨B1, hB1e⟩ : ∃ B, B = (f.params.all fun k => decide (0 ≤ k) && decide (k < (n : Int))) := ⟨_, rfl⟩
  obtain ⟨B2, hB2e⟩ : ∃ B, B = (decide (0 ≤ f.ret) && decide (f.ret < (n : Int))) := ⟨_, rfl⟩
  rw [← hB1e, ← hB2e]
  have Q1 : Hid (B1 = (f.params.all fun k => decide (0 ≤ k) && decide (k < (n : Int)))) := hB1e
  have Q2 : Hid (B2 = (decide (0 ≤ f.ret) && decide (f.ret < (n : Int)))) := hB2e
  clear hB1e hB2e
  go_enter Tryz.func99, Tryz.ntmps99
  go_wp2_with fail
  refine (allI n f.params _ nb _ hm (H.out.1.below (hB0 _)) (cell_keep (hB0 _) HN.out)).mono ?_
  rintro e w1 ⟨rfl, hB1⟩
  have hBw : Below w.heap.size w w1 := (hB0 _).trans (hB1.mono (by simp))
  have c1 : w1.cell? ⟨fb, 0, none⟩ = some (.func (Fn.func 129) #[] #[.pointer (some ⟨nb, 0, none⟩)]) := cell_keep hBw H1.out
  have c2 : w1.cell? ⟨w.heap.size, 2, none⟩ = some (.int .i64 f.ret) := cell_keep hB1 (by simp)
  rw [← Q1.out]
  clear h1' hB0 hB1
  cases B1 with
  | true =>
    go_wp2_with fail
    refine (below1_any n f.ret nb w1 (cell_keep hBw HN.out)).mono ?_
    rintro e w2 ⟨rfl, hw⟩
    obtain rfl := hw.symm
    rw [← Q2.out]
    clear c1 c2
    go_wp2_with fail
    go_ret
    exact ⟨rfl, hBw⟩
  | false =>
    go_wp2_with fail
    go_ret
    exact ⟨rfl, hBw⟩
theorem cf3 (f : FunD) (pv : Value) (w : World) (hm : f.params.length ≤ 1000000) (h : IsCap w pv f.params) :
    Calls Tryz.prog 101 #[.agg #[.string (S f.name), pv, .int .i64 f.ret]] w fun e w' => e = .returned (.bool (!dup f.params)) ∧ Below w.heap.size w w' := by
  have H : Hid (IsCap w pv f.params) := h
  obtain ⟨_, a, c, rfl, _⟩ := h
  have hB0 := fun o => (Below.refl w.heap.size w).alloc (Nat.le_refl _) o
  obtain ⟨B1, hB1e⟩ : ∃ B, B = dup f.params := ⟨_, rfl⟩
  rw [← hB1e]
  have Q1 : Hid (B1 = dup f.params) := hB1e
  clear hB1e
  go_enter Tryz.func101, Tryz.ntmps101
  go_wp2_with fail
  refine (twiceI f.params _ _ hm (H.out.below (hB0 _))).mono ?_
  rintro e w1 ⟨rfl, hw⟩
  have hBw : Below w.heap.size w w1 := by rw [hw]; exact hB0 _
  rw [← Q1.out]
  clear hB0 hw
  go_wp2_with fail
  go_ret
  exact ⟨rfl, hBw⟩

/-- The lists of a program are no longer than this. -/
def SmallP (P : ProgD) : Prop := P.vars.length ≤ 100000 ∧ P.funs.length ≤ 100000 ∧ P.stmts.length ≤ 100000 ∧ (∀ f ∈ P.funs, f.params.length ≤ 100000) ∧ (∀ s ∈ P.stmts, s.args.length ≤ 100000)
/-- No name is too long for a number. -/
def SmallN (P : ProgD) : Prop := (∀ v ∈ P.vars, v.length ≤ 1000000) ∧ (∀ f ∈ P.funs, f.name.length ≤ 1000000)

theorem all_congr_mem {α : Type} (l : List α) (p q : α → Bool) (h : ∀ x ∈ l, p x = q x) : l.all p = l.all q := by
  induction l with
  | nil => rfl
  | cons x r ih => rw [List.all_cons, List.all_cons, h x (List.mem_cons_self ..), ih (fun y hy => h y (List.mem_cons_of_mem _ hy))]
end Go.Proofs.YtimmkenmahagjaaGreatDoor

/-
  What Do tells, whole: what was done, or which error, and nothing besides.
-/
import Derived.Test.YtdbcjeccmjpbiabDoorRN
import Derived.Test.YtdbcjeccmjpbiabDoorQE
namespace Go.Proofs.YtdbcjeccmjpbiabDoor
open Go.RowKit Go.Extern.Stop Go.Stop Go.Extern

structure DoP (a : Nat → Addr) (w : World) (B : Nat) (P : ProgD) (zs : List Int) (a1 : Option Addr) (m1 c1 : Nat) (a2 : Option Addr) (m2 c2 : Nat) (a3 : Option Addr) (m3 c3 : Nat) (ev : Value) : Prop where
  is : (runE P zs = none ∧ ev = .nilIface ∧ IsVals w (.slice a1 m1 c1) (doD P zs).vars ∧ IsVals w (.slice a2 m2 c2) (doD P zs).things ∧ IsCap w (.slice a3 m3 c3) (doD P zs).places) ∨ ((runE P zs).isNone = false ∧ ErrV w a (runE P zs) ev ∧ (a1 = none ∧ m1 = 0 ∧ c1 = 0) ∧ (a2 = none ∧ m2 = 0 ∧ c2 = 0) ∧ (a3 = none ∧ m3 = 0 ∧ c3 = 0))
  l1 : LowO B a1
  l2 : LowO B a2
  l3 : LowO B a3
section
variable {a : Nat → Addr} {w w' : World} {B : Nat} {P : ProgD} {zs : List Int} {a1 : Option Addr} {m1 c1 : Nat} {a2 : Option Addr} {m2 c2 : Nat} {a3 : Option Addr} {m3 c3 : Nat} {ev : Value}
theorem DoP.below (h : DoP a w B P zs a1 m1 c1 a2 m2 c2 a3 m3 c3 ev) (hb : Below w.heap.size w w') : DoP a w' B P zs a1 m1 c1 a2 m2 c2 a3 m3 c3 ev := by
  refine ⟨?_, h.l1, h.l2, h.l3⟩
  rcases h.is with ⟨h1, h2, h3, h4, h5⟩ | ⟨h1, h2, h3⟩
  · exact Or.inl ⟨h1, h2, h3.below hb, h4.below hb, h5.below hb⟩
  · exact Or.inr ⟨h1, h2.below hb, h3⟩
theorem DoP.over (h : DoP a w B P zs a1 m1 c1 a2 m2 c2 a3 m3 c3 ev) {b : Nat} (hz : w.heap[b]? = some zSt) (hb : b < B) : DoP a (((w.setCell ⟨b, 0, none⟩ (.slice a1 m1 c1)).setCell ⟨b, 1, none⟩ (.slice a2 m2 c2)).setCell ⟨b, 2, none⟩ (.slice a3 m3 c3)) B P zs a1 m1 c1 a2 m2 c2 a3 m3 c3 ev := by
  refine ⟨?_, h.l1, h.l2, h.l3⟩
  rcases h.is with ⟨h1, h2, h3, h4, h5⟩ | ⟨h1, h2, ⟨rfl, rfl, rfl⟩, ⟨rfl, rfl, rfl⟩, ⟨rfl, rfl, rfl⟩⟩
  · have hd : DoPost w B P zs a1 m1 c1 a2 m2 c2 a3 m3 c3 ev := ⟨Or.inl ⟨by rw [h1]; rfl, h2, h3, h4, h5⟩, h.l1, h.l2, h.l3⟩
    have := over_post hd (x0 := .slice a1 m1 c1) (x1 := .slice a2 m2 c2) (x2 := .slice a3 m3 c3) hb
    rcases this.is with ⟨q1, q2, q3, q4, q5⟩ | ⟨q1, _⟩
    · exact Or.inl ⟨h1, q2, q3, q4, q5⟩
    · rw [h1] at q1; cases q1
  · exact Or.inr ⟨h1, h2.cells (fun q => zero_over hz q), ⟨rfl, rfl, rfl⟩, ⟨rfl, rfl, rfl⟩, ⟨rfl, rfl, rfl⟩⟩
end
theorem do_full (a : Nat → Addr) (P : ProgD) (v1 v2 v3 v : Value) (zs : List Int) (w : World) (hs : SmallP P) (h : IsProg w v1 v2 v3 P) (hE : Errs5 w a) (hz : IsInts w v zs) (hm : zs.length ≤ 1000000) :
    Calls Tryd.prog 8 #[.agg #[v1, v2, v3], v] w fun e w' => ∃ a1 m1 c1 a2 m2 c2 a3 m3 c3 ev, e = .returned (.tuple #[.agg #[.slice a1 m1 c1, .slice a2 m2 c2, .slice a3 m3 c3], ev]) ∧ DoP a w' w.heap.size P zs a1 m1 c1 a2 m2 c2 a3 m3 c3 ev ∧ Below w.heap.size w w' := by
  cases hc : checkE P with
  | some x =>
    refine (do_bad1 a P v1 v2 v3 v w hs h hE (by rw [hc]; rfl)).mono ?_
    rintro e w' ⟨ev, rfl, hv, hb⟩
    have hrun : runE P zs = checkE P := by unfold runE; rw [hc]
    exact ⟨_, _, _, _, _, _, _, _, _, ev, rfl, ⟨Or.inr ⟨by rw [hrun, hc]; rfl, by rw [hrun]; exact hv, ⟨rfl, rfl, rfl⟩, ⟨rfl, rfl, rfl⟩, ⟨rfl, rfl, rfl⟩⟩, (fun _ _ q => by cases q), (fun _ _ q => by cases q), (fun _ _ q => by cases q)⟩, hb⟩
  | none =>
    have hrun : runE P zs = doneE P.stmts.length zs := by unfold runE; rw [hc]
    cases hd : doneE P.stmts.length zs with
    | some x =>
      refine (do_bad2 a P v1 v2 v3 v zs w hs h hE hz hm hc (by rw [hd]; rfl)).mono ?_
      rintro e w' ⟨ev, rfl, hv, hb⟩
      exact ⟨_, _, _, _, _, _, _, _, _, ev, rfl, ⟨Or.inr ⟨by rw [hrun, hd]; rfl, by rw [hrun]; exact hv, ⟨rfl, rfl, rfl⟩, ⟨rfl, rfl, rfl⟩, ⟨rfl, rfl, rfl⟩⟩, (fun _ _ q => by cases q), (fun _ _ q => by cases q), (fun _ _ q => by cases q)⟩, hb⟩
    | none =>
      refine (do_ok a P v1 v2 v3 v zs w hs h hE hz hm hc hd).mono ?_
      rintro e w' ⟨a1, m1, c1, a2, m2, c2, a3, m3, c3, rfl, q1, q2, q3, l1, l2, l3, hb⟩
      exact ⟨a1, m1, c1, a2, m2, c2, a3, m3, c3, _, rfl, ⟨Or.inl ⟨by rw [hrun, hd], rfl, q1, q2, q3⟩, l1, l2, l3⟩, hb⟩
theorem doneE_lt {n : Nat} {zs : List Int} {x : Nat × Int} (h : doneE n zs = some x) : x.1 < 11 := by
  have hl : ∀ (l : List Int) (b : Nat) (x : Nat × Int), scriptE n b l = some x → x.1 < 11 := by
    intro l
    induction l with
    | nil => intro b x h; cases h
    | cons z r ih =>
      intro b x h
      unfold scriptE at h
      split at h
      · exact ih _ _ h
      · cases h; show 1 < 11; decide
  unfold doneE at h
  split at h
  · cases h; show 7 < 11; decide
  · exact hl _ _ _ h
theorem runE_lt {P : ProgD} {zs : List Int} : ∀ x, runE P zs = some x → x.1 < 11 := by
  intro x hx
  unfold runE at hx
  split at hx
  · rename_i e he
    cases hx
    exact checkE_lt he
  · exact doneE_lt hx
/-- The first statement of a script that there is not. -/
theorem doneE_bad {n : Nat} {zs : List Int} (hl : zs.length ≤ 2000) (h : doneE n zs ≠ none) : ∃ j, j < zs.length ∧ (∀ i, i < j → 0 ≤ zs.getD i 0 ∧ zs.getD i 0 < (n : Int)) ∧ ¬ (0 ≤ zs.getD j 0 ∧ zs.getD j 0 < (n : Int)) ∧ doneE n zs = some (1, (j : Int)) := by
  have hd : doneE n zs = scriptE n 0 zs := by unfold doneE; rw [if_neg (by omega)]
  rw [hd] at h ⊢
  have key : ∀ (k : Nat), k ≤ zs.length → (∀ i, i < k → 0 ≤ zs.getD i 0 ∧ zs.getD i 0 < (n : Int)) ∨ ∃ j, j < zs.length ∧ (∀ i, i < j → 0 ≤ zs.getD i 0 ∧ zs.getD i 0 < (n : Int)) ∧ ¬ (0 ≤ zs.getD j 0 ∧ zs.getD j 0 < (n : Int)) := by
    intro k
    induction k with
    | zero => intro _; exact Or.inl (fun i hi => absurd hi (Nat.not_lt_zero _))
    | succ k ih =>
      intro hk
      rcases ih (by omega) with g | g
      · by_cases hb : 0 ≤ zs.getD k 0 ∧ zs.getD k 0 < (n : Int)
        · refine Or.inl (fun i hi => ?_)
          by_cases e : i = k
          · rw [e]; exact hb
          · exact g i (by omega)
        · exact Or.inr ⟨k, by omega, g, hb⟩
      · exact Or.inr g
  rcases key zs.length (Nat.le_refl _) with g | ⟨j, j1, j2, j3⟩
  · exact absurd (scriptE_all n zs 0 g) h
  · refine ⟨j, j1, j2, j3, ?_⟩
    have := scriptE_at n zs 0 j j1 j2 j3
    simpa using this
end Go.Proofs.YtdbcjeccmjpbiabDoor

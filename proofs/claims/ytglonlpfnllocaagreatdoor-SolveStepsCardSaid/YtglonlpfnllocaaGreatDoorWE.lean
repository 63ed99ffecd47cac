/-
  A region that draws its order, by what is so whenever some of its operations have come up.
-/
import Derived.Test.YtglonlpfnllocaaGreatDoorBase
import Derived.RegionTactic
import Derived.Deep.RegionHeld3
namespace Go.Proofs.YtglonlpfnllocaaGreatDoor
open Go.RowKit Go.Extern.Stop Go.Stop Go.Extern

section
variable {P : Program} {ops : Array Oper} {Q : Exit → Act → World → Prop} {md : Region.Mode}
/-- One operation that comes up, where 'Inv' is to hold behind it. -/
def StepI (P : Program) (ops : Array Oper) (Q : Exit → Act → World → Prop) (K : Act → World → Prop) (i : Nat) (a : Act) (w : World) : Prop :=
  ∃ o, ops[i]? = some o ∧ ∀ K' : Act → World → Prop, Hid (∀ a w, K a w → K' a w) → if Region.wanted o (yielded ops a.tmps) = true then Oper.wp P o a w K' Q else K' (a.put o.dst undef) w
theorem wpAny_inv (Inv : Nat → Array Bool → Act → World → Prop)
    (h : ∀ fuel listed a w, Inv fuel listed a w → wpAny P md ops Q fuel listed a w ∨ ∃ f, fuel = f + 1 ∧ Region.ready md ops listed ≠ [] ∧ ∀ i ∈ Region.ready md ops listed, StepI P ops Q (fun a' w' => Inv f (listed.setIfInBounds i true) a' w') i a w) :
    ∀ fuel listed a w, Inv fuel listed a w → wpAny P md ops Q fuel listed a w := by
  intro fuel
  induction fuel with
  | zero =>
    intro listed a w hi
    rcases h 0 listed a w hi with q | ⟨f, e, _⟩
    · exact q
    · cases e
  | succ fuel ih =>
    intro listed a w hi
    rcases h (fuel + 1) listed a w hi with q | ⟨f, e, hne, hs⟩
    · exact q
    · injection e with e
      subst e
      refine wpAny_ready rfl hne fun i hr => ?_
      obtain ⟨o, ho, hk⟩ := hs i hr
      exact wpOp_step ho fun K' hK => hk K' fun a w q => hK a w (ih _ a w q)
theorem wpAnyH_inv {S : World → Prop} (Inv : Nat → Array Bool → Act → World → Prop)
    (h : ∀ fuel listed a w, Inv fuel listed a w → wpAnyH P md ops Q S fuel listed a w ∨ ∃ f, fuel = f + 1 ∧ (Region.ready md ops listed).isEmpty = false ∧ ∀ i ∈ Region.ready md ops listed, StepI P ops Q (fun a' w' => S w' ∧ Inv f (listed.setIfInBounds i true) a' w') i a w) :
    ∀ fuel listed a w, Inv fuel listed a w → wpAnyH P md ops Q S fuel listed a w := by
  intro fuel
  induction fuel with
  | zero =>
    intro listed a w hi
    rcases h 0 listed a w hi with q | ⟨f, e, _⟩
    · exact q
    · cases e
  | succ fuel ih =>
    intro listed a w hi
    rcases h (fuel + 1) listed a w hi with q | ⟨f, e, hne, hs⟩
    · exact q
    · injection e with e
      subst e
      refine wpAnyH_all rfl (fun q => by rw [q] at hne; cases hne) fun i hr => ?_
      obtain ⟨o, ho, hk⟩ := hs i hr
      exact wpOp_step ho fun K' hK => hk K' fun a w q => hK a w ⟨q.1, ih _ a w q.2⟩
theorem mem_all {l : List Nat} {f : Nat → Bool} {i : Nat} (hi : i ∈ l) (h : l.all f = true) : f i = true := List.all_eq_true.1 h i hi
end
end Go.Proofs.YtglonlpfnllocaaGreatDoor

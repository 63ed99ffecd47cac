/-
  SolveFix answers true at every input, whatever the memory is that it is called in, where the package variables that it reads hold what their initialisers lay.
-/
import Derived.Test.YtglonlpfnllocaaGreatDoorWJM
import Derived.Test.YtglonlpfnllocaaGreatDoorXLM
import Derived.Test.YtglonlpfnllocaaGreatDoorCards
import Derived.Test.YtglonlpfnllocaaGreatDoorTie
import Derived.Deep.DeepHandedRow
import Derived.Deep.DeepWitnessRowRef
import Derived.Lay
import Derived.JoinedOf
import Derived.SevenTiedAt
namespace Go.Proofs.YtglonlpfnllocaaGreatDoor
open Go.ChangeShapes Go.WideShapes Go.ChangeAt Go.RowKit
theorem solveFix_errs {W : World} (h : laidMetH Tryz.prog Rows.solveFixRow.laid W) : ∃ a, Errs5 W a ∧ Three W a := eight_of h rfl rfl rfl rfl rfl rfl rfl rfl
theorem solveFix_met (os : Os) (args : Array Value) : laidMetH Tryz.prog Rows.solveFixRow.laid ((World.laidAll Tryz.prog os Rows.solveFixRow.laid).forCall (fun _ _ => 0) ⟨#[], args, []⟩).memory := by
  have h := laidMet_laidAll (P := Tryz.prog) (os := os) (laid := Rows.solveFixRow.laid) args (by kernel_rfl) (by kernel_rfl)
  exact h
theorem solveFix_reads (os : Os) {H : Type} (enc : TypeId × Value → H) : ∃ places, DataW.whole enc Tryz.prog ((World.laidAll Tryz.prog os Rows.solveFixRow.laid).forCall (fun _ _ => 0) ⟨#[], #[noArg], []⟩).memory Tryz.f3.params.toList Rows.solveFixSpec.vars false #[noArg].toList 8 = some ([.agg [.nil, .nil, .nil]], [], places) :=
  ⟨[], by kernel_rfl⟩

set_option maxRecDepth 100000 in
theorem solveFix_lifted (os : Os) (started : os.Started) (H : Type) (enc : TypeId × Value → H) (F : Stop.Interp) :
    ReturnsInHanded {} Tryz.checked os 3 .any ((OpenSpec.ofChange Rows.solveFixSpec).preRow enc Tryz.prog Tryz.f3 Rows.solveFixRow.domain false Rows.solveFixRow.laid) (((OpenSpec.ofChange Rows.solveFixSpec).at F).post enc Tryz.prog Tryz.f3 false true false false) := by
  obtain ⟨places, hx⟩ := solveFix_reads os enc
  refine returnsInHanded_of_row (C := Tryz.checked) (s := OpenSpec.ofChange Rows.solveFixSpec) Tryz.own started (by kernel_rfl) Tryz.func3
    (witness_row_atRef (enc := enc) (C := Tryz.checked) false (World.laidAll Tryz.prog os Rows.solveFixRow.laid) #[noArg] (World.laidAll_os _ _ _) (by kernel_rfl) (by kernel_rfl) (by kernel_rfl)
      (OpenSpec.preRow_of_cond 8 hx (by kernel_rfl) (fun k hk => by cases hk) (by kernel_rfl) (solveFix_met os _))) ?_
  intro W base args ds gs before hval0 hW _ _ _ hL hsh _
  have hval : ∀ (j : Nat) t v, Tryz.f3.params[j]? = some t → args[j]? = some v → Value.okWide Tryz.prog W .any base t v := hval0
  have hW' := hW
  obtain ⟨p, q, hA0, hV, rfl, hfz, hnd⟩ := hW
  have hA : DataW.TrodAll enc Tryz.prog W 0 (fun _ => true) true Tryz.f3.params.toList args.toList ds p := hA0
  rw [Tryz.params3] at hA hval
  obtain ⟨u0, vs0, d0, ds0, p0, q0, hargs, rfl, rfl, h0, r0⟩ := trodAll_cons hA
  obtain ⟨rfl, rfl, rfl⟩ := trodAll_nil r0
  obtain rfl : args = #[u0] := by cases args; simp_all
  obtain ⟨rfl, rfl⟩ := trodVars_none hV
  obtain ⟨v01, v02, v03, P0, rfl, hP0, lt0⟩ := prog_in (hval 0 26 u0 rfl rfl) h0
  obtain ⟨a, hE⟩ := solveFix_errs hL
  clear hA0 hval0
  refine (solveFix_any a P0 v01 v02 v03 W hP0 hE.1 hE.2).mono fun e W' ⟨he, bel⟩ => ?_
  subst he
  exact ⟨_, rfl, _, _, _, [], _, [], hW', trodAll_mk1 (shut_bool Tryz.underlying4 _), (trodAll_cons_mk (Below.trod Tryz.laidOut (by kernel_rfl) (of_decide_eq_true (by kernel_rfl)) h0 bel lt0) trodAll_mk0), rfl, bel.frame _, fun h => by cases h⟩

theorem solveFix_said : Rows.SolveFixSaid :=
  OpenClaim.holds_of_cond 3 Tryz.f3 rfl rfl rfl rfl rfl rfl rfl ⟨rfl, rfl, rfl, rfl, rfl⟩ rfl rfl rfl rfl rfl (by kernel_rfl) Tryz.func3 (by kernel_rfl)
    (of_decide_eq_true (by kernel_rfl)) (by unfold Func.isWrapper; first | (rw [if_pos (by decide +kernel)]; kernel_rfl) | (rw [if_neg (by decide +kernel)]; exact ⟨rfl, rfl⟩))
    (fun os started H enc _ F => by rw [OpenClaim.pre_eq_preRow]; exact solveFix_lifted os started H enc F)

theorem solveFix_plain (f : FuncId) (fn : Func) (hf : Tryz.pinned.checked.prog.funcNamed "fingerpost/fingerpostlaw2.SolveFix" = some f) (hfn : Tryz.pinned.checked.prog.funcs[f]? = some fn) :
    true = Tryz.pinned.checked.prog.looks [] ∧ ∀ (j : Nat) t, fn.params[j]? = some t → Tryz.pinned.checked.prog.wantsStandIn t = false := by
  obtain rfl : f = 3 := Option.some.inj ((show Tryz.prog.funcNamed "fingerpost/fingerpostlaw2.SolveFix" = some 3 by kernel_rfl).symm.trans hf) |>.symm
  obtain rfl : fn = Tryz.f3 := (Option.some.inj (Tryz.func3.symm.trans hfn)).symm
  refine ⟨by kernel_rfl, fun j t ht => ?_⟩
  rw [Tryz.params3] at ht
  have hm : t = 26 := by
    have := Array.mem_of_getElem? ht
    simpa using this
  subst hm
  exact (show Tryz.prog.wantsStandIn 26 = false by kernel_rfl)

theorem solveFix_card : Rows.SolveFixCardSaid :=
  Claim7.holds_tied_plain_at .later [] _ _ _ _ solveFix_said (fun _ h => by cases h) (by kernel_rfl) (fun _ h => by cases h) solveFix_row_tie rfl ⟨rfl, rfl⟩ (by kernel_rfl) rfl solveFix_plain (by kernel_rfl)
end Go.Proofs.YtglonlpfnllocaaGreatDoor

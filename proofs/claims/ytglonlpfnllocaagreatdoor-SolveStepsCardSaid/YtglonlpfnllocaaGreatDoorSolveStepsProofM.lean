/-
  SolveSteps answers true at every input, whatever the memory is that it is called in, where the package variables that it reads hold what their initialisers lay.
-/
import Derived.Test.YtglonlpfnllocaaGreatDoorW4M
import Derived.Test.YtglonlpfnllocaaGreatDoorXLM
import Derived.Test.YtglonlpfnllocaaGreatDoorLaidErrsM
import Derived.Test.YtglonlpfnllocaaGreatDoorCards
import Derived.Test.YtglonlpfnllocaaGreatDoorTie
import Derived.Deep.DeepHandedRow
import Derived.Deep.DeepWitnessRowRef
import Derived.Lay
import Derived.JoinedOf
import Derived.SevenTiedAt
namespace Go.Proofs.YtglonlpfnllocaaGreatDoor
open Go.ChangeShapes Go.WideShapes Go.ChangeAt Go.RowKit
theorem solveSteps_errs {W : World} (h : laidMetH Tryz.prog Rows.solveStepsRow.laid W) : ∃ a, Errs W a :=
  errs_of h (fun i hi => by
    match i, hi with
    | 0, _ => rfl
    | 1, _ => rfl
    | 2, _ => rfl
    | 3, _ => rfl
    | 4, _ => rfl
    | 5, _ => rfl
    | 6, _ => rfl
    | 7, _ => rfl
    | 8, _ => rfl
    | 9, _ => rfl
    | 10, _ => rfl
    | n + 11, h => exact absurd h (by omega)) rfl
/-- A world in which a variable that is no plain datum holds a value, and the others what is listed. -/
def worldWith (P : Program) (os : Os) (g : Nat) (v : Value) (laid : List (String × DataW Unit)) : World := ((World.holding P os ⟨#[], #[], []⟩).setCell ⟨g, 0, none⟩ v).layVars P laid
theorem worldWith_os (P : Program) (os : Os) (g : Nat) (v : Value) (laid : List (String × DataW Unit)) : (worldWith P os g v laid).os = os := by
  unfold worldWith
  rw [World.layVars_os]; rfl
theorem worldWith_met {P : Program} {os : Os} {g : Nat} {v : Value} {laid : List (String × DataW Unit)} (args : Array Value)
    (hf : ((World.holding P os ⟨#[], #[], []⟩).setCell ⟨g, 0, none⟩ v).layFits P laid [] = true)
    (hi : ((World.holding P os ⟨#[], #[], []⟩).setCell ⟨g, 0, none⟩ v).layIfaces P laid (worldWith P os g v laid) = true) :
    laidMet P laid ((worldWith P os g v laid).forCall (fun _ _ => 0) ⟨#[], args, []⟩).memory := by
  have e1 : (laid.filter fun x => (laid.map (·.1)).contains x.1) = laid := List.filter_eq_self.2 fun x hx => List.contains_iff_mem.2 (List.mem_map.2 ⟨x, hx, rfl⟩)
  have e2 : (laid.filter fun x => !(laid.map (·.1)).contains x.1) = [] := List.filter_eq_nil_iff.2 fun x hx => by rw [List.contains_iff_mem.2 (List.mem_map.2 ⟨x, hx, rfl⟩)]; simp
  have h : laidMet P laid (worldWith P os g v laid) := laidMet_layVars (w0 := (World.holding P os ⟨#[], #[], []⟩).setCell ⟨g, 0, none⟩ v) (laid.map (·.1)) [] (by rw [e1]; rfl) (by rw [e1]; exact hf) (by rw [e1]; exact hi) (by rw [e2]; exact LaidIn.none)
  exact h.of_heap (by simp [World.memory, World.forCall, Input.heap])

abbrev tellsHandle : Value := .iface 172 (.agg #[.pointer (some ⟨12, 31, none⟩)])
abbrev tellsPlain : List (String × DataW Unit) := Rows.solveStepsRow.laid.filter fun x => x.2.handleName?.isNone
theorem solveSteps_met (os : Os) (args : Array Value) : laidMetH Tryz.prog Rows.solveStepsRow.laid ((worldWith Tryz.prog os 11 tellsHandle tellsPlain).forCall (fun _ _ => 0) ⟨#[], args, []⟩).memory :=
  laidMetH_of_parts (worldWith_met args (by kernel_rfl) (by kernel_rfl)) (by kernel_rfl)
theorem solveSteps_reads (os : Os) {H : Type} (enc : TypeId × Value → H) : ∃ places, DataW.whole enc Tryz.prog ((worldWith Tryz.prog os 11 tellsHandle tellsPlain).forCall (fun _ _ => 0) ⟨#[], #[noArg, .slice none 0 0], []⟩).memory Tryz.f5.params.toList Rows.solveStepsSpec.vars false #[noArg, .slice none 0 0].toList 8 = some ([.agg [.nil, .nil, .nil], .nil], [], places) :=
  ⟨[], by kernel_rfl⟩

set_option maxRecDepth 100000 in
theorem solveSteps_lifted (os : Os) (started : os.Started) (H : Type) (enc : TypeId × Value → H) (F : Stop.Interp) :
    ReturnsInHanded {} Tryz.checked os 5 .any ((OpenSpec.ofChange Rows.solveStepsSpec).preRow enc Tryz.prog Tryz.f5 Rows.solveStepsRow.domain false Rows.solveStepsRow.laid) (((OpenSpec.ofChange Rows.solveStepsSpec).at F).post enc Tryz.prog Tryz.f5 false true false false) := by
  obtain ⟨places, hx⟩ := solveSteps_reads os enc
  refine returnsInHanded_of_row (C := Tryz.checked) (s := OpenSpec.ofChange Rows.solveStepsSpec) Tryz.own started (by kernel_rfl) Tryz.func5
    (witness_row_atRef (enc := enc) (C := Tryz.checked) false (worldWith Tryz.prog os 11 tellsHandle tellsPlain) #[noArg, .slice none 0 0] (worldWith_os _ _ _ _ _) (by kernel_rfl) (by kernel_rfl) (by kernel_rfl)
      (OpenSpec.preRow_of_cond 8 hx (by kernel_rfl) (fun k hk => by cases hk) (by kernel_rfl) (solveSteps_met os _))) ?_
  intro W base args ds gs before hval0 hW _ _ _ hL hsh _
  have hval : ∀ (j : Nat) t v, Tryz.f5.params[j]? = some t → args[j]? = some v → Value.okWide Tryz.prog W .any base t v := hval0
  have hW' := hW
  obtain ⟨p, q, hA0, hV, rfl, hfz, hnd⟩ := hW
  have hA : DataW.TrodAll enc Tryz.prog W 0 (fun _ => true) true Tryz.f5.params.toList args.toList ds p := hA0
  rw [Tryz.params5] at hA hval
  obtain ⟨u0, vs0, d0, ds0, p0, q0, hargs, rfl, rfl, h0, r0⟩ := trodAll_cons hA
  obtain ⟨u1, vs1, d1, ds1, p1, q1, rfl, rfl, rfl, h1, r1⟩ := trodAll_cons r0
  obtain ⟨rfl, rfl, rfl⟩ := trodAll_nil r1
  obtain rfl : args = #[u0, u1] := by cases args; simp_all
  obtain ⟨rfl, rfl⟩ := trodVars_none hV
  obtain ⟨v01, v02, v03, P0, rfl, hP0, lt0⟩ := prog_in (hval 0 26 u0 rfl rfl) h0
  obtain ⟨zs1, hz1⟩ := ints_came (hval 1 40 u1 rfl rfl) h1
  obtain ⟨a, hE⟩ := solveSteps_errs hL
  clear hA0 hval0
  refine (solveSteps_any a P0 v01 v02 v03 u1 zs1 W hP0 hz1.1 hE).mono fun e W' ⟨he, bel⟩ => ?_
  subst he
  exact ⟨_, rfl, _, _, _, [], _, [], hW', trodAll_mk1 (shut_bool Tryz.underlying4 _), (trodAll_cons_mk (Below.trod Tryz.laidOut (by kernel_rfl) (of_decide_eq_true (by kernel_rfl)) h0 bel lt0) (trodAll_cons_mk (Below.trod Tryz.laidOut (by kernel_rfl) (of_decide_eq_true (by kernel_rfl)) h1 bel (trod_low h1)) trodAll_mk0)), rfl, bel.frame _, fun h => by cases h⟩

theorem solveSteps_said : Rows.SolveStepsSaid :=
  OpenClaim.holds_of_cond 5 Tryz.f5 rfl rfl rfl rfl rfl rfl rfl ⟨rfl, rfl, rfl, rfl, rfl⟩ rfl rfl rfl rfl rfl (by kernel_rfl) Tryz.func5 (by kernel_rfl)
    (of_decide_eq_true (by kernel_rfl)) (by unfold Func.isWrapper; first | (rw [if_pos (by decide +kernel)]; kernel_rfl) | (rw [if_neg (by decide +kernel)]; exact ⟨rfl, rfl⟩))
    (fun os started H enc _ F => by rw [OpenClaim.pre_eq_preRow]; exact solveSteps_lifted os started H enc F)

theorem solveSteps_plain (f : FuncId) (fn : Func) (hf : Tryz.pinned.checked.prog.funcNamed "fingerpost/fingerpostlaw2.SolveSteps" = some f) (hfn : Tryz.pinned.checked.prog.funcs[f]? = some fn) :
    true = Tryz.pinned.checked.prog.looks [] ∧ ∀ (j : Nat) t, fn.params[j]? = some t → Tryz.pinned.checked.prog.wantsStandIn t = false := by
  obtain rfl : f = 5 := Option.some.inj ((show Tryz.prog.funcNamed "fingerpost/fingerpostlaw2.SolveSteps" = some 5 by kernel_rfl).symm.trans hf) |>.symm
  obtain rfl : fn = Tryz.f5 := (Option.some.inj (Tryz.func5.symm.trans hfn)).symm
  refine ⟨by kernel_rfl, fun j t ht => ?_⟩
  rw [Tryz.params5] at ht
  have hm : t = 26 ∨ t = 40 := by
    have := Array.mem_of_getElem? ht
    simpa using this
  rcases hm with rfl | rfl
  · exact (show Tryz.prog.wantsStandIn 26 = false by kernel_rfl)
  · exact (show Tryz.prog.wantsStandIn 40 = false by kernel_rfl)

theorem solveSteps_card : Rows.SolveStepsCardSaid :=
  Claim7.holds_tied_plain_at .later [] _ _ _ _ solveSteps_said (fun _ h => by cases h) (by kernel_rfl) (fun _ h => by cases h) solveSteps_row_tie rfl ⟨rfl, rfl⟩ (by kernel_rfl) rfl solveSteps_plain (by kernel_rfl)
end Go.Proofs.YtglonlpfnllocaaGreatDoor

/-
  CallsTell answers true at every input, whatever the memory is that it is called in, where the package variables that it reads hold what their initialisers lay.
-/
import Derived.Test.YteekjigaicmohaaGreatDoorZTM
import Derived.Test.YteekjigaicmohaaGreatDoorXLEM
import Derived.Test.YteekjigaicmohaaGreatDoorCards
import Derived.Test.YteekjigaicmohaaGreatDoorTie
import Derived.Deep.DeepHandedRow
import Derived.Deep.DeepWitnessRowRef
import Derived.Lay
import Derived.JoinedOf
import Derived.SevenTiedAt
namespace Go.Proofs.YteekjigaicmohaaGreatDoor
open Go.ChangeShapes Go.WideShapes Go.ChangeAt Go.RowKit
theorem callsTell_errs {W : World} (h : laidMetH Tryz.prog Rows.callsTellRow.laid W) : ∃ a, Errs W a :=
  errs_of h (fun i hi => by
    match i, hi with
    | 0, _ => rfl
    | 1, _ => rfl
    | 2, _ => rfl
    | 3, _ => rfl
    | 4, _ => rfl
    | 5, _ => rfl
    | 6, _ => rfl
    | 7, _ => rfl
    | 8, _ => rfl
    | 9, _ => rfl
    | 10, _ => rfl
    | n + 11, h => exact absurd h (by omega)) rfl
/-- A world in which a variable that is no plain datum holds a value, and the others what is listed. -/
def worldWith (P : Program) (os : Os) (g : Nat) (v : Value) (laid : List (String × DataW Unit)) : World := ((World.holding P os ⟨#[], #[], []⟩).setCell ⟨g, 0, none⟩ v).layVars P laid
theorem worldWith_os (P : Program) (os : Os) (g : Nat) (v : Value) (laid : List (String × DataW Unit)) : (worldWith P os g v laid).os = os := by
  unfold worldWith
  rw [World.layVars_os]; rfl
theorem worldWith_met {P : Program} {os : Os} {g : Nat} {v : Value} {laid : List (String × DataW Unit)} (args : Array Value)
    (hf : ((World.holding P os ⟨#[], #[], []⟩).setCell ⟨g, 0, none⟩ v).layFits P laid [] = true)
    (hi : ((World.holding P os ⟨#[], #[], []⟩).setCell ⟨g, 0, none⟩ v).layIfaces P laid (worldWith P os g v laid) = true) :
    laidMet P laid ((worldWith P os g v laid).forCall (fun _ _ => 0) ⟨#[], args, []⟩).memory := by
  have e1 : (laid.filter fun x => (laid.map (·.1)).contains x.1) = laid := List.filter_eq_self.2 fun x hx => List.contains_iff_mem.2 (List.mem_map.2 ⟨x, hx, rfl⟩)
  have e2 : (laid.filter fun x => !(laid.map (·.1)).contains x.1) = [] := List.filter_eq_nil_iff.2 fun x hx => by rw [List.contains_iff_mem.2 (List.mem_map.2 ⟨x, hx, rfl⟩)]; simp
  have h : laidMet P laid (worldWith P os g v laid) := laidMet_layVars (w0 := (World.holding P os ⟨#[], #[], []⟩).setCell ⟨g, 0, none⟩ v) (laid.map (·.1)) [] (by rw [e1]; rfl) (by rw [e1]; exact hf) (by rw [e1]; exact hi) (by rw [e2]; exact LaidIn.none)
  exact h.of_heap (by simp [World.memory, World.forCall, Input.heap])

abbrev tellsHandle : Value := .iface 218 (.agg #[.pointer (some ⟨12, 31, none⟩)])
abbrev tellsPlain : List (String × DataW Unit) := Rows.callsTellRow.laid.filter fun x => x.2.handleName?.isNone
theorem callsTell_met (os : Os) (args : Array Value) : laidMetH Tryz.prog Rows.callsTellRow.laid ((worldWith Tryz.prog os 11 tellsHandle tellsPlain).forCall (fun _ _ => 0) ⟨#[], args, []⟩).memory :=
  laidMetH_of_parts (worldWith_met args (by kernel_rfl) (by kernel_rfl)) (by kernel_rfl)
theorem callsTell_reads (os : Os) {H : Type} (enc : TypeId × Value → H) : ∃ places, DataW.whole enc Tryz.prog ((worldWith Tryz.prog os 11 tellsHandle tellsPlain).forCall (fun _ _ => 0) ⟨#[], #[noArg, .int .i64 0, .int .i64 0, .int .i64 0], []⟩).memory Tryz.f6.params.toList Rows.callsTellSpec.vars false #[noArg, .int .i64 0, .int .i64 0, .int .i64 0].toList 8 = some ([.agg [.nil, .nil, .nil], .lit (.int .i64 0), .lit (.int .i64 0), .lit (.int .i64 0)], [], places) :=
  ⟨[], by kernel_rfl⟩

set_option maxRecDepth 100000 in
theorem callsTell_lifted (os : Os) (started : os.Started) (H : Type) (enc : TypeId × Value → H) (F : Stop.Interp) :
    ReturnsInHanded {} Tryz.checked os 6 .any ((OpenSpec.ofChange Rows.callsTellSpec).preRow enc Tryz.prog Tryz.f6 Rows.callsTellRow.domain false Rows.callsTellRow.laid) (((OpenSpec.ofChange Rows.callsTellSpec).at F).post enc Tryz.prog Tryz.f6 false true false false) := by
  obtain ⟨places, hx⟩ := callsTell_reads os enc
  refine returnsInHanded_of_row (C := Tryz.checked) (s := OpenSpec.ofChange Rows.callsTellSpec) Tryz.own started (by kernel_rfl) Tryz.func6
    (witness_row_atRef (enc := enc) (C := Tryz.checked) false (worldWith Tryz.prog os 11 tellsHandle tellsPlain) #[noArg, .int .i64 0, .int .i64 0, .int .i64 0] (worldWith_os _ _ _ _ _) (by kernel_rfl) (by kernel_rfl) (by kernel_rfl)
      (OpenSpec.preRow_of_cond 8 hx (by kernel_rfl) (fun k hk => by cases hk) (by kernel_rfl) (callsTell_met os _))) ?_
  intro W base args ds gs before hval0 hW _ _ _ hL hsh _
  have hval : ∀ (j : Nat) t v, Tryz.f6.params[j]? = some t → args[j]? = some v → Value.okWide Tryz.prog W .any base t v := hval0
  have hW' := hW
  obtain ⟨p, q, hA0, hV, rfl, hfz, hnd⟩ := hW
  have hA : DataW.TrodAll enc Tryz.prog W 0 (fun _ => true) true Tryz.f6.params.toList args.toList ds p := hA0
  rw [Tryz.params6] at hA hval
  obtain ⟨u0, vs0, d0, ds0, p0, q0, hargs, rfl, rfl, h0, r0⟩ := trodAll_cons hA
  obtain ⟨u1, vs1, d1, ds1, p1, q1, rfl, rfl, rfl, h1, r1⟩ := trodAll_cons r0
  obtain ⟨u2, vs2, d2, ds2, p2, q2, rfl, rfl, rfl, h2, r2⟩ := trodAll_cons r1
  obtain ⟨u3, vs3, d3, ds3, p3, q3, rfl, rfl, rfl, h3, r3⟩ := trodAll_cons r2
  obtain ⟨rfl, rfl, rfl⟩ := trodAll_nil r3
  obtain rfl : args = #[u0, u1, u2, u3] := by cases args; simp_all
  obtain ⟨rfl, rfl⟩ := trodVars_none hV
  obtain ⟨v01, v02, v03, P0, rfl, hP0, lt0⟩ := prog_in (hval 0 26 u0 rfl rfl) h0
  obtain ⟨z1, rfl⟩ := okWide_int Tryz.underlying3 (hval 1 3 u1 rfl rfl)
  obtain ⟨z2, rfl⟩ := okWide_int Tryz.underlying3 (hval 2 3 u2 rfl rfl)
  obtain ⟨z3, rfl⟩ := okWide_int Tryz.underlying3 (hval 3 3 u3 rfl rfl)
  obtain ⟨a, hE⟩ := callsTell_errs hL
  clear hA0 hval0
  refine (callsTell_any a P0 v01 v02 v03 z1 z2 z3 W hP0 hE).mono fun e W' ⟨he, bel⟩ => ?_
  subst he
  exact ⟨_, rfl, _, _, _, [], _, [], hW', trodAll_mk1 (shut_bool Tryz.underlying4 _), (trodAll_cons_mk (Below.trod Tryz.laidOut (by kernel_rfl) (of_decide_eq_true (by kernel_rfl)) h0 bel lt0) (trodAll_cons_mk (Below.trod Tryz.laidOut (by kernel_rfl) (of_decide_eq_true (by kernel_rfl)) h1 bel (trod_low h1)) (trodAll_cons_mk (Below.trod Tryz.laidOut (by kernel_rfl) (of_decide_eq_true (by kernel_rfl)) h2 bel (trod_low h2)) (trodAll_cons_mk (Below.trod Tryz.laidOut (by kernel_rfl) (of_decide_eq_true (by kernel_rfl)) h3 bel (trod_low h3)) trodAll_mk0)))), rfl, bel.frame _, fun h => by cases h⟩

theorem callsTell_said : Rows.CallsTellSaid :=
  OpenClaim.holds_of_cond 6 Tryz.f6 rfl rfl rfl rfl rfl rfl rfl ⟨rfl, rfl, rfl, rfl, rfl⟩ rfl rfl rfl rfl rfl (by kernel_rfl) Tryz.func6 (by kernel_rfl)
    (of_decide_eq_true (by kernel_rfl)) (by unfold Func.isWrapper; first | (rw [if_pos (by decide +kernel)]; kernel_rfl) | (rw [if_neg (by decide +kernel)]; exact ⟨rfl, rfl⟩))
    (fun os started H enc _ F => by rw [OpenClaim.pre_eq_preRow]; exact callsTell_lifted os started H enc F)

theorem callsTell_plain (f : FuncId) (fn : Func) (hf : Tryz.pinned.checked.prog.funcNamed "fingerpost/fingerpostlaw2.CallsTell" = some f) (hfn : Tryz.pinned.checked.prog.funcs[f]? = some fn) :
    true = Tryz.pinned.checked.prog.looks [] ∧ ∀ (j : Nat) t, fn.params[j]? = some t → Tryz.pinned.checked.prog.wantsStandIn t = false := by
  obtain rfl : f = 6 := Option.some.inj ((show Tryz.prog.funcNamed "fingerpost/fingerpostlaw2.CallsTell" = some 6 by kernel_rfl).symm.trans hf) |>.symm
  obtain rfl : fn = Tryz.f6 := (Option.some.inj (Tryz.func6.symm.trans hfn)).symm
  refine ⟨by kernel_rfl, fun j t ht => ?_⟩
  rw [Tryz.params6] at ht
  have hm : t = 26 ∨ t = 3 := by
    have := Array.mem_of_getElem? ht
    simpa using this
  rcases hm with rfl | rfl
  · exact (show Tryz.prog.wantsStandIn 26 = false by kernel_rfl)
  · exact (show Tryz.prog.wantsStandIn 3 = false by kernel_rfl)

theorem callsTell_card : Rows.CallsTellCardSaid :=
  Claim7.holds_tied_plain_at .later [] _ _ _ _ callsTell_said (fun _ h => by cases h) (by kernel_rfl) (fun _ h => by cases h) callsTell_row_tie rfl ⟨rfl, rfl⟩ (by kernel_rfl) rfl callsTell_plain (by kernel_rfl)
end Go.Proofs.YteekjigaicmohaaGreatDoor

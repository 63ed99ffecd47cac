/-
  CallsMay answers true at every input, whatever the memory is that it is called in, where the package variables that it reads hold what their initialisers lay.
-/
import Derived.Test.YteekjigaicmohaaGreatDoorYNM
import Derived.Test.YteekjigaicmohaaGreatDoorXLM
import Derived.Test.YteekjigaicmohaaGreatDoorCards
import Derived.Test.YteekjigaicmohaaGreatDoorTie
import Derived.Deep.DeepHandedRow
import Derived.Deep.DeepWitnessRowRef
import Derived.Lay
import Derived.JoinedOf
import Derived.SevenTiedAt
namespace Go.Proofs.YteekjigaicmohaaGreatDoor
open Go.ChangeShapes Go.WideShapes Go.ChangeAt Go.RowKit
theorem callsMay_errs {W : World} (h : laidMetH Tryz.prog Rows.callsMayRow.laid W) : ∃ a, Errs5 W a ∧ Three W a := eight_of h rfl rfl rfl rfl rfl rfl rfl rfl
theorem callsMay_met (os : Os) (args : Array Value) : laidMetH Tryz.prog Rows.callsMayRow.laid ((World.laidAll Tryz.prog os Rows.callsMayRow.laid).forCall (fun _ _ => 0) ⟨#[], args, []⟩).memory := by
  have h := laidMet_laidAll (P := Tryz.prog) (os := os) (laid := Rows.callsMayRow.laid) args (by kernel_rfl) (by kernel_rfl)
  exact h
theorem callsMay_reads (os : Os) {H : Type} (enc : TypeId × Value → H) : ∃ places, DataW.whole enc Tryz.prog ((World.laidAll Tryz.prog os Rows.callsMayRow.laid).forCall (fun _ _ => 0) ⟨#[], #[noArg, .slice none 0 0], []⟩).memory Tryz.f8.params.toList Rows.callsMaySpec.vars false #[noArg, .slice none 0 0].toList 8 = some ([.agg [.nil, .nil, .nil], .nil], [], places) :=
  ⟨[], by kernel_rfl⟩

set_option maxRecDepth 100000 in
theorem callsMay_lifted (os : Os) (started : os.Started) (H : Type) (enc : TypeId × Value → H) (F : Stop.Interp) :
    ReturnsInHanded {} Tryz.checked os 8 .any ((OpenSpec.ofChange Rows.callsMaySpec).preRow enc Tryz.prog Tryz.f8 Rows.callsMayRow.domain false Rows.callsMayRow.laid) (((OpenSpec.ofChange Rows.callsMaySpec).at F).post enc Tryz.prog Tryz.f8 false true false false) := by
  obtain ⟨places, hx⟩ := callsMay_reads os enc
  refine returnsInHanded_of_row (C := Tryz.checked) (s := OpenSpec.ofChange Rows.callsMaySpec) Tryz.own started (by kernel_rfl) Tryz.func8
    (witness_row_atRef (enc := enc) (C := Tryz.checked) false (World.laidAll Tryz.prog os Rows.callsMayRow.laid) #[noArg, .slice none 0 0] (World.laidAll_os _ _ _) (by kernel_rfl) (by kernel_rfl) (by kernel_rfl)
      (OpenSpec.preRow_of_cond 8 hx (by kernel_rfl) (fun k hk => by cases hk) (by kernel_rfl) (callsMay_met os _))) ?_
  intro W base args ds gs before hval0 hW _ _ _ hL hsh _
  have hval : ∀ (j : Nat) t v, Tryz.f8.params[j]? = some t → args[j]? = some v → Value.okWide Tryz.prog W .any base t v := hval0
  have hW' := hW
  obtain ⟨p, q, hA0, hV, rfl, hfz, hnd⟩ := hW
  have hA : DataW.TrodAll enc Tryz.prog W 0 (fun _ => true) true Tryz.f8.params.toList args.toList ds p := hA0
  rw [Tryz.params8] at hA hval
  obtain ⟨u0, vs0, d0, ds0, p0, q0, hargs, rfl, rfl, h0, r0⟩ := trodAll_cons hA
  obtain ⟨u1, vs1, d1, ds1, p1, q1, rfl, rfl, rfl, h1, r1⟩ := trodAll_cons r0
  obtain ⟨rfl, rfl, rfl⟩ := trodAll_nil r1
  obtain rfl : args = #[u0, u1] := by cases args; simp_all
  obtain ⟨rfl, rfl⟩ := trodVars_none hV
  obtain ⟨v01, v02, v03, P0, rfl, hP0, lt0⟩ := prog_in (hval 0 26 u0 rfl rfl) h0
  obtain ⟨zs1, hz1⟩ := ints_came (hval 1 40 u1 rfl rfl) h1
  obtain ⟨a, hE⟩ := callsMay_errs hL
  clear hA0 hval0
  refine (callsMay_any a P0 v01 v02 v03 u1 zs1 W hP0 hz1 hE.1 hE.2).mono fun e W' ⟨he, bel⟩ => ?_
  subst he
  exact ⟨_, rfl, _, _, _, [], _, [], hW', trodAll_mk1 (shut_bool Tryz.underlying4 _), (trodAll_cons_mk (Below.trod Tryz.laidOut (by kernel_rfl) (of_decide_eq_true (by kernel_rfl)) h0 bel lt0) (trodAll_cons_mk (Below.trod Tryz.laidOut (by kernel_rfl) (of_decide_eq_true (by kernel_rfl)) h1 bel (trod_low h1)) trodAll_mk0)), rfl, bel.frame _, fun h => by cases h⟩

theorem callsMay_said : Rows.CallsMaySaid :=
  OpenClaim.holds_of_cond 8 Tryz.f8 rfl rfl rfl rfl rfl rfl rfl ⟨rfl, rfl, rfl, rfl, rfl⟩ rfl rfl rfl rfl rfl (by kernel_rfl) Tryz.func8 (by kernel_rfl)
    (of_decide_eq_true (by kernel_rfl)) (by unfold Func.isWrapper; first | (rw [if_pos (by decide +kernel)]; kernel_rfl) | (rw [if_neg (by decide +kernel)]; exact ⟨rfl, rfl⟩))
    (fun os started H enc _ F => by rw [OpenClaim.pre_eq_preRow]; exact callsMay_lifted os started H enc F)

theorem callsMay_plain (f : FuncId) (fn : Func) (hf : Tryz.pinned.checked.prog.funcNamed "fingerpost/fingerpostlaw2.CallsMay" = some f) (hfn : Tryz.pinned.checked.prog.funcs[f]? = some fn) :
    true = Tryz.pinned.checked.prog.looks [] ∧ ∀ (j : Nat) t, fn.params[j]? = some t → Tryz.pinned.checked.prog.wantsStandIn t = false := by
  obtain rfl : f = 8 := Option.some.inj ((show Tryz.prog.funcNamed "fingerpost/fingerpostlaw2.CallsMay" = some 8 by kernel_rfl).symm.trans hf) |>.symm
  obtain rfl : fn = Tryz.f8 := (Option.some.inj (Tryz.func8.symm.trans hfn)).symm
  refine ⟨by kernel_rfl, fun j t ht => ?_⟩
  rw [Tryz.params8] at ht
  have hm : t = 26 ∨ t = 40 := by
    have := Array.mem_of_getElem? ht
    simpa using this
  rcases hm with rfl | rfl
  · exact (show Tryz.prog.wantsStandIn 26 = false by kernel_rfl)
  · exact (show Tryz.prog.wantsStandIn 40 = false by kernel_rfl)

theorem callsMay_card : Rows.CallsMayCardSaid :=
  Claim7.holds_tied_plain_at .later [] _ _ _ _ callsMay_said (fun _ h => by cases h) (by kernel_rfl) (fun _ h => by cases h) callsMay_row_tie rfl ⟨rfl, rfl⟩ (by kernel_rfl) rfl callsMay_plain (by kernel_rfl)
end Go.Proofs.YteekjigaicmohaaGreatDoor

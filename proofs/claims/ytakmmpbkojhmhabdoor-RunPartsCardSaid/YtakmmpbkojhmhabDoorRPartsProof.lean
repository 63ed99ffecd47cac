/-
  RunParts answers true at every program, script and number, whatever the memory is that it is called in, where the package variables that it reads hold what their initialisers lay.
-/
import Derived.Test.YtakmmpbkojhmhabDoorRN
import Derived.Test.YtakmmpbkojhmhabDoorPOpen
import Derived.Test.YtakmmpbkojhmhabDoorLaid
import Derived.Test.YtakmmpbkojhmhabDoorCards
import Derived.Test.YtakmmpbkojhmhabDoorTie
import Derived.Deep.DeepHandedRow
import Derived.Deep.DeepWitnessRowRef
import Derived.Lay
import Derived.JoinedOf
import Derived.SevenTiedAt
namespace Go.Proofs.YtakmmpbkojhmhabDoor
open Go.ChangeShapes Go.WideShapes Go.ChangeAt Go.RowKit

theorem Tryd.laidOut : laidOutB Tryd.prog = true := by kernel_rfl
theorem runParts_errs {W : World} (h : laidMetH Tryd.prog Rows.runPartsRow.laid W) : ∃ a, Errs5 W a := by
  obtain ⟨a1, _, h1, _⟩ := sentinel_of h "fingerpost/api.ErrBound" _ 1 rfl (by kernel_rfl) (by kernel_rfl)
  obtain ⟨a2, _, h2, _⟩ := sentinel_of h "fingerpost/api.ErrShape" _ 3 rfl (by kernel_rfl) (by kernel_rfl)
  obtain ⟨a3, _, h3, _⟩ := sentinel_of h "fingerpost/api.ErrKind" _ 4 rfl (by kernel_rfl) (by kernel_rfl)
  obtain ⟨a4, _, h4, _⟩ := sentinel_of h "fingerpost/api.ErrName" _ 5 rfl (by kernel_rfl) (by kernel_rfl)
  obtain ⟨a6, _, h6, _⟩ := sentinel_of h "fingerpost/api.ErrExist" _ 7 rfl (by kernel_rfl) (by kernel_rfl)
  obtain ⟨a7, _, h7, _⟩ := sentinel_of h "fingerpost/api.ErrFull" _ 0 rfl (by kernel_rfl) (by kernel_rfl)
  obtain ⟨a8, _, h8, _⟩ := sentinel_of h "fingerpost/api.ErrArgs" _ 8 rfl (by kernel_rfl) (by kernel_rfl)
  exact ⟨fun i => if i = 1 then a1 else if i = 2 then a2 else if i = 3 then a3 else if i = 4 then a4 else if i = 6 then a6 else if i = 7 then a7 else a8, h1, h2, h3, h4, h6, h7, h8⟩

abbrev noArg : Value := .agg #[.slice none 0 0, .slice none 0 0, .slice none 0 0]
theorem runParts_met (os : Os) (args : Array Value) : laidMetH Tryd.prog Rows.runPartsRow.laid ((World.laidAll Tryd.prog os Rows.runPartsRow.laid).forCall (fun _ _ => 0) ⟨#[], args, []⟩).memory := by
  have h := laidMet_laidAll (P := Tryd.prog) (os := os) (laid := Rows.runPartsRow.laid) args (by kernel_rfl) (by kernel_rfl)
  exact h
theorem runParts_reads (os : Os) {H : Type} (enc : TypeId × Value → H) : ∃ places, DataW.whole enc Tryd.prog ((World.laidAll Tryd.prog os Rows.runPartsRow.laid).forCall (fun _ _ => 0) ⟨#[], #[noArg, .slice none 0 0, .int .i64 0], []⟩).memory Tryd.f4.params.toList Rows.runPartsSpec.vars false #[noArg, .slice none 0 0, .int .i64 0].toList 8 = some ([.agg [.nil, .nil, .nil], .nil, .lit (.int .i64 0)], [], places) :=
  ⟨[], by kernel_rfl⟩

set_option maxRecDepth 100000 in
theorem ints_came {H : Type} {enc : TypeId × Value → H} {W : World} {base : Nat} {v : Value} {d : DataW H} {p : List MemPlace} (hv : Value.okWide Tryd.prog W .any base 27 v) (h : DataW.Trod enc Tryd.prog W 0 (fun _ => true) true 27 v d p) :
    ∃ zs, IsCap W v zs ∧ ∀ x ∈ p, x.block < W.heap.size := by
  obtain ⟨a, n, c, rfl⟩ := okWide_slice Tryd.underlying27 hv
  have hlt : ∀ x ∈ p, x.block < W.heap.size := by obtain ⟨m, hm⟩ := h; exact DataW.trod_lt m _ _ _ hm
  obtain ⟨fuel, hf⟩ := h
  obtain ⟨zs, hz⟩ := ints_read (enc := enc) (W := W) (v := .slice a n c) (by simpa [Value.cells] using hf)
  exact ⟨zs, hz, hlt⟩

set_option maxRecDepth 100000 in
theorem runParts_lifted (os : Os) (started : os.Started) (H : Type) (enc : TypeId × Value → H) (F : Stop.Interp) :
    ReturnsInHanded {} Tryd.checked os 4 .any ((OpenSpec.ofChange Rows.runPartsSpec).preRow enc Tryd.prog Tryd.f4 Rows.runPartsRow.domain false Rows.runPartsRow.laid) (((OpenSpec.ofChange Rows.runPartsSpec).at F).post enc Tryd.prog Tryd.f4 false true false false) := by
  obtain ⟨places, hx⟩ := runParts_reads os enc
  refine returnsInHanded_of_row (C := Tryd.checked) (s := OpenSpec.ofChange Rows.runPartsSpec) Tryd.own started (by kernel_rfl) Tryd.func4
    (witness_row_atRef (enc := enc) (C := Tryd.checked) false (World.laidAll Tryd.prog os Rows.runPartsRow.laid) #[noArg, .slice none 0 0, .int .i64 0] (World.laidAll_os _ _ _) (by kernel_rfl) (by kernel_rfl) (by kernel_rfl)
      (OpenSpec.preRow_of_cond 8 hx (by kernel_rfl) (fun k hk => by cases hk) (by kernel_rfl) (runParts_met os _))) ?_
  intro W base args ds gs before hval0 hW _ _ _ hL hsh _
  have hval : ∀ (j : Nat) t v, Tryd.f4.params[j]? = some t → args[j]? = some v → Value.okWide Tryd.prog W .any base t v := hval0
  have hW' := hW
  obtain ⟨p, q, hA0, hV, rfl, hfz, hnd⟩ := hW
  have hA : DataW.TrodAll enc Tryd.prog W 0 (fun _ => true) true Tryd.f4.params.toList args.toList ds p := hA0
  rw [Tryd.params4] at hA hval
  obtain ⟨v0, vs0, d0, ds0, p0, q0, hargs, rfl, rfl, h0, r0⟩ := trodAll_cons hA
  obtain ⟨v1, vs1, d1, ds1, p1, q1, rfl, rfl, rfl, h1, r1⟩ := trodAll_cons r0
  obtain ⟨v2, vs2, d2, ds2, p2, q2, rfl, rfl, rfl, h2, r2⟩ := trodAll_cons r1
  obtain ⟨rfl, rfl, rfl⟩ := trodAll_nil r2
  obtain rfl : args = #[v0, v1, v2] := by cases args; simp_all
  obtain ⟨rfl, rfl⟩ := trodVars_none hV
  obtain ⟨w1, w2, w3, P, rfl, hP, lt0⟩ := prog_in (hval 0 26 v0 rfl rfl) h0
  obtain ⟨zs, hz, lt1⟩ := ints_came (hval 1 27 v1 rfl rfl) h1
  obtain ⟨cut, rfl⟩ := okWide_int Tryd.underlying3 (hval 2 3 v2 rfl rfl)
  have lt2 : ∀ x ∈ p2, x.block < W.heap.size := by obtain ⟨m, hm⟩ := h2; exact DataW.trod_lt m _ _ _ hm
  obtain ⟨a, hE⟩ := runParts_errs hL
  clear hA0 hval0
  refine (runParts_any a P w1 w2 w3 v1 zs cut W hP hz hE).mono fun e W' ⟨he, bel⟩ => ?_
  subst he
  exact ⟨_, rfl, _, _, _, [], _, [], hW', trodAll_mk1 (shut_bool Tryd.underlying4 _), (trodAll_cons_mk (Below.trod Tryd.laidOut (by kernel_rfl) (of_decide_eq_true (by kernel_rfl)) h0 bel lt0) (trodAll_cons_mk (Below.trod Tryd.laidOut (by kernel_rfl) (of_decide_eq_true (by kernel_rfl)) h1 bel lt1) (trodAll_cons_mk (Below.trod Tryd.laidOut (by kernel_rfl) (of_decide_eq_true (by kernel_rfl)) h2 bel lt2) trodAll_mk0))), rfl, bel.frame _, fun h => by cases h⟩

theorem runParts_said : Rows.RunPartsSaid :=
  OpenClaim.holds_of_cond 4 Tryd.f4 rfl rfl rfl rfl rfl rfl rfl ⟨rfl, rfl, rfl, rfl, rfl⟩ rfl rfl rfl rfl rfl (by kernel_rfl) Tryd.func4 (by kernel_rfl)
    (of_decide_eq_true (by kernel_rfl)) (by unfold Func.isWrapper; first | (rw [if_pos (by decide +kernel)]; kernel_rfl) | (rw [if_neg (by decide +kernel)]; exact ⟨rfl, rfl⟩))
    (fun os started H enc _ F => by rw [OpenClaim.pre_eq_preRow]; exact runParts_lifted os started H enc F)

theorem runParts_plain (f : FuncId) (fn : Func) (hf : Tryd.pinned.checked.prog.funcNamed "fingerpost/fingerpostlaw1.RunParts" = some f) (hfn : Tryd.pinned.checked.prog.funcs[f]? = some fn) :
    true = Tryd.pinned.checked.prog.looks [] ∧ ∀ (j : Nat) t, fn.params[j]? = some t → Tryd.pinned.checked.prog.wantsStandIn t = false := by
  obtain rfl : f = 4 := Option.some.inj ((show Tryd.prog.funcNamed "fingerpost/fingerpostlaw1.RunParts" = some 4 by kernel_rfl).symm.trans hf) |>.symm
  obtain rfl : fn = Tryd.f4 := (Option.some.inj (Tryd.func4.symm.trans hfn)).symm
  refine ⟨by kernel_rfl, fun j t ht => ?_⟩
  rw [Tryd.params4] at ht
  have hm : t = 26 ∨ t = 27 ∨ t = 3 := by
    have := Array.mem_of_getElem? ht
    simpa using this
  rcases hm with rfl | rfl | rfl
  · exact (show Tryd.prog.wantsStandIn 26 = false by kernel_rfl)
  · exact (show Tryd.prog.wantsStandIn 27 = false by kernel_rfl)
  · exact (show Tryd.prog.wantsStandIn 3 = false by kernel_rfl)

theorem runParts_card : Rows.RunPartsCardSaid :=
  Claim7.holds_tied_plain_at .later [] _ _ _ _ runParts_said (fun _ h => by cases h) (by kernel_rfl) (fun _ h => by cases h) runParts_row_tie rfl ⟨rfl, rfl⟩ (by kernel_rfl) rfl runParts_plain (by kernel_rfl)
end Go.Proofs.YtakmmpbkojhmhabDoor

/-
  SetLaws answers true at every two lists of numbers, whatever the memory is that it is called in, where the package variables that it reads hold what their initialisers lay.
-/
import Derived.Test.YtgmjmadacmgnkaaDoorSetLawsWalk
import Derived.Test.YtgmjmadacmgnkaaDoorLaidPow
import Derived.Test.YtgmjmadacmgnkaaDoorCards
import Derived.Test.YtgmjmadacmgnkaaDoorTie
import Derived.Deep.DeepHandedRow
import Derived.Deep.DeepWitnessRowRef
import Derived.Lay
import Derived.JoinedOf
import Derived.SevenTiedAt
namespace Go.Proofs.YtgmjmadacmgnkaaDoor
open Go.ChangeShapes Go.WideShapes Go.ChangeAt Go.RowKit

theorem setLaws_any (a : Nat → Addr) (xs ys : List Int) (v1 v2 : Value) (w : World) (ht : Pow w) (hE : Three w a) (hm : MaxLen w) (i1 : IsInts w v1 xs) (i2 : IsInts w v2 ys) :
    Calls Tryd.prog 4 #[v1, v2] w fun e w' => e = .returned (.bool true) ∧ Below w.heap.size w w' := by
  by_cases h : 60 < xs.length ∨ 60 < ys.length
  · obtain ⟨a1, c1, rfl⟩ := i1.form
    obtain ⟨a2, c2, rfl⟩ := i2.form
    exact laws_long a1 a2 _ _ c1 c2 w ht h
  · by_cases hin : InB xs
    · exact laws_in a xs ys v1 v2 w ht hE i1 i2 (by omega) (by omega) hin hm
    · exact laws_bad a xs ys v1 v2 w ht hE i1 i2 (by omega) (by omega) hin

theorem setLaws_three {W : World} (h : laidMetH Tryd.prog Rows.setLawsRow.laid W) : ∃ a, Three W a := by
  obtain ⟨a0, _, h0, _⟩ := sentinel_of h "fingerpost/api.ErrText" _ 0 rfl (by kernel_rfl) (by kernel_rfl)
  obtain ⟨a1, _, h1, _⟩ := sentinel_of h "fingerpost/api.ErrBound" _ 1 rfl (by kernel_rfl) (by kernel_rfl)
  obtain ⟨a9, _, h9, _⟩ := sentinel_of h "fingerpost/api.ErrOrder" _ 9 rfl (by kernel_rfl) (by kernel_rfl)
  exact ⟨fun i => if i = 0 then a0 else if i = 1 then a1 else a9, h0, h1, h9⟩

theorem maxLen_shaped {W : World} (h : W.ShapedOpen Tryd.prog) : MaxLen W :=
  Go.Proofs.cell_of_shapedOpen_int (zero := #[.int .i64 0]) (t := 3) h (of_decide_eq_true (by kernel_rfl)) (by kernel_rfl) rfl (by kernel_rfl) (by kernel_rfl) Tryd.underlying3

theorem setLaws_met (os : Os) (args : Array Value) : laidMetH Tryd.prog Rows.setLawsRow.laid ((World.laidAll Tryd.prog os Rows.setLawsRow.laid).forCall (fun _ _ => 0) ⟨#[], args, []⟩).memory := by
  have h := laidMet_laidAll (P := Tryd.prog) (os := os) (laid := Rows.setLawsRow.laid) args (by kernel_rfl) (by kernel_rfl)
  exact h
theorem setLaws_reads (os : Os) {H : Type} (enc : TypeId × Value → H) : ∃ places, DataW.whole enc Tryd.prog ((World.laidAll Tryd.prog os Rows.setLawsRow.laid).forCall (fun _ _ => 0) ⟨#[], #[.slice none 0 0, .slice none 0 0], []⟩).memory Tryd.f4.params.toList Rows.setLawsSpec.vars false #[Value.slice none 0 0, Value.slice none 0 0].toList 8 = some ([.nil, .nil], [], places) :=
  ⟨[], by kernel_rfl⟩

set_option maxRecDepth 100000 in
theorem setLaws_lifted (os : Os) (started : os.Started) (H : Type) (enc : TypeId × Value → H) (F : Stop.Interp) :
    ReturnsInHanded {} Tryd.checked os 4 .any ((OpenSpec.ofChange Rows.setLawsSpec).preRow enc Tryd.prog Tryd.f4 Rows.setLawsRow.domain false Rows.setLawsRow.laid) (((OpenSpec.ofChange Rows.setLawsSpec).at F).post enc Tryd.prog Tryd.f4 false true false false) := by
  obtain ⟨places, hx⟩ := setLaws_reads os enc
  refine returnsInHanded_of_row (C := Tryd.checked) (s := OpenSpec.ofChange Rows.setLawsSpec) Tryd.own started (by kernel_rfl) Tryd.func4
    (witness_row_atRef (enc := enc) (C := Tryd.checked) false (World.laidAll Tryd.prog os Rows.setLawsRow.laid) #[.slice none 0 0, .slice none 0 0] (World.laidAll_os _ _ _) (by kernel_rfl) (by kernel_rfl) (by kernel_rfl)
      (OpenSpec.preRow_of_cond 8 hx (by kernel_rfl) (fun k hk => by cases hk) (by kernel_rfl) (setLaws_met os _))) ?_
  intro W base args ds gs before hval0 hW _ _ _ hL hsh _
  have hval : ∀ (j : Nat) t v, Tryd.f4.params[j]? = some t → args[j]? = some v → Value.okWide Tryd.prog W .any base t v := hval0
  have hW' := hW
  obtain ⟨p, q, hA0, hV, rfl, hfz, hnd⟩ := hW
  have hA : DataW.TrodAll enc Tryd.prog W 0 (fun _ => true) true Tryd.f4.params.toList args.toList ds p := hA0
  rw [Tryd.params4] at hA hval
  obtain ⟨v0, vs0, d0, ds0, p0, q0, hargs, rfl, rfl, h0, r0⟩ := trodAll_cons hA
  obtain ⟨v1, vs1, d1, ds1, p1, q1, rfl, rfl, rfl, h1, r1⟩ := trodAll_cons r0
  obtain ⟨rfl, rfl, rfl⟩ := trodAll_nil r1
  obtain rfl : args = #[v0, v1] := by cases args; simp_all
  obtain ⟨rfl, rfl⟩ := trodVars_none hV
  obtain ⟨_, _, _, xs, _, _, i0, lt0⟩ := ints_in (hval 0 22 v0 rfl rfl) h0
  obtain ⟨_, _, _, ys, _, _, i1, lt1⟩ := ints_in (hval 1 22 v1 rfl rfl) h1
  obtain ⟨a, hE⟩ := setLaws_three hL
  clear hA0 hval0
  refine (setLaws_any a xs ys v0 v1 W (pow_of hL rfl) hE (maxLen_shaped hsh) i0 i1).mono fun e W' ⟨he, bel⟩ => ?_
  subst he
  exact ⟨_, rfl, _, _, _, [], _, [], hW', trodAll_mk1 (shut_bool Tryd.underlying4 _), (trodAll_cons_mk (Below.trod Tryd.laidOut (by kernel_rfl) (of_decide_eq_true (by kernel_rfl)) h0 bel lt0) (trodAll_cons_mk (Below.trod Tryd.laidOut (by kernel_rfl) (of_decide_eq_true (by kernel_rfl)) h1 bel lt1) trodAll_mk0)), rfl, bel.frame _, fun h => by cases h⟩

theorem setLaws_said : Rows.SetLawsSaid :=
  OpenClaim.holds_of_cond 4 Tryd.f4 rfl rfl rfl rfl rfl rfl rfl ⟨rfl, rfl, rfl, rfl, rfl⟩ rfl rfl rfl rfl rfl (by kernel_rfl) Tryd.func4 (by kernel_rfl)
    (of_decide_eq_true (by kernel_rfl)) (by unfold Func.isWrapper; first | (rw [if_pos (by decide +kernel)]; kernel_rfl) | (rw [if_neg (by decide +kernel)]; exact ⟨rfl, rfl⟩))
    (fun os started H enc _ F => by rw [OpenClaim.pre_eq_preRow]; exact setLaws_lifted os started H enc F)

theorem setLaws_plain (f : FuncId) (fn : Func) (hf : Tryd.pinned.checked.prog.funcNamed "fingerpost/fingerpostlaw1.SetLaws" = some f) (hfn : Tryd.pinned.checked.prog.funcs[f]? = some fn) :
    true = Tryd.pinned.checked.prog.looks [] ∧ ∀ (j : Nat) t, fn.params[j]? = some t → Tryd.pinned.checked.prog.wantsStandIn t = false := by
  obtain rfl : f = 4 := Option.some.inj ((show Tryd.prog.funcNamed "fingerpost/fingerpostlaw1.SetLaws" = some 4 by kernel_rfl).symm.trans hf) |>.symm
  obtain rfl : fn = Tryd.f4 := (Option.some.inj (Tryd.func4.symm.trans hfn)).symm
  refine ⟨by kernel_rfl, fun j t ht => ?_⟩
  rw [Tryd.params4] at ht
  obtain rfl : t = 22 := by simpa using Array.mem_of_getElem? ht
  exact (show Tryd.prog.wantsStandIn 22 = false by kernel_rfl)

theorem setLaws_card : Rows.SetLawsCardSaid :=
  Claim7.holds_tied_plain_at .later [] _ _ _ _ setLaws_said (fun _ h => by cases h) (by kernel_rfl) (fun _ h => by cases h) setLaws_row_tie rfl ⟨rfl, rfl⟩ (by kernel_rfl) rfl setLaws_plain (by kernel_rfl)
end Go.Proofs.YtgmjmadacmgnkaaDoor

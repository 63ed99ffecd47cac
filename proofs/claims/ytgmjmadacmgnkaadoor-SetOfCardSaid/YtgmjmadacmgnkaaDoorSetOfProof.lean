/-
  SetOf answers true at every three lists of numbers, whatever the memory is that it is called in, where the package variables that it reads hold what their initialisers lay.
-/
import Derived.Test.YtgmjmadacmgnkaaDoorSetOfGood
import Derived.Test.YtgmjmadacmgnkaaDoorLaidErrs
import Derived.Test.YtgmjmadacmgnkaaDoorLaidPow
import Derived.Test.YtgmjmadacmgnkaaDoorCards
import Derived.Test.YtgmjmadacmgnkaaDoorTie
import Derived.ChangeSame
import Derived.ChangeVars
import Derived.JoinedOf
import Derived.SevenTiedAt
namespace Go.Proofs.YtgmjmadacmgnkaaDoor
open Go.ChangeShapes Go.WideShapes Go.ChangeAt Go.RowKit

theorem setOf_any (a : Nat → Addr) (xs ys zs : List Int) (v1 v2 v3 : Value) (w : World) (ht : Pow w) (hE : Errs w a) (i1 : IsInts w v1 xs) (i2 : IsInts w v2 ys) (i3 : IsInts w v3 zs) :
    Calls Tryd.prog 5 #[v1, v2, v3] w fun e w' => e = .returned (.bool true) ∧ Below w.heap.size w w' := by
  by_cases h : 60 < xs.length ∨ 60 < ys.length ∨ 60 < zs.length
  · obtain ⟨a1, c1, rfl⟩ := i1.form
    obtain ⟨a2, c2, rfl⟩ := i2.form
    obtain ⟨a3, c3, rfl⟩ := i3.form
    exact setOf_long a1 a2 a3 _ _ _ c1 c2 c3 w ht h
  · by_cases hin : InB xs
    · exact setOf_in a xs ys zs v1 v2 v3 w ht hE i1 i2 i3 (by omega) (by omega) (by omega) hin
    · exact setOf_bad a xs ys zs v1 v2 v3 w ht hE i1 i2 i3 (by omega) (by omega) (by omega) hin

theorem setOf_errs {W : World} (h : laidMetH Tryd.prog Rows.setOfRow.laid W) : ∃ a, Errs W a :=
  errs_of h (fun i hi => by
    match i, hi with
    | 0, _ => rfl
    | 1, _ => rfl
    | 2, _ => rfl
    | 3, _ => rfl
    | 4, _ => rfl
    | 5, _ => rfl
    | 6, _ => rfl
    | 7, _ => rfl
    | 8, _ => rfl
    | 9, _ => rfl
    | 10, _ => rfl
    | n + 11, h => exact absurd h (by omega)) rfl

theorem setOf_met (os : Os) (args : Array Value) : laidMetH Tryd.prog Rows.setOfRow.laid ((World.doorLaid Tryd.prog 250 os).forCall (fun _ _ => 0) ⟨#[], args, []⟩).memory :=
  laidMetH_of_parts3 (fuel := 8) (laidMet_of_run' 8 (by kernel_rfl) (by kernel_rfl)) (by kernel_rfl) (by kernel_rfl)

set_option maxRecDepth 100000 in
theorem setOf_lifted (os : Os) (started : os.Started) (H : Type) (enc : TypeId × Value → H) :
    ReturnsInHanded {} Tryd.checked os 5 .any (fun w args => (Rows.setOfSpec.pre enc Tryd.prog Tryd.f5 [] false w args ∧ laidMetH Tryd.prog Rows.setOfRow.laid w) ∧ sizedMet enc Tryd.prog Tryd.f5 (OpenSpec.ofChange Rows.setOfSpec) false w args)
      (Rows.setOfSpec.post enc Tryd.prog Tryd.f5 false true false false) := by
  refine returnsInHanded_of_change_and (C := Tryd.checked) (X := fun w _ => laidMetH Tryd.prog Rows.setOfRow.laid w) (fun _ _ _ hh h => h.of_heap hh) Tryd.own started (by kernel_rfl) Tryd.func5
    (ChangeSpec.witness_shaped (enc := enc) (C := Tryd.checked) (os := os) (X := fun w _ => laidMetH Tryd.prog Rows.setOfRow.laid w) false (World.doorLaid Tryd.prog 250 os) #[.slice none 0 0, .slice none 0 0, .slice none 0 0] 8 rfl (World.shaped_of_RefB (by kernel_rfl) (by kernel_rfl)) (by kernel_rfl) (by kernel_rfl) (by kernel_rfl) (setOf_met os _)) ?_
  intro W base args ds gs before hval0 hW _ _ hL _
  have hval : ∀ (j : Nat) t v, Tryd.f5.params[j]? = some t → args[j]? = some v → Value.okWide Tryd.prog W .any base t v := hval0
  have hW' := hW
  obtain ⟨p, q, hA0, hV, rfl, hfz, hnd⟩ := hW
  have hA : DataW.TrodAll enc Tryd.prog W 0 (fun _ => true) true Tryd.f5.params.toList args.toList ds p := hA0
  rw [Tryd.params5] at hA hval
  obtain ⟨v0, vs0, d0, ds0, p0, q0, hargs, rfl, rfl, h0, r0⟩ := trodAll_cons hA
  obtain ⟨v1, vs1, d1, ds1, p1, q1, rfl, rfl, rfl, h1, r1⟩ := trodAll_cons r0
  obtain ⟨v2, vs2, d2, ds2, p2, q2, rfl, rfl, rfl, h2, r2⟩ := trodAll_cons r1
  obtain ⟨rfl, rfl, rfl⟩ := trodAll_nil r2
  obtain rfl : args = #[v0, v1, v2] := by cases args; simp_all
  obtain ⟨rfl, rfl⟩ := trodVars_none hV
  obtain ⟨_, _, _, xs, _, _, i0, lt0⟩ := ints_in (hval 0 22 v0 rfl rfl) h0
  obtain ⟨_, _, _, ys, _, _, i1, lt1⟩ := ints_in (hval 1 22 v1 rfl rfl) h1
  obtain ⟨_, _, _, zs, _, _, i2, lt2⟩ := ints_in (hval 2 22 v2 rfl rfl) h2
  obtain ⟨a, hE⟩ := setOf_errs hL
  clear hA0 hval0
  refine (setOf_any a xs ys zs v0 v1 v2 W (pow_of hL rfl) hE i0 i1 i2).mono fun e W' ⟨he, bel⟩ => ?_
  subst he
  exact ⟨_, rfl, _, _, _, [], _, [], hW', trodAll_mk1 (shut_bool Tryd.underlying4 _), (trodAll_cons_mk (Below.trod Tryd.laidOut (by kernel_rfl) (of_decide_eq_true (by kernel_rfl)) h0 bel lt0) (trodAll_cons_mk (Below.trod Tryd.laidOut (by kernel_rfl) (of_decide_eq_true (by kernel_rfl)) h1 bel lt1) (trodAll_cons_mk (Below.trod Tryd.laidOut (by kernel_rfl) (of_decide_eq_true (by kernel_rfl)) h2 bel lt2) trodAll_mk0))), rfl, bel.frame _, fun h => by cases h⟩

theorem setOf_said : Rows.SetOfSaid :=
  OpenClaim.holds_of_wide 5 Tryd.f5 rfl rfl rfl rfl rfl rfl rfl ⟨rfl, rfl, rfl, rfl, rfl⟩ rfl rfl rfl rfl rfl (by kernel_rfl) Tryd.func5 (by kernel_rfl)
    (of_decide_eq_true (by kernel_rfl)) (by unfold Func.isWrapper; first | (rw [if_pos (by decide +kernel)]; kernel_rfl) | (rw [if_neg (by decide +kernel)]; exact ⟨rfl, rfl⟩))
    (fun os started H enc _ => setOf_lifted os started H enc)

theorem setOf_plain (f : FuncId) (fn : Func) (hf : Tryd.pinned.checked.prog.funcNamed "fingerpost/fingerpostlaw1.SetOf" = some f) (hfn : Tryd.pinned.checked.prog.funcs[f]? = some fn) :
    true = Tryd.pinned.checked.prog.looks [] ∧ ∀ (j : Nat) t, fn.params[j]? = some t → Tryd.pinned.checked.prog.wantsStandIn t = false := by
  obtain rfl : f = 5 := Option.some.inj ((show Tryd.prog.funcNamed "fingerpost/fingerpostlaw1.SetOf" = some 5 by kernel_rfl).symm.trans hf) |>.symm
  obtain rfl : fn = Tryd.f5 := (Option.some.inj (Tryd.func5.symm.trans hfn)).symm
  refine ⟨by kernel_rfl, fun j t ht => ?_⟩
  rw [Tryd.params5] at ht
  obtain rfl : t = 22 := by simpa using Array.mem_of_getElem? ht
  exact (show Tryd.prog.wantsStandIn 22 = false by kernel_rfl)

theorem setOf_card : Rows.SetOfCardSaid :=
  Claim7.holds_tied_plain_at .later [] _ _ _ _ setOf_said (fun _ h => by cases h) (by kernel_rfl) (fun _ h => by cases h) setOf_row_tie rfl ⟨rfl, rfl⟩ (by kernel_rfl) rfl setOf_plain (by kernel_rfl)
end Go.Proofs.YtgmjmadacmgnkaaDoor

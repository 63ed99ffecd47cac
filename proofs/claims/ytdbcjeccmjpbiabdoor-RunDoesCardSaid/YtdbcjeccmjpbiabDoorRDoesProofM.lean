/-
  RunDoes answers true at every program, script, kind and number, whatever the memory is that it is called in, where the package variables that it reads hold what their initialisers lay.
-/
import Derived.Test.YtdbcjeccmjpbiabDoorXMM
import Derived.Test.YtdbcjeccmjpbiabDoorPOpen
import Derived.Test.YtdbcjeccmjpbiabDoorLaidErrs
import Derived.Test.YtdbcjeccmjpbiabDoorCards
import Derived.Test.YtdbcjeccmjpbiabDoorTie
import Derived.Deep.DeepHandedRow
import Derived.Deep.DeepWitnessRowRef
import Derived.Lay
import Derived.JoinedOf
import Derived.SevenTiedAt
namespace Go.Proofs.YtdbcjeccmjpbiabDoor
open Go.ChangeShapes Go.WideShapes Go.ChangeAt Go.RowKit

theorem Tryd.laidOut : laidOutB Tryd.prog = true := by kernel_rfl
theorem runDoes_errs {W : World} (h : laidMetH Tryd.prog Rows.runDoesRow.laid W) : ∃ a, Errs W a :=
  errs_of h (fun i hi => by
    match i, hi with
    | 0, _ => rfl
    | 1, _ => rfl
    | 2, _ => rfl
    | 3, _ => rfl
    | 4, _ => rfl
    | 5, _ => rfl
    | 6, _ => rfl
    | 7, _ => rfl
    | 8, _ => rfl
    | 9, _ => rfl
    | 10, _ => rfl
    | n + 11, h => exact absurd h (by omega)) rfl
set_option maxRecDepth 100000 in
theorem ints_came {H : Type} {enc : TypeId × Value → H} {W : World} {base : Nat} {v : Value} {d : DataW H} {p : List MemPlace} (hv : Value.okWide Tryd.prog W .any base 27 v) (h : DataW.Trod enc Tryd.prog W 0 (fun _ => true) true 27 v d p) :
    ∃ zs, IsCap W v zs ∧ ∀ x ∈ p, x.block < W.heap.size := by
  obtain ⟨a, n, c, rfl⟩ := okWide_slice Tryd.underlying27 hv
  have hlt : ∀ x ∈ p, x.block < W.heap.size := by obtain ⟨m, hm⟩ := h; exact DataW.trod_lt m _ _ _ hm
  obtain ⟨fuel, hf⟩ := h
  obtain ⟨zs, hz⟩ := ints_read (enc := enc) (W := W) (v := .slice a n c) (by simpa [Value.cells] using hf)
  exact ⟨zs, hz, hlt⟩

theorem trod_low {H : Type} {enc : TypeId × Value → H} {W : World} {t : TypeId} {v : Value} {d : DataW H} {p : List MemPlace} (h : DataW.Trod enc Tryd.prog W 0 (fun _ => true) true t v d p) : ∀ x ∈ p, x.block < W.heap.size := by
  obtain ⟨m, hm⟩ := h
  exact DataW.trod_lt m _ _ _ hm

/-- A world in which a variable that is no plain datum holds a value, and the others what is listed. -/
def worldWith (P : Program) (os : Os) (g : Nat) (v : Value) (laid : List (String × DataW Unit)) : World := ((World.holding P os ⟨#[], #[], []⟩).setCell ⟨g, 0, none⟩ v).layVars P laid
theorem worldWith_os (P : Program) (os : Os) (g : Nat) (v : Value) (laid : List (String × DataW Unit)) : (worldWith P os g v laid).os = os := by
  unfold worldWith
  rw [World.layVars_os]; rfl
theorem worldWith_met {P : Program} {os : Os} {g : Nat} {v : Value} {laid : List (String × DataW Unit)} (args : Array Value)
    (hf : ((World.holding P os ⟨#[], #[], []⟩).setCell ⟨g, 0, none⟩ v).layFits P laid [] = true)
    (hi : ((World.holding P os ⟨#[], #[], []⟩).setCell ⟨g, 0, none⟩ v).layIfaces P laid (worldWith P os g v laid) = true) :
    laidMet P laid ((worldWith P os g v laid).forCall (fun _ _ => 0) ⟨#[], args, []⟩).memory := by
  have e1 : (laid.filter fun x => (laid.map (·.1)).contains x.1) = laid := List.filter_eq_self.2 fun x hx => List.contains_iff_mem.2 (List.mem_map.2 ⟨x, hx, rfl⟩)
  have e2 : (laid.filter fun x => !(laid.map (·.1)).contains x.1) = [] := List.filter_eq_nil_iff.2 fun x hx => by rw [List.contains_iff_mem.2 (List.mem_map.2 ⟨x, hx, rfl⟩)]; simp
  have h : laidMet P laid (worldWith P os g v laid) := laidMet_layVars (w0 := (World.holding P os ⟨#[], #[], []⟩).setCell ⟨g, 0, none⟩ v) (laid.map (·.1)) [] (by rw [e1]; rfl) (by rw [e1]; exact hf) (by rw [e1]; exact hi) (by rw [e2]; exact LaidIn.none)
  exact h.of_heap (by simp [World.memory, World.forCall, Input.heap])

abbrev tellsHandle : Value := .iface 126 (.agg #[.pointer (some ⟨12, 35, none⟩)])
abbrev tellsPlain : List (String × DataW Unit) := Rows.runDoesRow.laid.filter fun x => x.2.handleName?.isNone
abbrev noArg : Value := .agg #[.slice none 0 0, .slice none 0 0, .slice none 0 0]

theorem runDoes_met (os : Os) (args : Array Value) : laidMetH Tryd.prog Rows.runDoesRow.laid ((worldWith Tryd.prog os 11 tellsHandle tellsPlain).forCall (fun _ _ => 0) ⟨#[], args, []⟩).memory :=
  laidMetH_of_parts (worldWith_met args (by kernel_rfl) (by kernel_rfl)) (by kernel_rfl)
theorem runDoes_reads (os : Os) {H : Type} (enc : TypeId × Value → H) : ∃ places, DataW.whole enc Tryd.prog ((worldWith Tryd.prog os 11 tellsHandle tellsPlain).forCall (fun _ _ => 0) ⟨#[], #[noArg, .slice none 0 0, .string ⟨#[]⟩, .int .i64 0], []⟩).memory Tryd.f3.params.toList Rows.runDoesSpec.vars false #[noArg, .slice none 0 0, .string ⟨#[]⟩, .int .i64 0].toList 8 = some ([.agg [.nil, .nil, .nil], .nil, .lit (.string []), .lit (.int .i64 0)], [], places) :=
  ⟨[], by kernel_rfl⟩

set_option maxRecDepth 100000 in
theorem runDoes_lifted (os : Os) (started : os.Started) (H : Type) (enc : TypeId × Value → H) (F : Stop.Interp) :
    ReturnsInHanded {} Tryd.checked os 3 .any ((OpenSpec.ofChange Rows.runDoesSpec).preRow enc Tryd.prog Tryd.f3 Rows.runDoesRow.domain false Rows.runDoesRow.laid) (((OpenSpec.ofChange Rows.runDoesSpec).at F).post enc Tryd.prog Tryd.f3 false true false false) := by
  obtain ⟨places, hx⟩ := runDoes_reads os enc
  refine returnsInHanded_of_row (C := Tryd.checked) (s := OpenSpec.ofChange Rows.runDoesSpec) Tryd.own started (by kernel_rfl) Tryd.func3
    (witness_row_atRef (enc := enc) (C := Tryd.checked) false (worldWith Tryd.prog os 11 tellsHandle tellsPlain) #[noArg, .slice none 0 0, .string ⟨#[]⟩, .int .i64 0] (worldWith_os _ _ _ _ _) (by kernel_rfl) (by kernel_rfl) (by kernel_rfl)
      (OpenSpec.preRow_of_cond 8 hx (by kernel_rfl) (fun k hk => by cases hk) (by kernel_rfl) (runDoes_met os _))) ?_
  intro W base args ds gs before hval0 hW _ _ _ hL hsh _
  have hval : ∀ (j : Nat) t v, Tryd.f3.params[j]? = some t → args[j]? = some v → Value.okWide Tryd.prog W .any base t v := hval0
  have hW' := hW
  obtain ⟨p, q, hA0, hV, rfl, hfz, hnd⟩ := hW
  have hA : DataW.TrodAll enc Tryd.prog W 0 (fun _ => true) true Tryd.f3.params.toList args.toList ds p := hA0
  rw [Tryd.params3] at hA hval
  obtain ⟨v0, vs0, d0, ds0, p0, q0, hargs, rfl, rfl, h0, r0⟩ := trodAll_cons hA
  obtain ⟨u1, vs1, d1, ds1, p1, q1, rfl, rfl, rfl, h1, r1⟩ := trodAll_cons r0
  obtain ⟨u2, vs2, d2, ds2, p2, q2, rfl, rfl, rfl, h2, r2⟩ := trodAll_cons r1
  obtain ⟨u3, vs3, d3, ds3, p3, q3, rfl, rfl, rfl, h3, r3⟩ := trodAll_cons r2
  obtain ⟨rfl, rfl, rfl⟩ := trodAll_nil r3
  obtain rfl : args = #[v0, u1, u2, u3] := by cases args; simp_all
  obtain ⟨rfl, rfl⟩ := trodVars_none hV
  obtain ⟨v1, v2, v3, P, rfl, hP, lt0⟩ := prog_in (hval 0 26 v0 rfl rfl) h0
  obtain ⟨zs, hz, lt1⟩ := ints_came (hval 1 27 u1 rfl rfl) h1
  obtain ⟨s, rfl⟩ := okWide_string Tryd.underlying9 (hval 2 9 u2 rfl rfl)
  obtain ⟨z, rfl⟩ := okWide_int Tryd.underlying3 (hval 3 3 u3 rfl rfl)
  obtain ⟨a, hE⟩ := runDoes_errs hL
  clear hA0 hval0
  refine (runDoes_any a P v1 v2 v3 u1 zs s z W hP hz hE).mono fun e W' ⟨he, bel⟩ => ?_
  subst he
  exact ⟨_, rfl, _, _, _, [], _, [], hW', trodAll_mk1 (shut_bool Tryd.underlying4 _), (trodAll_cons_mk (Below.trod Tryd.laidOut (by kernel_rfl) (of_decide_eq_true (by kernel_rfl)) h0 bel lt0) (trodAll_cons_mk (Below.trod Tryd.laidOut (by kernel_rfl) (of_decide_eq_true (by kernel_rfl)) h1 bel lt1) (trodAll_cons_mk (Below.trod Tryd.laidOut (by kernel_rfl) (of_decide_eq_true (by kernel_rfl)) h2 bel (trod_low h2)) (trodAll_cons_mk (Below.trod Tryd.laidOut (by kernel_rfl) (of_decide_eq_true (by kernel_rfl)) h3 bel (trod_low h3)) trodAll_mk0)))), rfl, bel.frame _, fun h => by cases h⟩

theorem runDoes_said : Rows.RunDoesSaid :=
  OpenClaim.holds_of_cond 3 Tryd.f3 rfl rfl rfl rfl rfl rfl rfl ⟨rfl, rfl, rfl, rfl, rfl⟩ rfl rfl rfl rfl rfl (by kernel_rfl) Tryd.func3 (by kernel_rfl)
    (of_decide_eq_true (by kernel_rfl)) (by unfold Func.isWrapper; first | (rw [if_pos (by decide +kernel)]; kernel_rfl) | (rw [if_neg (by decide +kernel)]; exact ⟨rfl, rfl⟩))
    (fun os started H enc _ F => by rw [OpenClaim.pre_eq_preRow]; exact runDoes_lifted os started H enc F)

theorem runDoes_plain (f : FuncId) (fn : Func) (hf : Tryd.pinned.checked.prog.funcNamed "fingerpost/fingerpostlaw1.RunDoes" = some f) (hfn : Tryd.pinned.checked.prog.funcs[f]? = some fn) :
    true = Tryd.pinned.checked.prog.looks [] ∧ ∀ (j : Nat) t, fn.params[j]? = some t → Tryd.pinned.checked.prog.wantsStandIn t = false := by
  obtain rfl : f = 3 := Option.some.inj ((show Tryd.prog.funcNamed "fingerpost/fingerpostlaw1.RunDoes" = some 3 by kernel_rfl).symm.trans hf) |>.symm
  obtain rfl : fn = Tryd.f3 := (Option.some.inj (Tryd.func3.symm.trans hfn)).symm
  refine ⟨by kernel_rfl, fun j t ht => ?_⟩
  rw [Tryd.params3] at ht
  have hm : t = 26 ∨ t = 27 ∨ t = 9 ∨ t = 3 := by
    have := Array.mem_of_getElem? ht
    simpa using this
  rcases hm with rfl | rfl | rfl | rfl
  · exact (show Tryd.prog.wantsStandIn 26 = false by kernel_rfl)
  · exact (show Tryd.prog.wantsStandIn 27 = false by kernel_rfl)
  · exact (show Tryd.prog.wantsStandIn 9 = false by kernel_rfl)
  · exact (show Tryd.prog.wantsStandIn 3 = false by kernel_rfl)

theorem runDoes_card : Rows.RunDoesCardSaid :=
  Claim7.holds_tied_plain_at .later [] _ _ _ _ runDoes_said (fun _ h => by cases h) (by kernel_rfl) (fun _ h => by cases h) runDoes_row_tie rfl ⟨rfl, rfl⟩ (by kernel_rfl) rfl runDoes_plain (by kernel_rfl)
end Go.Proofs.YtdbcjeccmjpbiabDoor

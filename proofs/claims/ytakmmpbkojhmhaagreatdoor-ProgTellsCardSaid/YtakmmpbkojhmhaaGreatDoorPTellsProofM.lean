/-
  ProgTells answers true at every program, text and number, whatever the memory is that it is called in, where the package variables that it reads hold what their initialisers lay.
-/
import Derived.Test.YtakmmpbkojhmhaaGreatDoorXTM
import Derived.Test.YtakmmpbkojhmhaaGreatDoorPOpen
import Derived.Test.YtakmmpbkojhmhaaGreatDoorXLM
import Derived.Test.YtakmmpbkojhmhaaGreatDoorCards
import Derived.Test.YtakmmpbkojhmhaaGreatDoorTie
import Derived.Deep.DeepHandedRow
import Derived.Deep.DeepWitnessRowRef
import Derived.Lay
import Derived.JoinedOf
import Derived.SevenTiedAt
namespace Go.Proofs.YtakmmpbkojhmhaaGreatDoor
open Go.ChangeShapes Go.WideShapes Go.ChangeAt Go.RowKit

theorem Tryz.laidOut : laidOutB Tryz.prog = true := by kernel_rfl
theorem progTells_errs {W : World} (h : laidMetH Tryz.prog Rows.progTellsRow.laid W) : ∃ a, Errs W a :=
  errs_of h (fun i hi => by
    match i, hi with
    | 0, _ => rfl
    | 1, _ => rfl
    | 2, _ => rfl
    | 3, _ => rfl
    | 4, _ => rfl
    | 5, _ => rfl
    | 6, _ => rfl
    | 7, _ => rfl
    | 8, _ => rfl
    | 9, _ => rfl
    | 10, _ => rfl
    | n + 11, h => exact absurd h (by omega)) rfl
theorem progTells_any (a : Nat → Addr) (P : ProgD) (v1 v2 v3 : Value) (s : Bs) (z : Int) (w : World) (h : IsProg w v1 v2 v3 P) (hE : Errs w a) (hM : MaxL w) (hz0 : -9223372036854775808 ≤ z) (hz1 : z ≤ 9223372036854775807) :
    Calls Tryz.prog 4 #[.agg #[v1, v2, v3], .string (S s), .int .i64 z] w fun e w' => e = .returned (.bool true) ∧ Below w.heap.size w w' := by
  by_cases h1 : s.length ≤ 1500
  · exact tells_short a P v1 v2 v3 s z w h hE hM hz0 hz1 h1
  · by_cases h2 : s.length = 4001
    · exact tells_over a P v1 v2 v3 s z w h hE hM hz0 hz1 h2
    · exact tells_long a P v1 v2 v3 s z w h hE hM hz0 hz1 ⟨by omega, h2⟩
set_option maxRecDepth 100000 in
theorem int_range {W : World} {base : Nat} {v : Value} (h : Value.okWide Tryz.prog W .any base 3 v) : ∃ n, v = .int .i64 n ∧ -9223372036854775808 ≤ n ∧ n ≤ 9223372036854775807 := by
  obtain ⟨n, rfl⟩ := okWide_int Tryz.underlying3 h
  refine ⟨n, rfl, ?_⟩
  simp [Value.okWide, Tryz.underlying3, Cell.okWide, Cell.ok, IntKind.has] at h
  exact h
theorem trod_low {H : Type} {enc : TypeId × Value → H} {W : World} {t : TypeId} {v : Value} {d : DataW H} {p : List MemPlace} (h : DataW.Trod enc Tryz.prog W 0 (fun _ => true) true t v d p) : ∀ x ∈ p, x.block < W.heap.size := by
  obtain ⟨m, hm⟩ := h
  exact DataW.trod_lt m _ _ _ hm

theorem maxL_shaped {W : World} (h : W.ShapedOpen Tryz.prog) : MaxL W :=
  Go.Proofs.cell_of_shapedOpen_int (zero := #[.int .i64 0]) (t := 3) h (of_decide_eq_true (by kernel_rfl)) (by kernel_rfl) rfl (by kernel_rfl) (by kernel_rfl) Tryz.underlying3

/-- A world in which a variable that is no plain datum holds a value, and the others what is listed. -/
def worldWith (P : Program) (os : Os) (g : Nat) (v : Value) (laid : List (String × DataW Unit)) : World := ((World.holding P os ⟨#[], #[], []⟩).setCell ⟨g, 0, none⟩ v).layVars P laid
theorem worldWith_os (P : Program) (os : Os) (g : Nat) (v : Value) (laid : List (String × DataW Unit)) : (worldWith P os g v laid).os = os := by
  unfold worldWith
  rw [World.layVars_os]; rfl
theorem worldWith_met {P : Program} {os : Os} {g : Nat} {v : Value} {laid : List (String × DataW Unit)} (args : Array Value)
    (hf : ((World.holding P os ⟨#[], #[], []⟩).setCell ⟨g, 0, none⟩ v).layFits P laid [] = true)
    (hi : ((World.holding P os ⟨#[], #[], []⟩).setCell ⟨g, 0, none⟩ v).layIfaces P laid (worldWith P os g v laid) = true) :
    laidMet P laid ((worldWith P os g v laid).forCall (fun _ _ => 0) ⟨#[], args, []⟩).memory := by
  have e1 : (laid.filter fun x => (laid.map (·.1)).contains x.1) = laid := List.filter_eq_self.2 fun x hx => List.contains_iff_mem.2 (List.mem_map.2 ⟨x, hx, rfl⟩)
  have e2 : (laid.filter fun x => !(laid.map (·.1)).contains x.1) = [] := List.filter_eq_nil_iff.2 fun x hx => by rw [List.contains_iff_mem.2 (List.mem_map.2 ⟨x, hx, rfl⟩)]; simp
  have h : laidMet P laid (worldWith P os g v laid) := laidMet_layVars (w0 := (World.holding P os ⟨#[], #[], []⟩).setCell ⟨g, 0, none⟩ v) (laid.map (·.1)) [] (by rw [e1]; rfl) (by rw [e1]; exact hf) (by rw [e1]; exact hi) (by rw [e2]; exact LaidIn.none)
  exact h.of_heap (by simp [World.memory, World.forCall, Input.heap])

abbrev tellsHandle : Value := .iface 164 (.agg #[.pointer (some ⟨18, 27, none⟩)])
abbrev tellsPlain : List (String × DataW Unit) := Rows.progTellsRow.laid.filter fun x => x.2.handleName?.isNone
abbrev noArg : Value := .agg #[.slice none 0 0, .slice none 0 0, .slice none 0 0]

theorem progTells_met (os : Os) (args : Array Value) : laidMetH Tryz.prog Rows.progTellsRow.laid ((worldWith Tryz.prog os 11 tellsHandle tellsPlain).forCall (fun _ _ => 0) ⟨#[], args, []⟩).memory :=
  laidMetH_of_parts (worldWith_met args (by kernel_rfl) (by kernel_rfl)) (by kernel_rfl)
theorem progTells_reads (os : Os) {H : Type} (enc : TypeId × Value → H) : ∃ places, DataW.whole enc Tryz.prog ((worldWith Tryz.prog os 11 tellsHandle tellsPlain).forCall (fun _ _ => 0) ⟨#[], #[noArg, .string ⟨#[]⟩, .int .i64 0], []⟩).memory Tryz.f4.params.toList Rows.progTellsSpec.vars false #[noArg, .string ⟨#[]⟩, .int .i64 0].toList 8 = some ([.agg [.nil, .nil, .nil], .lit (.string []), .lit (.int .i64 0)], [], places) :=
  ⟨[], by kernel_rfl⟩

set_option maxRecDepth 100000 in
theorem progTells_lifted (os : Os) (started : os.Started) (H : Type) (enc : TypeId × Value → H) (F : Stop.Interp) :
    ReturnsInHanded {} Tryz.checked os 4 .any ((OpenSpec.ofChange Rows.progTellsSpec).preRow enc Tryz.prog Tryz.f4 Rows.progTellsRow.domain false Rows.progTellsRow.laid) (((OpenSpec.ofChange Rows.progTellsSpec).at F).post enc Tryz.prog Tryz.f4 false true false false) := by
  obtain ⟨places, hx⟩ := progTells_reads os enc
  refine returnsInHanded_of_row (C := Tryz.checked) (s := OpenSpec.ofChange Rows.progTellsSpec) Tryz.own started (by kernel_rfl) Tryz.func4
    (witness_row_atRef (enc := enc) (C := Tryz.checked) false (worldWith Tryz.prog os 11 tellsHandle tellsPlain) #[noArg, .string ⟨#[]⟩, .int .i64 0] (worldWith_os _ _ _ _ _) (by kernel_rfl) (by kernel_rfl) (by kernel_rfl)
      (OpenSpec.preRow_of_cond 8 hx (by kernel_rfl) (fun k hk => by cases hk) (by kernel_rfl) (progTells_met os _))) ?_
  intro W base args ds gs before hval0 hW _ _ _ hL hsh _
  have hval : ∀ (j : Nat) t v, Tryz.f4.params[j]? = some t → args[j]? = some v → Value.okWide Tryz.prog W .any base t v := hval0
  have hW' := hW
  obtain ⟨p, q, hA0, hV, rfl, hfz, hnd⟩ := hW
  have hA : DataW.TrodAll enc Tryz.prog W 0 (fun _ => true) true Tryz.f4.params.toList args.toList ds p := hA0
  rw [Tryz.params4] at hA hval
  obtain ⟨v0, vs0, d0, ds0, p0, q0, hargs, rfl, rfl, h0, r0⟩ := trodAll_cons hA
  obtain ⟨u1, vs1, d1, ds1, p1, q1, rfl, rfl, rfl, h1, r1⟩ := trodAll_cons r0
  obtain ⟨u2, vs2, d2, ds2, p2, q2, rfl, rfl, rfl, h2, r2⟩ := trodAll_cons r1
  obtain ⟨rfl, rfl, rfl⟩ := trodAll_nil r2
  obtain rfl : args = #[v0, u1, u2] := by cases args; simp_all
  obtain ⟨rfl, rfl⟩ := trodVars_none hV
  obtain ⟨v1, v2, v3, P, rfl, hP, lt0⟩ := prog_in (hval 0 43 v0 rfl rfl) h0
  obtain ⟨s, rfl⟩ := okWide_string Tryz.underlying9 (hval 1 9 u1 rfl rfl)
  obtain ⟨z, rfl, hz0, hz1⟩ := int_range (hval 2 3 u2 rfl rfl)
  obtain ⟨a, hE⟩ := progTells_errs hL
  clear hA0 hval0
  have hmain := progTells_any a P v1 v2 v3 s.data.toList z W hP hE (maxL_shaped hsh) hz0 hz1
  rw [S_of] at hmain
  refine hmain.mono fun e W' ⟨he, bel⟩ => ?_
  subst he
  exact ⟨_, rfl, _, _, _, [], _, [], hW', trodAll_mk1 (shut_bool Tryz.underlying4 _), (trodAll_cons_mk (Below.trod Tryz.laidOut (by kernel_rfl) (of_decide_eq_true (by kernel_rfl)) h0 bel lt0) (trodAll_cons_mk (Below.trod Tryz.laidOut (by kernel_rfl) (of_decide_eq_true (by kernel_rfl)) h1 bel (trod_low h1)) (trodAll_cons_mk (Below.trod Tryz.laidOut (by kernel_rfl) (of_decide_eq_true (by kernel_rfl)) h2 bel (trod_low h2)) trodAll_mk0))), rfl, bel.frame _, fun h => by cases h⟩

theorem progTells_said : Rows.ProgTellsSaid :=
  OpenClaim.holds_of_cond 4 Tryz.f4 rfl rfl rfl rfl rfl rfl rfl ⟨rfl, rfl, rfl, rfl, rfl⟩ rfl rfl rfl rfl rfl (by kernel_rfl) Tryz.func4 (by kernel_rfl)
    (of_decide_eq_true (by kernel_rfl)) (by unfold Func.isWrapper; first | (rw [if_pos (by decide +kernel)]; kernel_rfl) | (rw [if_neg (by decide +kernel)]; exact ⟨rfl, rfl⟩))
    (fun os started H enc _ F => by rw [OpenClaim.pre_eq_preRow]; exact progTells_lifted os started H enc F)

theorem progTells_plain (f : FuncId) (fn : Func) (hf : Tryz.pinned.checked.prog.funcNamed "fingerpost/fingerpostlaw1.ProgTells" = some f) (hfn : Tryz.pinned.checked.prog.funcs[f]? = some fn) :
    true = Tryz.pinned.checked.prog.looks [] ∧ ∀ (j : Nat) t, fn.params[j]? = some t → Tryz.pinned.checked.prog.wantsStandIn t = false := by
  obtain rfl : f = 4 := Option.some.inj ((show Tryz.prog.funcNamed "fingerpost/fingerpostlaw1.ProgTells" = some 4 by kernel_rfl).symm.trans hf) |>.symm
  obtain rfl : fn = Tryz.f4 := (Option.some.inj (Tryz.func4.symm.trans hfn)).symm
  refine ⟨by kernel_rfl, fun j t ht => ?_⟩
  rw [Tryz.params4] at ht
  have hm : t = 43 ∨ t = 9 ∨ t = 3 := by
    have := Array.mem_of_getElem? ht
    simpa using this
  rcases hm with rfl | rfl | rfl
  · exact (show Tryz.prog.wantsStandIn 43 = false by kernel_rfl)
  · exact (show Tryz.prog.wantsStandIn 9 = false by kernel_rfl)
  · exact (show Tryz.prog.wantsStandIn 3 = false by kernel_rfl)

theorem progTells_card : Rows.ProgTellsCardSaid :=
  Claim7.holds_tied_plain_at .later [] _ _ _ _ progTells_said (fun _ h => by cases h) (by kernel_rfl) (fun _ h => by cases h) progTells_row_tie rfl ⟨rfl, rfl⟩ (by kernel_rfl) rfl progTells_plain (by kernel_rfl)
end Go.Proofs.YtakmmpbkojhmhaaGreatDoor

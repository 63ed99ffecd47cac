/-
  Package solve: Run, of a solver that stands well.
-/
import Derived.Test.YtglonlpfnllocaaGreatDoorV5M
import Derived.Test.YtglonlpfnllocaaGreatDoorV6M
import Derived.Test.YtglonlpfnllocaaGreatDoorW3M
namespace Go.Proofs.YtglonlpfnllocaaGreatDoor
open Go.RowKit Go.Extern.Stop Go.Stop Go.Extern Go.Maps

/-- What is laid ahead of a solver stays. -/
theorem SolStepR.below {w0 w w' : World} {sb : Nat} {m m' : SolB} {s s' : SolD} (hs : SolStepR w w' sb m m' s s') (hb : Below w0.heap.size w0 w) (ho : ∀ k, OwnB sb m s k → w0.heap.size ≤ k) : Below w0.heap.size w0 w' := by
  refine ⟨hs.os.trans hb.os, hs.tape.trans hb.tape, hs.output.trans hb.output, Nat.le_trans hb.size hs.size, fun k hk => ?_⟩
  have h1 := hb.block k hk
  rw [Array.getElem?_eq_getElem hk] at h1 ⊢
  exact hs.keep k _ h1 fun q => absurd (ho k q) (Nat.not_le.2 hk)
/-- Of what size a right program is. -/
theorem right_few {P : ProgD} (hc : checkE P = none) : places P P.stmts.length * (places P P.stmts.length + P.funs.length) ≤ 900000 ∧ places P P.stmts.length + P.funs.length ≤ 999 := by
  obtain ⟨s1, s2, s3⟩ := right_small hc
  have hpl := places_le P P.stmts.length
  have hM2 : places P P.stmts.length ≤ 200 := by omega
  have h1 : places P P.stmts.length * (places P P.stmts.length + P.funs.length) ≤ 200 * 300 := Nat.mul_le_mul hM2 (by omega)
  exact ⟨by omega, by omega⟩
theorem newD_few {P : ProgD} (hc : checkE P = none) (hS : SmallP P) {j : Nat} (hk : FixK P j) : RulesFew P.funs (rulesD P) (newD P) ∧ EdgeOnce (newD P) := by
  have ho := obOk_of hc hk (rulesD P).length (Nat.le_refl _)
  obtain ⟨s1, s2, s3⟩ := right_small hc
  have hl := rulesD_len P
  have h1 := ho.once
  have h2 := ho.len
  rw [obK_all] at h1 h2
  refine ⟨⟨fun a => by have := h2 a; omega, fun r hr => ?_, fun i hi => ?_⟩, h1⟩
  · obtain ⟨k, hk, rfl⟩ := List.mem_map.1 hr
    have hk' : k < P.stmts.length := List.mem_range.1 hk
    have := hS.2.2.2.2 (P.stmts.getD k default) (by simp [List.getD, hk'])
    unfold ruleD
    repeat' split
    all_goals first | (simp only [List.length_nil]; omega) | (simp only []; omega)
  · have := right_params hc (P.funs.getD i default) (by simp [List.getD, hi])
    omega
/-- Run, of a solver that stands well: so many facts are new, and what came is the least answer. -/
def RunPost (P : ProgD) (w : World) (B sb : Nat) (m : SolB) (s : SolD) (L : List (List Int)) (e : Ending) (w' : World) : Prop :=
  ∃ (m' : SolB) (s' : SolD), e = .returned (.int .i64 ((totD L : Int) - totD s.has)) ∧ s'.due = [] ∧ s'.has = L ∧ SolM w' B sb P.funs m' s' ∧ SolStepR w w' sb m m' s s'
theorem runW_any {w : World} {B sb j : Nat} {P : ProgD} {m : SolB} {s : SolD} (hc : checkE P = none) (h : SolM w B sb P.funs m s) (hF : FunsK w sb P.funs m s) (hO : SolOk (places P P.stmts.length) P.funs (iterD P j) (rulesD P) s) (ho : EdgeOnce s) (hf : RulesFew P.funs (rulesD P) s) (hkn : m.kn ≤ 1000000000000000000) (hen : m.en ≤ 1000000000000) :
    Calls Tryz.prog 10 #[.pointer (some ⟨sb, 0, none⟩)] w fun e w' => RunPost P w B sb m s (iterD P j) e w' := by
  obtain ⟨f1, f2⟩ := right_few hc
  refine (runS_any h hF (places P P.stmts.length) _ (by omega) (comesOk_of hO ho hf (ask_nodes hc) f1 f2) hkn hen).mono ?_
  rintro e w' ⟨k, rfl, hk, -, hall, hd, m', q1, q2, -⟩
  have hdue : (comesD (places P P.stmts.length) P.funs s k).due = [] := by
    rcases hd with q | q
    · exact q
    · exact absurd q (by omega)
  obtain ⟨c1, -, -, c4⟩ := comes_ok hO ho (ask_nodes hc) k hall
  have hh := c1.done hc hdue
  refine ⟨m', _, ?_, hdue, hh, q1, q2⟩
  rw [hh] at c4
  rw [c4]
  congr 2
  omega
end Go.Proofs.YtglonlpfnllocaaGreatDoor

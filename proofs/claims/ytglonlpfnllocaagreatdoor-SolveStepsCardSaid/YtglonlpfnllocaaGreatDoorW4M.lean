/-
  Package solve: Run, of a solver that stands well.
-/
import Derived.Test.YtglonlpfnllocaaGreatDoorV5M
import Derived.Test.YtglonlpfnllocaaGreatDoorV6M
import Derived.Test.YtglonlpfnllocaaGreatDoorW3M
import Derived.Test.YtglonlpfnllocaaGreatDoorZFM
import Derived.Lib.QuietBelow
import Derived.Deep.RegionHeld3
import Derived.Test.YtglonlpfnllocaaGreatDoorG1M
import Derived.Test.YtglonlpfnllocaaGreatDoorG3M
import Derived.Test.YtglonlpfnllocaaGreatDoorG2M
import Derived.Test.YtglonlpfnllocaaGreatDoorPZMM
import Derived.Deep.DeepCutAuto
import Derived.Laws.NewBlocks
namespace Go.Proofs.YtglonlpfnllocaaGreatDoor
open Go.RowKit Go.Extern.Stop Go.Stop Go.Extern Go.Maps

/-- What is laid ahead of a solver stays. -/
theorem SolStepR.below {w0 w w' : World} {sb : Nat} {m m' : SolB} {s s' : SolD} (hs : SolStepR w w' sb m m' s s') (hb : Below w0.heap.size w0 w) (ho : ∀ k, OwnB sb m s k → w0.heap.size ≤ k) : Below w0.heap.size w0 w' := by
  refine ⟨hs.os.trans hb.os, hs.tape.trans hb.tape, hs.output.trans hb.output, Nat.le_trans hb.size hs.size, fun k hk => ?_⟩
  have h1 := hb.block k hk
  rw [Array.getElem?_eq_getElem hk] at h1 ⊢
  exact hs.keep k _ h1 fun q => absurd (ho k q) (Nat.not_le.2 hk)
/-- Of what size a right program is. -/
theorem right_few {P : ProgD} (hc : checkE P = none) : places P P.stmts.length * (places P P.stmts.length + P.funs.length) ≤ 900000 ∧ places P P.stmts.length + P.funs.length ≤ 999 := by
  obtain ⟨s1, s2, s3⟩ := right_small hc
  have hpl := places_le P P.stmts.length
  have hM2 : places P P.stmts.length ≤ 200 := by omega
  have h1 : places P P.stmts.length * (places P P.stmts.length + P.funs.length) ≤ 200 * 300 := Nat.mul_le_mul hM2 (by omega)
  exact ⟨by omega, by omega⟩
theorem newD_few {P : ProgD} (hc : checkE P = none) (hS : SmallP P) {j : Nat} (hk : FixK P j) : RulesFew P.funs (rulesD P) (newD P) ∧ EdgeOnce (newD P) := by
  have ho := obOk_of hc hk (rulesD P).length (Nat.le_refl _)
  obtain ⟨s1, s2, s3⟩ := right_small hc
  have hl := rulesD_len P
  have h1 := ho.once
  have h2 := ho.len
  rw [obK_all] at h1 h2
  refine ⟨⟨fun a => by have := h2 a; omega, fun r hr => ?_, fun i hi => ?_⟩, h1⟩
  · obtain ⟨k, hk, rfl⟩ := List.mem_map.1 hr
    have hk' : k < P.stmts.length := List.mem_range.1 hk
    have := hS.2.2.2.2 (P.stmts.getD k default) (by simp [List.getD, hk'])
    unfold ruleD
    repeat' split
    all_goals first | (simp only [List.length_nil]; omega) | (simp only []; omega)
  · have := right_params hc (P.funs.getD i default) (by simp [List.getD, hi])
    omega
/-- Run, of a solver that stands well: so many facts are new, and what came is the least answer. -/
def RunPost (P : ProgD) (w : World) (B sb : Nat) (m : SolB) (s : SolD) (L : List (List Int)) (e : Ending) (w' : World) : Prop :=
  ∃ (m' : SolB) (s' : SolD), e = .returned (.int .i64 ((totD L : Int) - totD s.has)) ∧ s'.due = [] ∧ s'.has = L ∧ SolM w' B sb P.funs m' s' ∧ SolStepR w w' sb m m' s s'
theorem runW_any {w : World} {B sb j : Nat} {P : ProgD} {m : SolB} {s : SolD} (hc : checkE P = none) (h : SolM w B sb P.funs m s) (hF : FunsK w sb P.funs m s) (hO : SolOk (places P P.stmts.length) P.funs (iterD P j) (rulesD P) s) (ho : EdgeOnce s) (hf : RulesFew P.funs (rulesD P) s) (hkn : m.kn ≤ 1000000000000000000) (hen : m.en ≤ 1000000000000) :
    Calls Tryz.prog 10 #[.pointer (some ⟨sb, 0, none⟩)] w fun e w' => RunPost P w B sb m s (iterD P j) e w' := by
  obtain ⟨f1, f2⟩ := right_few hc
  refine (runS_any h hF (places P P.stmts.length) _ (by omega) (comesOk_of hO ho hf (ask_nodes hc) f1 f2) hkn hen).mono ?_
  rintro e w' ⟨k, rfl, hk, -, hall, hd, m', q1, q2, -⟩
  have hdue : (comesD (places P P.stmts.length) P.funs s k).due = [] := by
    rcases hd with q | q
    · exact q
    · exact absurd q (by omega)
  obtain ⟨c1, -, -, c4⟩ := comes_ok hO ho (ask_nodes hc) k hall
  have hh := c1.done hc hdue
  refine ⟨m', _, ?_, hdue, hh, q1, q2⟩
  rw [hh] at c4
  rw [c4]
  congr 2
  omega
end Go.Proofs.YtglonlpfnllocaaGreatDoor

/-
  The closed fact's program, for a seat without 'fixed'.
-/
namespace Go.Proofs.YtglonlpfnllocaaGreatDoor
open Go.RowKit Go.Extern.Stop Go.Stop Go.Extern

theorem isSet_oneF {o : Int} (h0 : 0 ≤ o) (h1 : o < 1000) : IsSet [o] := by
  refine ⟨fun j hj => ?_, fun j hj => by simp at hj⟩
  have : j = 0 := by simp at hj; omega
  subst this
  exact ⟨h0, h1⟩
def progF : ProgD := ⟨[[97], [98]], [], [⟨kAddr, 0, 1, []⟩, ⟨kCopy, 1, 0, []⟩]⟩
theorem progF_check : checkE progF = none := by decide
theorem progF_small : SmallP progF := by
  unfold SmallP
  refine ⟨by decide, by decide, by decide, ?_, ?_⟩
  · intro f hf
    cases hf
  · intro s hs
    simp [progF] at hs
    rcases hs with rfl | rfl <;> decide
theorem roundF (hs : List (List Int)) (a b : List Int) (hl : hs.length = 2) (h0 : norm (gotD progF hs 0) = a) (h1 : norm (gotD progF hs 1) = b) : roundD progF hs = [a, b] := by
  unfold roundD
  rw [hl]
  show [norm (gotD progF hs 0), norm (gotD progF hs 1)] = _
  rw [h0, h1]
theorem norm_one1 : norm [1] = [1] := norm_set (isSet_oneF (by decide) (by decide))
theorem norm_two1 : norm [1, 1] = [1] := (norm_congr (fun x => by simp)).trans norm_one1
theorem iterF0 : iterD progF 0 = [[], []] := by decide
theorem iterF1 : iterD progF 1 = [[1], []] := by
  show roundD progF (iterD progF 0) = _
  rw [iterF0]
  refine roundF _ _ _ rfl ?_ ?_
  · rw [show gotD progF [[], []] 0 = [1] by decide]; exact norm_one1
  · rw [show gotD progF [[], []] 1 = [] by decide]; exact norm_nil
theorem iterF2 : iterD progF 2 = [[1], [1]] := by
  show roundD progF (iterD progF 1) = _
  rw [iterF1]
  refine roundF _ _ _ rfl ?_ ?_
  · rw [show gotD progF [[1], []] 0 = [1, 1] by decide]; exact norm_two1
  · rw [show gotD progF [[1], []] 1 = [1] by decide]; exact norm_one1
theorem fixF : FixK progF 2 := by
  refine ⟨?_, fun j hj => ?_⟩
  · rw [iterF2]
    refine roundF _ _ _ rfl ?_ ?_
    · rw [show gotD progF [[1], [1]] 0 = [1, 1] by decide]; exact norm_two1
    · rw [show gotD progF [[1], [1]] 1 = [1, 1] by decide]; exact norm_two1
  · match j, hj with
    | 0, _ => show iterD progF 1 ≠ _; rw [iterF1, iterF0]; decide
    | 1, _ => show iterD progF 2 ≠ _; rw [iterF2, iterF1]; decide
abbrev fVars : Obj := .cells #[.string ⟨#[97]⟩, .string ⟨#[98]⟩] 9
abbrev fStmts : Obj := .cells #[.string ⟨#[97, 100, 100, 114]⟩, .int .i64 0, .int .i64 1, .slice none 0 0, .string ⟨#[99, 111, 112, 121]⟩, .int .i64 1, .int .i64 0, .slice none 0 0] 45
abbrev fProg (n : Nat) : Obj := .cells #[.slice (some ⟨n, 0, none⟩) 2 2, .slice none 0 0, .slice (some ⟨n + 1, 0, none⟩) 2 2] 26
theorem progF_is (w : World) : IsProg ((w.alloc fVars).alloc fStmts) (.slice (some ⟨w.heap.size, 0, none⟩) 2 2) (.slice none 0 0) (.slice (some ⟨w.heap.size + 1, 0, none⟩) 2 2) progF := by
  have hb : Below (w.alloc fVars).heap.size (w.alloc fVars) ((w.alloc fVars).alloc fStmts) := below1 _ _
  refine ⟨⟨_, _, rfl, Nat.le_refl _, fun j hj => ⟨_, _, rfl, ?_⟩⟩, ⟨_, _, rfl, Nat.le_refl _, fun j hj => absurd hj (Nat.not_lt_zero _)⟩, ⟨_, _, rfl, Nat.le_refl _, fun j hj => ⟨_, _, rfl, ?_⟩⟩⟩
  · refine cell_keep hb ?_
    match j, hj with
    | 0, _ => simp [progF, S]
    | 1, _ => simp [progF, S]
  · match j, hj with
    | 0, _ => exact ⟨.slice none 0 0, by simp [progF, S, kAddr], by simp [progF], by simp [progF], by simp, IsInts.nil _ _ _, none, 0, rfl, Nat.le_refl _⟩
    | 1, _ => exact ⟨.slice none 0 0, by simp [progF, S, kCopy], by simp [progF], by simp [progF], by simp, IsInts.nil _ _ _, none, 0, rfl, Nat.le_refl _⟩

end Go.Proofs.YtglonlpfnllocaaGreatDoor

/-
  The closed fact of a solver: two objects come.
-/
namespace Go.Proofs.YtglonlpfnllocaaGreatDoor
open Go.RowKit Go.Extern.Stop Go.Stop Go.Extern Go.Maps

/-- A solver that stands as New leaves it, in a memory ahead of which nothing changed. -/
structure SolAt (P : ProgD) (w0 w : World) (B sb : Nat) (m : SolB) (s : SolD) : Prop where
  sol : SolM w B sb P.funs m s
  fk : FunsK w sb P.funs m s
  pk : ProgK w sb m s P
  kn : m.kn ≤ 1000000000000000000
  en : m.en ≤ 1000000000000
  own : ∀ k, OwnB sb m s k → w0.heap.size ≤ k
  hb : Below w0.heap.size w0 w
theorem SolAt.below {P : ProgD} {w0 w w' : World} {B sb : Nat} {m : SolB} {s : SolD} (h : SolAt P w0 w B sb m s) (hb : Below w.heap.size w w') : SolAt P w0 w' B sb m s :=
  ⟨h.sol.below hb, h.fk.step (SolStep.refl hb sb m s).toR, h.pk.step (SolStep.refl hb sb m s).toR, h.kn, h.en, h.own, h.hb.trans (hb.mono h.hb.size)⟩
theorem newA_any (a : Nat → Addr) (P : ProgD) (v1 v2 v3 : Value) (w : World) (hS : SmallP P) (h : IsProg w v1 v2 v3 P) (hE : Errs5 w a) :
    Calls Tryz.prog 8 #[.agg #[v1, v2, v3]] w fun e w' =>
      (∃ t x, e = .returned (.tuple #[.pointer none, .iface t (.pointer (some x))]) ∧ (checkE P).isNone = false ∧ ErrV w' a (checkE P) (.iface t (.pointer (some x))) ∧ Below w.heap.size w w') ∨
      (checkE P = none ∧ ∃ (B sb : Nat) (m : SolB), e = .returned (.tuple #[.pointer (some ⟨sb, 0, none⟩), .nilIface]) ∧ SolAt P w w' B sb m (newD P)) := by
  refine (newS_any a P v1 v2 v3 w hS h hE).mono ?_
  rintro e w' (q | ⟨hc, B, sb, m, rfl, q1, q2, q3, q4, q5, -, q7, q8⟩)
  · exact Or.inl q
  · exact Or.inr ⟨hc, B, sb, m, rfl, q1, q2, q3, by omega, by omega, q7, q8⟩
/-- Run, of New's. -/
theorem runA_any {P : ProgD} {w0 w : World} {B sb j : Nat} {m : SolB} (hc : checkE P = none) (hS : SmallP P) (hj : FixK P j) (h : SolAt P w0 w B sb m (newD P)) :
    Calls Tryz.prog 10 #[.pointer (some ⟨sb, 0, none⟩)] w fun e w' => ∃ (m' : SolB) (s' : SolD), e = .returned (.int .i64 (totD (iterD P j))) ∧ s'.due = [] ∧ s'.has = iterD P j ∧ SolM w' B sb P.funs m' s' ∧ (∀ k, OwnB sb m' s' k → w0.heap.size ≤ k) ∧ Below w0.heap.size w0 w' := by
  obtain ⟨r1, r2⟩ := newD_few hc hS hj
  obtain ⟨o1, o2⟩ := newD_ok hc hj
  refine (runW_any hc h.sol h.fk o1 r2 r1 h.kn h.en).mono ?_
  rintro e w' ⟨m', s', rfl, d1, d2, d3, d4⟩
  refine ⟨m', s', ?_, d1, d2, d3, fun k hk => ?_, d4.below h.hb h.own⟩
  · have h0 : totD (emptyD P) = 0 := by
      have := totD_le (emptyD P) 0 fun j _ => by rw [emptyD_at]; exact Nat.le_refl _
      omega
    rw [o2, h0]
    congr 2
  · rcases d4.own k hk with q | q
    · exact h.own k q
    · exact Nat.le_trans h.hb.size q
set_option maxRecDepth 100000 in
set_option maxHeartbeats 8000000 in
theorem solved_any (a : Nat → Addr) (w : World) (hE : Errs5 w a) : Calls Tryz.prog 6 #[] w fun e w' => e = .returned (.bool true) ∧ Below w.heap.size w w' := by
  obtain ⟨W0, hW0⟩ : ∃ W, W = ((w.alloc fVars).alloc fStmts).alloc (fProg w.heap.size) := ⟨_, rfl⟩
  have hB0 : Below w.heap.size w W0 := by rw [hW0]; exact ((below1 w _).alloc (by simp) _).alloc (by simp; omega) _
  have hP : IsProg W0 (.slice (some ⟨w.heap.size, 0, none⟩) 2 2) (.slice none 0 0) (.slice (some ⟨w.heap.size + 1, 0, none⟩) 2 2) progF := by
    rw [hW0]
    exact (progF_is w).below (below1 _ _)
  have K1 : Hid (Calls Tryz.prog 8 #[.agg #[.slice (some ⟨w.heap.size, 0, none⟩) 2 2, .slice none 0 0, .slice (some ⟨w.heap.size + 1, 0, none⟩) 2 2]] W0 fun e w' => ∃ (B sb : Nat) (m : SolB), e = .returned (.tuple #[.pointer (some ⟨sb, 0, none⟩), .nilIface]) ∧ SolAt progF W0 w' B sb m (newD progF)) := by
    refine (newA_any a progF _ _ _ W0 progF_small hP (hE.below hB0)).mono ?_
    rintro e w' (⟨_, _, _, q, -⟩ | ⟨-, q⟩)
    · rw [progF_check] at q; cases q
    · exact q
  have hbox : W0.heap[w.heap.size + 2]? = some (fProg w.heap.size) := by
    have := heap_new ((w.alloc fVars).alloc fStmts) (fProg w.heap.size)
    rw [hW0]; simpa using this
  have b0 : W0.cell? ⟨w.heap.size + 2, 0, none⟩ = some (.slice (some ⟨w.heap.size, 0, none⟩) 2 2) := by rw [Lib.cell_of_heap hbox]; rfl
  have b1 : W0.cell? ⟨w.heap.size + 2, 1, none⟩ = some (.slice none 0 0) := by rw [Lib.cell_of_heap hbox]; rfl
  have b2 : W0.cell? ⟨w.heap.size + 2, 2, none⟩ = some (.slice (some ⟨w.heap.size + 1, 0, none⟩) 2 2) := by rw [Lib.cell_of_heap hbox]; rfl
  clear hbox hP hE
  have HB0 : Hid (Below w.heap.size w W0) := hB0
  clear hB0
  go_enter Tryz.func6, Tryz.ntmps6
  go_upto_region 2 with fail
  rw [← hW0]
  clear hW0
  go_wp2_with fail
  refine K1.out.mono ?_
  rintro e w1 ⟨B, sb, m, rfl, hs⟩
  clear K1
  have K2 : Hid _ := runA_any progF_check progF_small fixF hs
  clear hs b0 b1 b2
  go_wp2_with fail
  refine Calls.mono K2.out ?_
  rintro e w2 ⟨m2, s2, rfl, hd, hh, hm2, ho2, hb2⟩
  have e2 : ((totD (iterD progF 2) : Nat) : Int) = 2 := by rw [iterF2]; rfl
  rw [e2]
  have K3 : Hid (Calls Tryz.prog 14 #[.pointer (some ⟨sb, 0, none⟩)] w2 fun e w' => e = .returned (.bool true) ∧ w' = w2) := by
    have := doneS_any hm2
    rw [decide_eq_true hd] at this
    exact this
  have K4 : Hid (Calls Tryz.prog 13 #[.pointer (some ⟨sb, 0, none⟩), .int .i64 1] w2 fun e w' => ∃ v, e = .returned v ∧ IsInts w' v [1] ∧ Below w2.heap.size w2 w') := by
    have := hasS_any hm2 1 (fun j => by rw [hh, iterF2]; rcases j with _ | _ | j <;> simp [List.getD])
    rw [hh, iterF2] at this
    exact this
  have HB2 : Hid (Below w.heap.size w w2) := HB0.out.trans (hb2.mono HB0.out.size)
  clear K2 e2 hm2 ho2 hb2 hd hh
  go_wp2_with fail
  refine K3.out.mono ?_
  rintro e w3 ⟨rfl, rfl⟩
  clear K3
  go_wp2_with fail
  refine K4.out.mono ?_
  rintro e w4 ⟨v, rfl, hv, hb4⟩
  have K5 : Hid (∀ wx, wx = w4.alloc (.cells #[.int .i64 1] 3) → Calls Tryz.prog 12 #[v, .slice (some ⟨w4.heap.size, 0, none⟩) 1 1] wx fun e w' => e = .returned (.bool true) ∧ Below wx.heap.size wx w') := fun wx hwx => by
    refine sameInts_true [1] _ _ wx (by decide) (hv.below (by rw [hwx]; exact below1 _ _)) ?_
    rw [hwx]
    exact isInts_of_cells rfl (fun j hj => by obtain rfl : j = 0 := (by simpa using hj); simp)
  have HB4 : Hid (Below w.heap.size w w4) := HB2.out.trans (hb4.mono HB2.out.size)
  obtain ⟨va, vn, vc, rfl⟩ : ∃ va vn vc, v = .slice va vn vc := by
    obtain ⟨x, y, e⟩ := isInts_form hv
    exact ⟨x, _, y, e⟩
  clear hv K4 hb4
  go_wp2_with fail
  refine (K5.out _ rfl).mono ?_
  rintro e w5 ⟨rfl, hb5⟩
  have HBF : Hid (Below w.heap.size w w5) := (HB4.out.alloc HB4.out.size _).trans (hb5.mono (by have := HB4.out.size; simp; omega))
  clear K5 hb5
  go_wp2_with fail
  go_ret
  exact ⟨rfl, HBF.out⟩
end Go.Proofs.YtglonlpfnllocaaGreatDoor

/-
  Package solve: a solver on its way: so many facts came.
-/
namespace Go.Proofs.YtglonlpfnllocaaGreatDoor
open Go.RowKit Go.Extern.Stop Go.Stop Go.Extern Go.Maps

/-- A solver in memory, on its way to the least answer. -/
structure StepAt (P : ProgD) (w0 w : World) (B sb : Nat) (L : List (List Int)) (c : Nat) (m : SolB) (s : SolD) : Prop where
  sol : SolM w B sb P.funs m s
  fk : FunsK w sb P.funs m s
  ok : SolOk (places P P.stmts.length) P.funs L (rulesD P) s
  once : EdgeOnce s
  few : RulesFew P.funs (rulesD P) s
  tot : totD s.has = c
  kn : m.kn ≤ 1000000000000000 + c * 1002000000000
  en : m.en ≤ 100000000000 + c * 1002000
  own : ∀ k, OwnB sb m s k → w0.heap.size ≤ k
  hb : Below w0.heap.size w0 w
theorem StepAt.below {P : ProgD} {w0 w w' : World} {B sb c : Nat} {L : List (List Int)} {m : SolB} {s : SolD} (h : StepAt P w0 w B sb L c m s) (hb : Below w.heap.size w w') : StepAt P w0 w' B sb L c m s :=
  ⟨h.sol.below hb, h.fk.step (SolStep.refl hb sb m s).toR, h.ok, h.once, h.few, h.tot, h.kn, h.en, h.own, h.hb.trans (hb.mono h.hb.size)⟩
theorem totD_empty (P : ProgD) : totD (emptyD P) = 0 := by
  have := totD_le (emptyD P) 0 fun j _ => by rw [emptyD_at]; exact Nat.le_refl _
  omega
theorem newB_any (a : Nat → Addr) (P : ProgD) (v1 v2 v3 : Value) (w : World) (hS : SmallP P) (h : IsProg w v1 v2 v3 P) (hE : Errs5 w a) :
    Calls Tryz.prog 8 #[.agg #[v1, v2, v3]] w fun e w' =>
      (∃ t x, e = .returned (.tuple #[.pointer none, .iface t (.pointer (some x))]) ∧ (checkE P).isNone = false ∧ ErrV w' a (checkE P) (.iface t (.pointer (some x))) ∧ Below w.heap.size w w') ∨
      (checkE P = none ∧ ∃ (j B sb : Nat) (m : SolB) (s : SolD), e = .returned (.tuple #[.pointer (some ⟨sb, 0, none⟩), .nilIface]) ∧ FixK P j ∧ StepAt P w w' B sb (iterD P j) 0 m s) := by
  refine (newS_any a P v1 v2 v3 w hS h hE).mono ?_
  rintro e w' (q | ⟨hc, B, sb, m, rfl, q1, q2, q3, q4, q5, -, q7, q8⟩)
  · exact Or.inl q
  · obtain ⟨j, hj⟩ := fixK_ex hc
    obtain ⟨r1, r2⟩ := newD_few hc hS hj
    obtain ⟨o1, o2⟩ := newD_ok hc hj
    exact Or.inr ⟨hc, j, B, sb, m, _, rfl, hj, q1, q2, o1, r2, r1, by rw [o2, totD_empty], by omega, by omega, q7, q8⟩
/-- What came is never more than the least answer. -/
theorem StepAt.le {P : ProgD} {w0 w : World} {B sb c j : Nat} {m : SolB} {s : SolD} (h : StepAt P w0 w B sb (iterD P j) c m s) (hc : checkE P = none) : c ≤ totD (iterD P j) ∧ totD (iterD P j) ≤ 60000 := by
  have h1 := h.ok.tot
  rw [h.tot] at h1
  have hok := setsOk_iter hc j
  obtain ⟨s1, s2, s3⟩ := right_small hc
  have hpl := places_le P P.stmts.length
  have h1' := hok.len
  have h3 := totD_le (iterD P j) 200 (hok.short hc)
  have h4 : (iterD P j).length * 200 ≤ 300 * 200 := Nat.mul_le_mul (by omega) (Nat.le_refl _)
  exact ⟨h1, by omega⟩
theorem StepAt.next {P : ProgD} {w0 w w' : World} {B sb c j k : Nat} {m m' : SolB} {s : SolD} (h : StepAt P w0 w B sb (iterD P j) c m s) (hc : checkE P = none) (hall : ∀ i, i < k → (comesD (places P P.stmts.length) P.funs s i).due ≠ [])
    (h1 : SolM w' B sb P.funs m' (comesD (places P P.stmts.length) P.funs s k)) (h2 : SolStepR w w' sb m m' s (comesD (places P P.stmts.length) P.funs s k)) (h3 : m'.kn ≤ m.kn + k * 1002000000000) (h4 : m'.en ≤ m.en + k * 1002000) :
    StepAt P w0 w' B sb (iterD P j) (c + k) m' (comesD (places P P.stmts.length) P.funs s k) := by
  obtain ⟨c1, c2, c3, c4⟩ := comes_ok h.ok h.once (ask_nodes hc) k hall
  have b1 := h.kn
  have b2 := h.en
  refine ⟨h1, h.fk.step h2, c1, c2, ⟨by rw [c3]; exact h.few.len, h.few.args, h.few.fp⟩, by rw [c4, h.tot], by rw [Nat.add_mul]; omega, by rw [Nat.add_mul]; omega, fun i hi => ?_, h2.below h.hb h.own⟩
  rcases h2.own i hi with q | q
  · exact h.own i q
  · exact Nat.le_trans h.hb.size q
theorem stepA_any {P : ProgD} {w0 w : World} {B sb c j : Nat} {m : SolB} {s : SolD} (h : StepAt P w0 w B sb (iterD P j) c m s) (hc : checkE P = none) (K : Int) :
    Calls Tryz.prog 16 #[.pointer (some ⟨sb, 0, none⟩), .int .i64 K] w fun e w' => ∃ (k : Nat) (m' : SolB) (s' : SolD), e = .returned (.int .i64 k) ∧ ((k : Int) ≤ K ∨ k = 0) ∧ (s'.due = [] ∨ K ≤ (k : Int)) ∧ StepAt P w0 w' B sb (iterD P j) (c + k) m' s' ∧ SolStepR w w' sb m m' s s' := by
  obtain ⟨f1, f2⟩ := right_few hc
  have hl := h.le hc
  have b1 := h.kn
  have b2 := h.en
  have b3 : c * 1002000000000 ≤ 60000 * 1002000000000 := Nat.mul_le_mul (by omega) (Nat.le_refl _)
  have b4 : c * 1002000 ≤ 60000 * 1002000 := Nat.mul_le_mul (by omega) (Nat.le_refl _)
  refine (stepS_any h.sol h.fk (places P P.stmts.length) _ (by omega) (comesOk_of h.ok h.once h.few (ask_nodes hc) f1 f2) K (by omega) (by omega)).mono ?_
  rintro e w' ⟨k, rfl, hk, hkK, hall, hd, m', q1, q2, q3, q4, -⟩
  exact ⟨k, m', _, rfl, hkK, hd, h.next hc hall q1 q2 q3 q4, q2⟩
theorem runB_any {P : ProgD} {w0 w : World} {B sb c j : Nat} {m : SolB} {s : SolD} (h : StepAt P w0 w B sb (iterD P j) c m s) (hc : checkE P = none) :
    Calls Tryz.prog 10 #[.pointer (some ⟨sb, 0, none⟩)] w fun e w' => ∃ (k : Nat) (m' : SolB) (s' : SolD), e = .returned (.int .i64 k) ∧ c + k = totD (iterD P j) ∧ s'.due = [] ∧ s'.has = iterD P j ∧ StepAt P w0 w' B sb (iterD P j) (totD (iterD P j)) m' s' ∧ SolStepR w w' sb m m' s s' := by
  obtain ⟨f1, f2⟩ := right_few hc
  have hl := h.le hc
  have b1 := h.kn
  have b2 := h.en
  have b3 : c * 1002000000000 ≤ 60000 * 1002000000000 := Nat.mul_le_mul (by omega) (Nat.le_refl _)
  have b4 : c * 1002000 ≤ 60000 * 1002000 := Nat.mul_le_mul (by omega) (Nat.le_refl _)
  refine (runS_any h.sol h.fk (places P P.stmts.length) _ (by omega) (comesOk_of h.ok h.once h.few (ask_nodes hc) f1 f2) (by omega) (by omega)).mono ?_
  rintro e w' ⟨k, rfl, hk, -, hall, hd, m', q1, q2, q3, q4, -⟩
  have hdue : (comesD (places P P.stmts.length) P.funs s k).due = [] := by
    rcases hd with q | q
    · exact q
    · exact absurd q (by omega)
  have hn := h.next hc hall q1 q2 q3 q4
  have hh := hn.ok.done hc hdue
  have ht := hn.tot
  rw [hh] at ht
  rw [← ht] at hn
  exact ⟨k, m', _, rfl, ht.symm, hdue, hh, hn, q2⟩
/-- What lies beside a solver stays. -/
structure GapAt (wg : World) (lo : Nat) (w : World) (sb : Nat) (m : SolB) (s : SolD) : Prop where
  gap : ∀ k, OwnB sb m s k → k < lo ∨ wg.heap.size ≤ k
  kp : ∀ (k : Nat) (o : Obj), lo ≤ k → wg.heap[k]? = some o → w.heap[k]? = some o
  sz : wg.heap.size ≤ w.heap.size
theorem GapAt.below {wg : World} {lo : Nat} {w w' : World} {sb : Nat} {m : SolB} {s : SolD} (h : GapAt wg lo w sb m s) (hb : Below w.heap.size w w') : GapAt wg lo w' sb m s :=
  ⟨h.gap, fun k o hk q => block_keep hb (h.kp k o hk q), Nat.le_trans h.sz hb.size⟩
theorem GapAt.step {wg : World} {lo : Nat} {w w' : World} {sb : Nat} {m m' : SolB} {s s' : SolD} (h : GapAt wg lo w sb m s) (hs : SolStepR w w' sb m m' s s') : GapAt wg lo w' sb m' s' := by
  refine ⟨fun k hk => ?_, fun k o hk q => hs.keep k o (h.kp k o hk q) fun hx => ?_, Nat.le_trans h.sz hs.size⟩
  · rcases hs.own k hk with q | q
    · exact h.gap k q
    · exact Or.inr (Nat.le_trans h.sz q)
  · have := (Array.getElem?_eq_some_iff.1 q).1
    rcases h.gap k hx with g | g <;> omega
/-- What a solver has is sets. -/
theorem StepAt.sets {P : ProgD} {w0 w : World} {B sb c j : Nat} {m : SolB} {s : SolD} (h : StepAt P w0 w B sb (iterD P j) c m s) (hc : checkE P = none) : SetsOk P s.has ∧ Sub s.has (iterD P j) := by
  have hl := h.ok.core.len
  have hsub := h.ok.sub (iterD_len P j)
  have hiter := setsOk_iter hc j
  refine ⟨setsOk_of hc hl (fun j _ => h.ok.core.row j) (fun i x hx => ?_), hsub⟩
  have := setsOk_mem hiter i x (hsub.mem i x hx)
  rw [iterD_len] at this
  rw [hl]
  exact ⟨this.1, this.2.2⟩
theorem StepAt.done {P : ProgD} {w0 w : World} {B sb c j : Nat} {m : SolB} {s : SolD} (h : StepAt P w0 w B sb (iterD P j) c m s) (hc : checkE P = none) :
    Calls Tryz.prog 14 #[.pointer (some ⟨sb, 0, none⟩)] w fun e w' => e = .returned (.bool (decide (c = totD (iterD P j)))) ∧ w' = w := by
  have h1 := doneS_any h.sol
  have h2 := h.ok.tot_done hc
  rw [h.tot] at h2
  rw [show decide (c = totD (iterD P j)) = decide (s.due = []) from by congr 1; exact (propext h2).symm]
  exact h1
theorem StepAt.hasA {P : ProgD} {w0 w : World} {B sb c j : Nat} {m : SolB} {s : SolD} (h : StepAt P w0 w B sb (iterD P j) c m s) (hc : checkE P = none) (k : Int) :
    Calls Tryz.prog 13 #[.pointer (some ⟨sb, 0, none⟩), .int .i64 k] w fun e w' => ∃ xa xc, e = .returned (.slice xa (if 0 ≤ k then setAt s.has k else []).length xc) ∧ IsInts w' (.slice xa (if 0 ≤ k then setAt s.has k else []).length xc) (if 0 ≤ k then setAt s.has k else []) ∧ Below w.heap.size w w' := by
  refine (hasS_any h.sol k (fun i => ?_)).mono ?_
  · by_cases hi : i < s.has.length
    · have := (h.sets hc).1.short hc i hi
      omega
    · rw [getD_none s.has i hi]; exact Nat.zero_le _
  · rintro e w' ⟨v, rfl, hv, hb⟩
    obtain ⟨xa, xc, rfl⟩ := isInts_form hv
    exact ⟨xa, xc, rfl, hv, hb⟩
theorem totD_take (l : List (List Int)) (k : Nat) (hk : k < l.length) : totD (l.take (k + 1)) = totD (l.take k) + (l.getD k []).length := by
  unfold totD
  rw [List.take_add_one, List.map_append, List.sum_append]
  simp [List.getD, hk]
theorem totD_take_le (l : List (List Int)) (k : Nat) : totD (l.take k) ≤ totD l := by
  have h : totD l = totD (l.take k) + totD (l.drop k) := by
    unfold totD
    rw [← List.sum_append, ← List.map_append, List.take_append_drop]
  omega
theorem codeE_pos {e : ErrD} (h : e.isNone = false) : 0 < codeE e := by
  rcases e with _ | ⟨c, n⟩
  · cases h
  · show (0 : Int) < (c : Int) + 1
    omega
end Go.Proofs.YtglonlpfnllocaaGreatDoor

/-
  SolveSteps answers true at every program and steps that read as plain data.
-/
namespace Go.Proofs.YtglonlpfnllocaaGreatDoor
open Go.RowKit Go.Extern.Stop Go.Stop Go.Extern Go.Maps

theorem bthenX {w0 w1 w2 : World} (h1 : Below w0.heap.size w0 w1) (h2 : Below w1.heap.size w1 w2) : Below w0.heap.size w0 w2 := h1.trans (h2.mono h1.size)
theorem keep1X {w w' : World} {x : Addr} {v : Value} (h : w.cell? x = some v) (hb : Below w.heap.size w w') : Below w.heap.size w w' ∧ w'.cell? x = some v := ⟨hb, cell_keep hb h⟩
/-- The contracts of a solver that is on its way, in one. -/
structure Ways (P : ProgD) (w4 w9 : World) (lo B sb : Nat) (L : List (List Int)) (T n : Nat) : Prop where
  step : ∀ wr c m s (K : Int), StepAt P w4 wr B sb L c m s → GapAt w9 lo wr sb m s → Calls Tryz.prog 16 #[.pointer (some ⟨sb, 0, none⟩), .int .i64 K] wr fun e w' => ∃ (k : Nat) (m' : SolB) (s' : SolD), e = .returned (.int .i64 k) ∧ ((k : Int) ≤ K ∨ k = 0) ∧ (c + k = T ∨ K ≤ (k : Int)) ∧ StepAt P w4 w' B sb L (c + k) m' s' ∧ GapAt w9 lo w' sb m' s'
  run : ∀ wr c m s, StepAt P w4 wr B sb L c m s → GapAt w9 lo wr sb m s → Calls Tryz.prog 10 #[.pointer (some ⟨sb, 0, none⟩)] wr fun e w' => ∃ (k : Nat) (m' : SolB) (s' : SolD), e = .returned (.int .i64 k) ∧ c + k = T ∧ s'.has = L ∧ StepAt P w4 w' B sb L T m' s' ∧ GapAt w9 lo w' sb m' s'
  done : ∀ wr c m s, StepAt P w4 wr B sb L c m s → Calls Tryz.prog 14 #[.pointer (some ⟨sb, 0, none⟩)] wr fun e w' => e = .returned (.bool (decide (c = T))) ∧ w' = wr
  has : ∀ wr c m s (k : Int), StepAt P w4 wr B sb L c m s → Calls Tryz.prog 13 #[.pointer (some ⟨sb, 0, none⟩), .int .i64 k] wr fun e w' => ∃ xa xc, e = .returned (.slice xa (if 0 ≤ k then setAt s.has k else []).length xc) ∧ IsInts w' (.slice xa (if 0 ≤ k then setAt s.has k else []).length xc) (if 0 ≤ k then setAt s.has k else []) ∧ Below wr.heap.size wr w'
  fact : ∀ wr c m s, StepAt P w4 wr B sb L c m s → s.has.length = n ∧ totD s.has = c ∧ c ≤ T ∧ ∀ q, q < n → IsSet (s.has.getD q []) ∧ (s.has.getD q []).length ≤ 200 ∧ ((s.has.getD q []).all fun x => (L.getD q []).contains x) = true
  num : T = totD L ∧ T ≤ 60000 ∧ n = L.length ∧ n ≤ 300 ∧ ∀ q, q < n → (L.getD q []).length ≤ 200
theorem ways_of {P : ProgD} {j : Nat} (hc : checkE P = none) (w4 w9 : World) (lo B sb : Nat) : Ways P w4 w9 lo B sb (iterD P j) (totD (iterD P j)) (iterD P j).length := by
  refine ⟨fun wr c m s K h g => ?_, fun wr c m s h g => ?_, fun wr c m s h => h.done hc, fun wr c m s k h => h.hasA hc k, fun wr c m s h => ?_, ?_⟩
  · refine (stepA_any h hc K).mono ?_
    rintro e w' ⟨k, m', s', rfl, q1, q2, q3, q4⟩
    refine ⟨k, m', s', rfl, q1, ?_, q3, g.step q4⟩
    rcases q2 with q | q
    · left
      have := (q3.ok.tot_done hc).1 q
      rw [q3.tot] at this
      exact this
    · exact Or.inr q
  · refine (runB_any h hc).mono ?_
    rintro e w' ⟨k, m', s', rfl, q1, -, q2, q3, q4⟩
    exact ⟨k, m', s', rfl, q1, q2, q3, g.step q4⟩
  · obtain ⟨h1, h2⟩ := h.sets hc
    refine ⟨h2.len, h.tot, (h.le hc).1, fun q hq => ?_⟩
    rw [← h2.len] at hq
    exact ⟨h1.set q hq, h1.short hc q hq, List.all_eq_true.2 fun x hx => List.contains_iff_mem.2 (h2.mem q x hx)⟩
  · have hok := setsOk_iter hc j
    obtain ⟨s1, s2, s3⟩ := right_small hc
    have hpl := places_le P P.stmts.length
    have h1 := hok.len
    have h2 := hok.short hc
    have h3 := totD_le (iterD P j) 200 h2
    have h4 : (iterD P j).length * 200 ≤ 300 * 200 := Nat.mul_le_mul (by omega) (Nat.le_refl _)
    exact ⟨rfl, by omega, rfl, by omega, h2⟩
theorem ints_first {w : World} {a : Option Addr} {n c : Nat} {zs : List Int} (h : IsInts w (.slice a n c) zs) (hn : 0 < zs.length) : ∃ b o, a = some ⟨b, o, none⟩ := by
  rcases h with ⟨hz, _⟩ | ⟨_, b, o, c', e, _⟩
  · rw [hz] at hn; exact absurd hn (Nat.not_lt_zero _)
  · injection e with q1 _ _
    exact ⟨b, o, q1⟩
theorem ints_cell {w : World} {b o n c : Nat} {zs : List Int} (h : IsInts w (.slice (some ⟨b, o, none⟩) n c) zs) (i : Nat) (hi : i < zs.length) : w.cell? ⟨b, o + i, none⟩ = some (.int .i64 (zs.getD i 0)) := by
  rcases h with ⟨hz, _⟩ | ⟨_, b', o', c', e, hc⟩
  · rw [hz] at hi; exact absurd hi (Nat.not_lt_zero _)
  · injection e with q1 _ _
    injection q1 with q1
    injection q1 with q1 q2
    subst q1 q2
    exact hc i hi
set_option maxRecDepth 100000 in
set_option maxHeartbeats 32000000 in
theorem solveSteps_any (a : Nat → Addr) (P : ProgD) (v1 v2 v3 sv : Value) (zs : List Int) (w : World) (h : IsProg w v1 v2 v3 P) (hz : IsInts w sv zs) (hE : Errs w a) :
    Calls Tryz.prog 5 #[.agg #[v1, v2, v3], sv] w fun e w' => e = .returned (.bool true) ∧ Below w.heap.size w w' := by
  have H : Hid (IsProg w v1 v2 v3 P ∧ IsInts w sv zs ∧ Errs w a) := ⟨h, hz, hE⟩
  obtain ⟨⟨a1, c1, rfl, -, -⟩, ⟨a2, c2, rfl, -, -⟩, ⟨a3, c3, rfl, -, -⟩⟩ := h
  obtain ⟨sa, sc, rfl⟩ := isInts_form hz
  obtain ⟨n1, hn1⟩ : ∃ m, m = P.vars.length := ⟨_, rfl⟩
  obtain ⟨n2, hn2⟩ : ∃ m, m = P.funs.length := ⟨_, rfl⟩
  obtain ⟨n3, hn3⟩ : ∃ m, m = P.stmts.length := ⟨_, rfl⟩
  obtain ⟨ns, hns⟩ : ∃ m, m = zs.length := ⟨_, rfl⟩
  have HN : Hid (n1 = P.vars.length ∧ n2 = P.funs.length ∧ n3 = P.stmts.length ∧ ns = zs.length) := ⟨hn1, hn2, hn3, hns⟩
  rw [← hn1, ← hn2, ← hn3, ← hns] at H
  rw [← hn1, ← hn2, ← hn3, ← hns]
  clear hn1 hn2 hn3 hns hE hz
  obtain ⟨W, hW⟩ : ∃ W, W = w.alloc (.cells #[.slice a1 n1 c1, .slice a2 n2 c2, .slice a3 n3 c3] 26) := ⟨_, rfl⟩
  have hBW : Below w.heap.size w W := by rw [hW]; exact below1 w _
  have HBX : Hid (Box3 W w.heap.size (.slice a1 n1 c1) (.slice a2 n2 c2) (.slice a3 n3 c3)) := by
    show Box3 W _ _ _ _
    rw [hW]; exact box3_new w _ _ _ _
  have K1 : Hid (Calls Tryz.prog 6 #[] W fun e w' => e = .returned (.bool true) ∧ Below W.heap.size W w') := solved_any a W (H.out.2.2.below hBW).five
  rw [hW] at K1
  go_enter Tryz.func5, Tryz.ntmps5
  go_wp2_with fail
  refine K1.out.mono ?_
  rintro e w1 ⟨rfl, hB1⟩
  rw [← hW] at hB1
  clear K1 hW
  obtain ⟨p0, p1, p2⟩ := HBX.out.below hB1
  have hB1w : Below w.heap.size w w1 := hBW.trans (hB1.mono hBW.size)
  go_wp2_with fail
  refine (large_m 25 (by decide) P _ _ _ w1 (H.out.1.below hB1w)).mono ?_
  rintro e w2 ⟨r, rfl, hr, hB2⟩
  have hB2w : Below w.heap.size w w2 := hB1w.trans (hB2.mono hB1w.size)
  rcases hr with rfl | ⟨rfl, hs1, hs2, -⟩
  · go_wp2_with fail
    go_ret
    exact ⟨rfl, hB2w⟩
  by_cases h40 : (40 : Int) < ns
  · go_wp2_with fail
    go_ret
    exact ⟨rfl, hB2w⟩
  have HS : Hid (SmallP P ∧ SmallN P) := ⟨hs1, hs2⟩
  have HX2 : Hid (Box3 w2 w.heap.size (.slice a1 n1 c1) (.slice a2 n2 c2) (.slice a3 n3 c3)) := HBX.out.below (bthenX hB1 hB2)
  clear hs1 hs2 p0 p1 p2
  obtain ⟨p0, p1, p2⟩ := HX2.out
  go_wp2_with fail
  refine (ownProgram_any P _ _ _ w2 HS.out.1 (H.out.1.below hB2w)).mono ?_
  rintro e w4 ⟨u1, u2, u3, rfl, hq, hB4⟩
  have HQ : Hid (Below w.heap.size w w4 ∧ Box3 w4 w.heap.size (.slice a1 n1 c1) (.slice a2 n2 c2) (.slice a3 n3 c3)) := ⟨bthenX hB2w hB4, HX2.out.below hB4⟩
  have KN : Hid _ := newB_any a P u1 u2 u3 w4 HS.out.1 hq (H.out.2.2.below HQ.out.1).five
  obtain ⟨⟨b1, d1, rfl, -, -⟩, ⟨b2, d2, rfl, -, -⟩, ⟨b3, d3, rfl, -, -⟩⟩ := hq
  rw [← HN.out.1, ← HN.out.2.1, ← HN.out.2.2.1] at KN ⊢
  clear p0 p1 p2 hB1 hB2 hB4 hB1w hB2w hBW HBX HX2
  go_wp2_with fail
  refine Calls.mono KN.out ?_
  rintro e w5 hcs
  clear KN
  have hb5 : Below w4.heap.size w4 w5 := by
    rcases hcs with ⟨_, _, _, _, _, q⟩ | ⟨_, _, _, _, _, _, _, _, q⟩
    · exact q
    · exact q.hb
  have hB5w : Below w.heap.size w w5 := bthenX HQ.out.1 hb5
  have HX5 : Hid (Box3 w5 w.heap.size (.slice a1 n1 c1) (.slice a2 n2 c2) (.slice a3 n3 c3) ∧ Below w.heap.size w w5) := ⟨HQ.out.2.below hb5, hB5w⟩
  obtain ⟨c0, hc0⟩ : ∃ c, c = codeE (checkE P) := ⟨_, rfl⟩
  obtain ⟨e0, he0⟩ : ∃ c, c = placeE (checkE P) := ⟨_, rfl⟩
  have KPF : Hid (Calls Tryz.prog 20 #[.agg #[.slice a1 n1 c1, .slice a2 n2 c2, .slice a3 n3 c3]] w5 fun e w' => e = .returned (.agg #[.int .i64 c0, .int .i64 e0]) ∧ Below w5.heap.size w5 w') := by
    have := refFault_any P _ _ _ w5 HS.out.1 HS.out.2 (H.out.1.below hB5w)
    rw [← hc0, ← he0] at this
    exact this
  clear hB5w hb5
  rcases hcs with ⟨t, x, rfl, hcb, hev, -⟩ | ⟨hck, j, B, sb, m, s, rfl, hj, hat⟩
  · have gpos : 0 < c0 := by rw [hc0]; exact codeE_pos hcb
    have KF : Hid (∀ wx, Below w5.heap.size w5 wx → Calls Tryz.prog 21 #[.iface t (.pointer (some x)), .agg #[.int .i64 c0, .int .i64 e0]] wx fun r w' => r = .returned (.bool true) ∧ Below wx.heap.size wx w') := fun wx hx => faulted2_any a (checkE P) _ _ _ wx (H.out.2.2.below (bthenX HX5.out.2 hx)) (hev.below hx) (fun x hx => checkE_lt hx) hc0 he0
    clear hcb hev hc0 he0
    obtain ⟨p0, p1, p2⟩ := HX5.out.1
    go_wp2_with fail
    refine KPF.out.mono ?_
    rintro e w6 ⟨rfl, hb6⟩
    clear KPF p0 p1 p2
    go_upto_region 6 with fail
    obtain ⟨W7, hW7⟩ : ∃ W7, W7 = w6.alloc (.cells #[.int .i64 c0, .int .i64 e0] 52) := ⟨_, rfl⟩
    have HB7 : Hid (Below w5.heap.size w5 W7) := by
      show Below _ _ _
      rw [hW7]; exact hb6.alloc hb6.size _
    have hf : W7.heap[w6.heap.size]? = some (.cells #[.int .i64 c0, .int .i64 e0] 52 (0, 0)) := by rw [hW7]; exact heap_new w6 _
    have f0 : W7.cell? ⟨w6.heap.size, 0, none⟩ = some (.int .i64 c0) := by rw [Lib.cell_of_heap hf]; rfl
    have f1 : W7.cell? ⟨w6.heap.size, 1, none⟩ = some (.int .i64 e0) := by rw [Lib.cell_of_heap hf]; rfl
    rw [← hW7]
    clear hW7 hf hb6
    go_wp2_with fail
    refine (KF.out W7 HB7.out).mono ?_
    rintro e w8 ⟨rfl, hb8⟩
    have HBF : Hid (Below w.heap.size w w8) := bthenX HX5.out.2 (bthenX HB7.out hb8)
    clear hb8 f0 f1
    go_wp2_with fail
    go_ret
    exact ⟨rfl, HBF.out⟩
  have hc00 : c0 = 0 := by rw [hc0, hck]; rfl
  have he00 : e0 = -1 := by rw [he0, hck]; rfl
  clear hc0 he0
  subst hc00 he00
  have HAT : Hid (checkE P = none ∧ FixK P j ∧ StepAt P w4 w5 B sb (iterD P j) 0 m s) := ⟨hck, hj, hat⟩
  clear hck hj hat
  obtain ⟨p0, p1, p2⟩ := HX5.out.1
  go_wp2_with fail
  refine KPF.out.mono ?_
  rintro e w6 ⟨rfl, hb6⟩
  clear KPF p0 p1 p2
  go_upto_region 6 with fail
  obtain ⟨W7, hW7⟩ : ∃ W7, W7 = w6.alloc (.cells #[.int .i64 0, .int .i64 (-1)] 52) := ⟨_, rfl⟩
  have HB7 : Hid (Below w5.heap.size w5 W7) := by
    show Below _ _ _
    rw [hW7]; exact hb6.alloc hb6.size _
  have hf : W7.heap[w6.heap.size]? = some (.cells #[.int .i64 0, .int .i64 (-1)] 52 (0, 0)) := by rw [hW7]; exact heap_new w6 _
  have f0 : W7.cell? ⟨w6.heap.size, 0, none⟩ = some (.int .i64 0) := by rw [Lib.cell_of_heap hf]; rfl
  rw [← hW7]
  clear hW7 hf hb6
  obtain ⟨p0, p1, p2⟩ := HX5.out.1.below HB7.out
  have KL : Hid _ := refLeastOwn_any P _ _ _ W7 HS.out.1 HAT.out.1 (H.out.1.below (bthenX HX5.out.2 HB7.out))
  go_wp2_with fail
  refine Calls.mono KL.out ?_
  rintro e w9 ⟨va, vn, vc, mm, rfl, hfx, hso, hb9⟩
  obtain rfl := HAT.out.2.1.uniq hfx
  obtain ⟨L, hL⟩ : ∃ L, L = iterD P j := ⟨_, rfl⟩
  obtain ⟨T, hT⟩ : ∃ T, T = totD L := ⟨_, rfl⟩
  obtain ⟨n, hn⟩ : ∃ n, n = L.length := ⟨_, rfl⟩
  have HW : Hid (Ways P w4 w9 W7.heap.size B sb L T n) := by
    show Ways _ _ _ _ _ _ _ _ _
    rw [hT, hn, hL]
    exact ways_of HAT.out.1 _ _ _ _ _
  have hvn : vn = n := by
    obtain ⟨⟨a', c', e', -⟩, -⟩ := hso
    injection e' with _ e2 _
    rw [e2, hn, hL]
  subst hvn
  have H9 : Hid (SetsOwn W7.heap.size w9 (.slice va vn vc) L ∧ StepAt P w4 w9 B sb L 0 m s ∧ GapAt w9 W7.heap.size w9 sb m s ∧ Below w.heap.size w w9) := by
    have h59 : Below w5.heap.size w5 w9 := bthenX HB7.out hb9
    have hat := HAT.out.2.2
    rw [← hL] at hso hat
    refine ⟨hso, hat.below h59, ⟨fun k hk => Or.inl ?_, fun k o _ q => q, Nat.le_refl _⟩, bthenX HX5.out.2 h59⟩
    have := hat.sol.own_lt k hk
    exact Nat.lt_of_lt_of_le this HB7.out.size
  have hn300 : vn ≤ 300 := HW.out.num.2.2.2.1
  have hT6 : T ≤ 60000 := HW.out.num.2.1
  clear hfx hso hb9 hL hT hn f0 p0 p1 p2 KL
  -- what stands while the solver goes on
  have HF : Hid (∀ wr c m s, StepAt P w4 wr B sb L c m s → GapAt w9 W7.heap.size wr sb m s → ∀ wx, Below wr.heap.size wr wx → IsSets wx (.slice va vn vc) L ∧ IsInts wx (.slice sa ns sc) zs ∧ Below w.heap.size w wx) := fun wr c m s h g wx hx => by
    have hb := bthenX HQ.out.1 (bthenX h.hb hx)
    exact ⟨((H9.out.1.keepF g.kp).1).below hx, H.out.2.1.below hb, hb⟩
  have HR : Hid (∀ wr, IsSets wr (.slice va vn vc) L → ∀ k, k < vn → ∃ b o ua uc, va = some ⟨b, o, none⟩ ∧ wr.cell? ⟨b, o + k, none⟩ = some (.slice ua (L.getD k []).length uc) ∧ IsInts wr (.slice ua (L.getD k []).length uc) (L.getD k [])) := fun wr hi k hk => by
    obtain ⟨a', c', e', hr⟩ := hi
    injection e' with q1 q2 q3
    subst q1 q3
    obtain ⟨b, o, ux, rfl, x1, x2⟩ := hr k (by rw [← q2]; exact hk)
    obtain ⟨ua, uc, rfl⟩ := isInts_form x2
    exact ⟨b, o, ua, uc, rfl, x1, x2⟩
  go_wp2_with fail
  go_loopw [11, 12] (fun t11 t12 wr => ∃ k : Nat, k ≤ vn ∧ t11 = .int .i64 ((totD (L.take k) : Nat) : Int) ∧ t12 = .int .i64 k ∧ wr = w9) (fun _ t12 _ => (vn - intOf t12).toNat)
  case atStart => exact ⟨0, Nat.zero_le _, rfl, rfl, rfl⟩
  case round =>
    obtain ⟨k, hk, rfl, rfl, hwr⟩ := hrel
    obtain rfl := hwr.symm
    clear hwr
    by_cases hlt : k < vn
    · have hki : (k : Int) < vn := by omega
      obtain ⟨b, o, ua, uc, rfl, x1, -⟩ := HR.out w9 H9.out.1.1 k hlt
      have hl2 := HW.out.num.2.2.2.2 k hlt
      have htd := totD_take L k (by rw [← HW.out.num.2.2.1]; exact hlt)
      have htl := totD_take_le L k
      rw [← HW.out.num.1] at htl
      obtain ⟨ln, hln⟩ : ∃ l, l = (L.getD k []).length := ⟨_, rfl⟩
      obtain ⟨T1, hT1⟩ : ∃ t, t = totD (L.take k) := ⟨_, rfl⟩
      rw [← hT1, ← hln] at htd
      rw [← hT1] at htl ⊢
      rw [← hln] at x1 hl2
      have HTD : Hid (totD (L.take (k + 1)) = T1 + ln) := htd
      clear htd hln hT1
      go_wp2_with fail
      go_roundw
      case rel => exact ⟨k + 1, hlt, by rw [HTD.out]; go_num, by go_num, trivial⟩
      case measure => simp [intOf]; omega
    · have hkn : k = vn := by omega
      subst hkn
      have e0 : totD (L.take k) = T := by rw [HW.out.num.1, HW.out.num.2.2.1, List.take_length]
      rw [e0]
      obtain ⟨vn, rfl⟩ : ∃ z, z = k := ⟨k, rfl⟩
      clear hlt hk e0
      go_wp2_with fail
      go_loopw [13, 14] (fun t13 t14 wr => ∃ (i c : Nat) (m : SolB) (s : SolD), i ≤ ns ∧ t13 = .int .i64 (c : Int) ∧ t14 = .int .i64 (i : Int) ∧ StepAt P w4 wr B sb L c m s ∧ GapAt w9 W7.heap.size wr sb m s) (fun _ t14 _ => (ns - intOf t14).toNat)
      case atStart => exact ⟨0, 0, m, s, Nat.zero_le _, rfl, rfl, H9.out.2.1, H9.out.2.2.1⟩
      case round =>
        obtain ⟨i, c, m1, s1, hi, rfl, rfl, hat, hgap⟩ := hrel
        by_cases hlt : i < ns
        · have hii : (i : Int) < ns := by omega
          have hiz : i < zs.length := by rw [← HN.out.2.2.2]; exact hlt
          have hr1 := (HF.out wr c m1 s1 hat hgap wr (Below.refl _ _)).2.1
          obtain ⟨b, o, rfl⟩ := ints_first hr1 (by omega)
          have x1 := ints_cell hr1 i hiz
          have KSt : Hid _ := HW.out.step wr c m1 s1 (zs.getD i 0) hat hgap
          have HZ : Hid (i < zs.length) := hiz
          obtain ⟨K, hK⟩ : ∃ z, z = zs.getD i 0 := ⟨_, rfl⟩
          rw [← hK] at x1 KSt
          have HK : Hid (K = zs.getD i 0) := hK
          clear hr1 hat hgap hK hiz
          go_wp2_with fail
          refine Calls.mono KSt.out ?_
          rintro e w10 ⟨k, m2, s2, rfl, hk1, hk2, hat2, hgap2⟩
          obtain ⟨d, hd⟩ : ∃ z, z = c + k := ⟨_, rfl⟩
          rw [← hd] at hk2 hat2
          have hfc := HW.out.fact w10 d m2 s2 hat2
          have hdT : d ≤ T := hfc.2.2.1
          have hnum : (c : Int) + k = d ∧ d ≤ 60000 ∧ c ≤ 60000 ∧ k ≤ 60000 := by omega
          have HFC : Hid (s2.has.length = vn ∧ totD s2.has = d ∧ ∀ q, q < vn → IsSet (s2.has.getD q []) ∧ (s2.has.getD q []).length ≤ 200 ∧ ((s2.has.getD q []).all fun x => (L.getD q []).contains x) = true) := ⟨hfc.1, hfc.2.1, hfc.2.2.2⟩
          have HA2 : Hid (StepAt P w4 w10 B sb L d m2 s2 ∧ GapAt w9 W7.heap.size w10 sb m2 s2) := ⟨hat2, hgap2⟩
          have y1 : w10.cell? ⟨b, o + i, none⟩ = some (.int .i64 K) := by
            rw [HK.out]
            exact ints_cell (HF.out w10 d m2 s2 hat2 hgap2 w10 (Below.refl _ _)).2.1 i HZ.out
          have KD : Hid (Calls Tryz.prog 14 #[.pointer (some ⟨sb, 0, none⟩)] w10 fun e w' => e = .returned (.bool (decide (d = T))) ∧ w' = w10) := HW.out.done w10 d m2 s2 hat2
          clear KSt x1 hat2 hgap2 hfc
          go_upto_region 21 with fail
          go_cut [114] (fun t wx => t = .bool false ∧ wx = w10)
          case first =>
            have KT : Hid (d = T → Calls Tryz.prog 14 #[.pointer (some ⟨sb, 0, none⟩)] w10 fun e w' => e = .returned (.bool true) ∧ w' = w10) := fun e => by
              have := KD.out
              rw [decide_eq_true e] at this
              exact this
            by_cases h0 : k = 0
            · subst h0
              by_cases hK0 : (0 : Int) < K
              · have hdt : d = T := by
                  rcases hk2 with q | q
                  · exact q
                  · omega
                clear hd hk2
                go_wp2_with fail
                refine (KT.out hdt).mono ?_
                rintro e w11 ⟨rfl, hw⟩
                obtain rfl := hw.symm
                go_wp2_with fail
                go_meet
                exact ⟨rfl, rfl⟩
              · go_wp2_with fail
                go_meet
                exact ⟨rfl, rfl⟩
            · have hk0 : (0 : Int) < k := by omega
              have hkK : (k : Int) ≤ K := by
                rcases hk1 with q | q
                · exact q
                · exact absurd q h0
              have hng : ¬ K < (k : Int) := by omega
              have hnk : ¬ (k : Int) < 0 := by omega
              by_cases hKk : (k : Int) < K
              · have hdt : d = T := by
                  rcases hk2 with q | q
                  · exact q
                  · omega
                clear hd hk2 hk1
                go_wp2_with fail
                refine (KT.out hdt).mono ?_
                rintro e w11 ⟨rfl, hw⟩
                obtain rfl := hw.symm
                go_wp2_with fail
                go_meet
                exact ⟨rfl, rfl⟩
              · clear hd hk2 hk1
                go_wp2_with fail
                go_meet
                exact ⟨rfl, rfl⟩
          case rest =>
          obtain ⟨rfl, hwc⟩ := hcut
          rw [hwc]
          clear hwc hk1 hk2 y1 hd
          go_wp2_with fail
          go_loopw [16, 17] (fun t16 t17 wr => ∃ q : Nat, q ≤ vn ∧ t16 = .int .i64 ((totD (s2.has.take q) : Nat) : Int) ∧ t17 = .int .i64 (q : Int) ∧ Below w10.heap.size w10 wr) (fun _ t17 _ => (vn - intOf t17).toNat)
          case atStart => exact ⟨0, Nat.zero_le _, rfl, rfl, Below.refl _ _⟩
          case round =>
            obtain ⟨q, hq, rfl, rfl, hwq⟩ := hrel
            by_cases hql : q < vn
            · have hqi : (q : Int) < vn := by omega
              obtain ⟨ln, hln⟩ : ∃ l, l = (s2.has.getD q []).length := ⟨_, rfl⟩
              have KH : Hid (Calls Tryz.prog 13 #[.pointer (some ⟨sb, 0, none⟩), .int .i64 (q : Int)] wr fun e w' => ∃ xa xc, e = .returned (.slice xa ln xc) ∧ IsInts w' (.slice xa ln xc) (s2.has.getD q []) ∧ Below wr.heap.size wr w') := by
                have := HW.out.has wr d m2 s2 (q : Int) (HA2.out.1.below hwq)
                rw [if_pos (by omega), show setAt s2.has (q : Int) = s2.has.getD q [] by unfold setAt; rw [Int.toNat_natCast], ← hln] at this
                exact this
              have htd := totD_take s2.has q (by rw [HFC.out.1]; exact hql)
              have htl := totD_take_le s2.has q
              have hl2 := (HFC.out.2.2 q hql).2.1
              rw [HFC.out.2.1] at htl
              obtain ⟨T1, hT1⟩ : ∃ t, t = totD (s2.has.take q) := ⟨_, rfl⟩
              rw [← hT1, ← hln] at htd
              rw [← hT1] at htl ⊢
              rw [← hln] at hl2
              have HTD : Hid (totD (s2.has.take (q + 1)) = T1 + ln ∧ ln = (s2.has.getD q []).length) := ⟨htd, hln⟩
              have HWQ : Hid (Below w10.heap.size w10 wr) := hwq
              clear htd hT1 hln hwq
              go_wp2_with fail
              refine KH.out.mono ?_
              rintro e w11 ⟨xa, xc, rfl, hv, hb11⟩
              have KE : Hid (Calls Tryz.prog 23 #[.slice xa ln xc] w11 fun e w' => e = .returned (.int .i64 0) ∧ Below w11.heap.size w11 w') := refErr_ok (s2.has.getD q []) _ w11 (by rw [← HTD.out.2]; omega) hv (HFC.out.2.2 q hql).1.1 (HFC.out.2.2 q hql).1.2
              have H11 : Hid (IsInts w11 (.slice xa ln xc) (s2.has.getD q []) ∧ Below w10.heap.size w10 w11) := ⟨hv, bthenX HWQ.out hb11⟩
              clear hv hb11 KH
              go_wp2_with fail
              refine KE.out.mono ?_
              rintro e w12 ⟨rfl, hb12⟩
              have h12 := bthenX H11.out.2 hb12
              obtain ⟨lb, lo, ua, uc, rfl, x1, x2⟩ := HR.out w12 (HF.out w10 d m2 s2 HA2.out.1 HA2.out.2 w12 h12).1 q hql
              have KWi : Hid (Calls Tryz.prog 24 #[.slice xa ln xc, .slice ua (L.getD q []).length uc] w12 fun e w' => e = .returned (.bool true) ∧ Below w12.heap.size w12 w') := by
                have hll := HW.out.num.2.2.2.2 q hql
                have := within_any (s2.has.getD q []) (L.getD q []) _ _ w12 (by rw [← HTD.out.2]; omega) (by omega) (H11.out.1.below hb12) x2
                rw [(HFC.out.2.2 q hql).2.2] at this
                exact this
              have H12 : Hid (Below w10.heap.size w10 w12) := h12
              obtain ⟨ll, hll⟩ : ∃ z, z = (L.getD q []).length := ⟨_, rfl⟩
              rw [← hll] at x1 KWi
              clear hb12 KE x2 h12 hll
              go_wp2_with fail
              refine KWi.out.mono ?_
              rintro e w13 ⟨rfl, hb13⟩
              have H13 : Hid (Below w10.heap.size w10 w13) := bthenX H12.out hb13
              clear hb13 KWi x1
              go_wp2_with fail
              go_roundw
              case rel => exact ⟨q + 1, hql, by rw [HTD.out.1]; go_num, by go_num, H13.out⟩
              case measure => simp [intOf]; omega
            · have hqn : q = vn := by omega
              have e0 : totD (s2.has.take q) = d := by rw [hqn, ← HFC.out.1, List.take_length]; exact HFC.out.2.1
              rw [e0]
              have KDq : Hid (Calls Tryz.prog 14 #[.pointer (some ⟨sb, 0, none⟩)] wr fun e w' => e = .returned (.bool (decide (d = T))) ∧ w' = wr) := HW.out.done wr d m2 s2 (HA2.out.1.below hwq)
              have HAq : Hid (StepAt P w4 wr B sb L d m2 s2 ∧ GapAt w9 W7.heap.size wr sb m2 s2) := ⟨HA2.out.1.below hwq, HA2.out.2.below hwq⟩
              clear hwq e0 hqn hq
              by_cases hdt : d = T
              · rw [decide_eq_true hdt] at KDq
                have hdi : (d : Int) = T := by omega
                go_wp2_with fail
                refine KDq.out.mono ?_
                rintro e w14 ⟨rfl, hw⟩
                obtain rfl := hw.symm
                clear KDq
                go_wp2_with fail
                go_roundw
                case rel => exact ⟨i + 1, d, m2, s2, hlt, by rw [hdt], by go_num, HAq.out.1, HAq.out.2⟩
                case measure => simp [intOf]; omega
              · rw [decide_eq_false hdt] at KDq
                have hdi : ¬ (d : Int) = T := by omega
                go_wp2_with fail
                refine KDq.out.mono ?_
                rintro e w14 ⟨rfl, hw⟩
                obtain rfl := hw.symm
                clear KDq
                go_wp2_with fail
                go_roundw
                case rel => exact ⟨i + 1, d, m2, s2, hlt, rfl, by go_num, HAq.out.1, HAq.out.2⟩
                case measure => simp [intOf]; omega
        · have KRu : Hid _ := HW.out.run wr c m1 s1 hat hgap
          clear hat hgap hi
          go_wp2_with fail
          refine Calls.mono KRu.out ?_
          rintro e w20 ⟨k, m2, s2, rfl, hck, hsL, hat2, hgap2⟩
          have hnum : (c : Int) + k = T ∧ c ≤ 60000 ∧ k ≤ 60000 := by omega
          have HA2 : Hid (StepAt P w4 w20 B sb L T m2 s2 ∧ GapAt w9 W7.heap.size w20 sb m2 s2 ∧ s2.has = L) := ⟨hat2, hgap2, hsL⟩
          clear KRu hat2 hgap2 hsL hck
          go_wp2_with fail
          go_loopw [19] (fun t19 wr => ∃ q : Nat, q ≤ vn ∧ t19 = .int .i64 (q : Int) ∧ Below w20.heap.size w20 wr) (fun t19 _ => (vn - intOf t19).toNat)
          case atStart => exact ⟨0, Nat.zero_le _, rfl, Below.refl _ _⟩
          case round =>
            obtain ⟨q, hq, rfl, hwq⟩ := hrel
            by_cases hql : q < vn
            · have hqi : (q : Int) < vn := by omega
              obtain ⟨lb, lo, ua, uc, rfl, x1, x2⟩ := HR.out wr (HF.out w20 T m2 s2 HA2.out.1 HA2.out.2.1 wr hwq).1 q hql
              obtain ⟨ln, hln⟩ : ∃ l, l = (L.getD q []).length := ⟨_, rfl⟩
              have hl2 := HW.out.num.2.2.2.2 q hql
              rw [← hln] at x1 x2
              have KH : Hid (∀ wx, Below wr.heap.size wr wx → Calls Tryz.prog 13 #[.pointer (some ⟨sb, 0, none⟩), .int .i64 (q : Int)] wx fun e w' => ∃ xa xc, e = .returned (.slice xa ln xc) ∧ IsInts w' (.slice xa ln xc) (L.getD q []) ∧ Below wr.heap.size wr w') := fun wx hx => by
                have hbw := bthenX hwq hx
                refine (HW.out.has wx T m2 s2 (q : Int) (HA2.out.1.below hbw)).mono ?_
                rintro e w' ⟨xa, xc, rfl, hv, hb⟩
                rw [if_pos (by omega), HA2.out.2.2, show setAt L (q : Int) = L.getD q [] by unfold setAt; rw [Int.toNat_natCast], ← hln] at hv
                rw [if_pos (by omega), HA2.out.2.2, show setAt L (q : Int) = L.getD q [] by unfold setAt; rw [Int.toNat_natCast], ← hln]
                exact ⟨xa, xc, rfl, hv, bthenX hx hb⟩
              have KI : Hid (∀ wx xa xc, Below wr.heap.size wr wx → IsInts wx (.slice xa ln xc) (L.getD q []) → Calls Tryz.prog 12 #[.slice xa ln xc, .slice ua ln uc] wx fun e w' => e = .returned (.bool true) ∧ Below wr.heap.size wr w') := fun wx xa xc hx hv => by
                refine (sameInts_true (L.getD q []) _ _ wx (by omega) hv (x2.below hx)).mono ?_
                rintro e w' ⟨rfl, hb⟩
                exact ⟨rfl, bthenX hx hb⟩
              have HWQ : Hid (Below w20.heap.size w20 wr) := hwq
              clear x2 hln hl2 hwq
              go_upto_region 38 with fail
              go_region_held3 (fun wx => Below wr.heap.size wr wx ∧ wx.cell? ⟨lb, lo + q, none⟩ = some (.slice ua ln uc))
                ((go_split_ands; refine keep1X x1 ?_; repeat (with_reducible first | assumption | exact Below.refl _ _ | refine Below.drew ?_)))
                (first
                  | (go_at_call 13; refine (KH.out _ ?_).mono ?_; (go_split_ands; assumption); rintro e w21 ⟨xa, xc, rfl, hv21, hb21⟩)
                  | (go_at_call 12; refine (KI.out _ _ _ ?_ ?_).mono ?_; (go_split_ands; assumption); (first | exact hv21 | exact hv21.below (Below.refl _ _).drew); rintro e w22 ⟨rfl, hb22⟩))
              all_goals
                have HB22 : Hid (Below wr.heap.size wr w22) := hb22
                clear hb21 hv21 hb22 KH KI
                go_wp2_with fail
                go_roundw
                case rel => exact ⟨q + 1, hql, by go_num, bthenX HWQ.out HB22.out⟩
                case measure => simp [intOf]; omega
            · have KD : Hid (Calls Tryz.prog 14 #[.pointer (some ⟨sb, 0, none⟩)] wr fun e w' => e = .returned (.bool true) ∧ w' = wr) := by
                have := HW.out.done wr T m2 s2 (HA2.out.1.below hwq)
                rw [decide_eq_true rfl] at this
                exact this
              have KR2 : Hid _ := HW.out.run wr T m2 s2 (HA2.out.1.below hwq) (HA2.out.2.1.below hwq)
              clear hwq hq
              go_wp2_with fail
              refine KD.out.mono ?_
              rintro e w23 ⟨rfl, hw⟩
              obtain rfl := hw.symm
              clear KD
              go_wp2_with fail
              refine Calls.mono KR2.out ?_
              rintro e w24 ⟨k3, m3, s3, rfl, hk3, hs3, hat3, hgap3⟩
              have ek3 : ((k3 : Nat) : Int) = 0 := by omega
              rw [ek3]
              have HA3 : Hid (StepAt P w4 w24 B sb L T m3 s3 ∧ s3.has = L ∧ Below w.heap.size w w24) := ⟨hat3, hs3, (HF.out w24 T m3 s3 hat3 hgap3 w24 (Below.refl _ _)).2.2⟩
              have KM : Hid (Calls Tryz.prog 13 #[.pointer (some ⟨sb, 0, none⟩), .int .i64 (-1)] w24 fun e w' => ∃ xa xc, e = .returned (.slice xa 0 xc) ∧ Below w24.heap.size w24 w') := by
                refine (HW.out.has w24 T m3 s3 (-1) hat3).mono ?_
                rintro e w' ⟨xa, xc, rfl, -, hb⟩
                exact ⟨xa, xc, rfl, hb⟩
              have KV : Hid (∀ wx, Below w24.heap.size w24 wx → Calls Tryz.prog 13 #[.pointer (some ⟨sb, 0, none⟩), .int .i64 (vn : Int)] wx fun e w' => ∃ xa xc, e = .returned (.slice xa 0 xc) ∧ Below wx.heap.size wx w') := fun wx hx => by
                refine (HW.out.has wx T m3 s3 (vn : Int) (hat3.below hx)).mono ?_
                rintro e w' ⟨xa, xc, rfl, -, hb⟩
                have e1 : setAt s3.has (vn : Int) = [] := by
                  unfold setAt
                  rw [Int.toNat_natCast, hs3]
                  exact getD_none L vn (by rw [HW.out.num.2.2.1]; exact Nat.lt_irrefl _)
                rw [if_pos (by omega), e1]
                exact ⟨xa, xc, rfl, hb⟩
              clear KR2 ek3 hk3 hs3 hat3 hgap3
              go_wp2_with fail
              refine KM.out.mono ?_
              rintro e w25 ⟨xa, xc, rfl, hb25⟩
              clear KM
              have KV25 : Hid _ := KV.out w25 hb25
              have H25 : Hid (Below w24.heap.size w24 w25) := hb25
              clear hb25 KV
              go_wp2_with fail
              refine Calls.mono KV25.out ?_
              rintro e w26 ⟨xa', xc', rfl, hb26⟩
              have HBF : Hid (Below w.heap.size w w26) := bthenX HA3.out.2.2 (bthenX H25.out hb26)
              clear KV25 hb26
              go_wp2_with fail
              go_ret
              exact ⟨rfl, HBF.out⟩
end Go.Proofs.YtglonlpfnllocaaGreatDoor

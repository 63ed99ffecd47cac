/-
  The closed fact of a solver: two objects come.
-/
import Derived.Test.YtglonlpfnllocaaGreatDoorWHM
import Derived.Test.YtglonlpfnllocaaGreatDoorFP0M
import Derived.Test.YtglonlpfnllocaaGreatDoorV5M
import Derived.Deep.RegionHeld3
namespace Go.Proofs.YtglonlpfnllocaaGreatDoor
open Go.RowKit Go.Extern.Stop Go.Stop Go.Extern Go.Maps

/-- A solver that stands as New leaves it, in a memory ahead of which nothing changed. -/
structure SolAt (P : ProgD) (w0 w : World) (B sb : Nat) (m : SolB) (s : SolD) : Prop where
  sol : SolM w B sb P.funs m s
  fk : FunsK w sb P.funs m s
  pk : ProgK w sb m s P
  kn : m.kn ≤ 1000000000000000000
  en : m.en ≤ 1000000000000
  own : ∀ k, OwnB sb m s k → w0.heap.size ≤ k
  hb : Below w0.heap.size w0 w
theorem SolAt.below {P : ProgD} {w0 w w' : World} {B sb : Nat} {m : SolB} {s : SolD} (h : SolAt P w0 w B sb m s) (hb : Below w.heap.size w w') : SolAt P w0 w' B sb m s :=
  ⟨h.sol.below hb, h.fk.step (SolStep.refl hb sb m s).toR, h.pk.step (SolStep.refl hb sb m s).toR, h.kn, h.en, h.own, h.hb.trans (hb.mono h.hb.size)⟩
theorem newA_any (a : Nat → Addr) (P : ProgD) (v1 v2 v3 : Value) (w : World) (hS : SmallP P) (h : IsProg w v1 v2 v3 P) (hE : Errs5 w a) :
    Calls Tryz.prog 8 #[.agg #[v1, v2, v3]] w fun e w' =>
      (∃ t x, e = .returned (.tuple #[.pointer none, .iface t (.pointer (some x))]) ∧ (checkE P).isNone = false ∧ ErrV w' a (checkE P) (.iface t (.pointer (some x))) ∧ Below w.heap.size w w') ∨
      (checkE P = none ∧ ∃ (B sb : Nat) (m : SolB), e = .returned (.tuple #[.pointer (some ⟨sb, 0, none⟩), .nilIface]) ∧ SolAt P w w' B sb m (newD P)) := by
  refine (newS_any a P v1 v2 v3 w hS h hE).mono ?_
  rintro e w' (q | ⟨hc, B, sb, m, rfl, q1, q2, q3, q4, q5, -, q7, q8⟩)
  · exact Or.inl q
  · exact Or.inr ⟨hc, B, sb, m, rfl, q1, q2, q3, by omega, by omega, q7, q8⟩
/-- Run, of New's. -/
theorem runA_any {P : ProgD} {w0 w : World} {B sb j : Nat} {m : SolB} (hc : checkE P = none) (hS : SmallP P) (hj : FixK P j) (h : SolAt P w0 w B sb m (newD P)) :
    Calls Tryz.prog 10 #[.pointer (some ⟨sb, 0, none⟩)] w fun e w' => ∃ (m' : SolB) (s' : SolD), e = .returned (.int .i64 (totD (iterD P j))) ∧ s'.due = [] ∧ s'.has = iterD P j ∧ SolM w' B sb P.funs m' s' ∧ (∀ k, OwnB sb m' s' k → w0.heap.size ≤ k) ∧ Below w0.heap.size w0 w' := by
  obtain ⟨r1, r2⟩ := newD_few hc hS hj
  obtain ⟨o1, o2⟩ := newD_ok hc hj
  refine (runW_any hc h.sol h.fk o1 r2 r1 h.kn h.en).mono ?_
  rintro e w' ⟨m', s', rfl, d1, d2, d3, d4⟩
  refine ⟨m', s', ?_, d1, d2, d3, fun k hk => ?_, d4.below h.hb h.own⟩
  · have h0 : totD (emptyD P) = 0 := by
      have := totD_le (emptyD P) 0 fun j _ => by rw [emptyD_at]; exact Nat.le_refl _
      omega
    rw [o2, h0]
    congr 2
  · rcases d4.own k hk with q | q
    · exact h.own k q
    · exact Nat.le_trans h.hb.size q
set_option maxRecDepth 100000 in
set_option maxHeartbeats 8000000 in
theorem solved_any (a : Nat → Addr) (w : World) (hE : Errs5 w a) : Calls Tryz.prog 6 #[] w fun e w' => e = .returned (.bool true) ∧ Below w.heap.size w w' := by
  obtain ⟨W0, hW0⟩ : ∃ W, W = ((w.alloc fVars).alloc fStmts).alloc (fProg w.heap.size) := ⟨_, rfl⟩
  have hB0 : Below w.heap.size w W0 := by rw [hW0]; exact ((below1 w _).alloc (by simp) _).alloc (by simp; omega) _
  have hP : IsProg W0 (.slice (some ⟨w.heap.size, 0, none⟩) 2 2) (.slice none 0 0) (.slice (some ⟨w.heap.size + 1, 0, none⟩) 2 2) progF := by
    rw [hW0]
    exact (progF_is w).below (below1 _ _)
  have K1 : Hid (Calls Tryz.prog 8 #[.agg #[.slice (some ⟨w.heap.size, 0, none⟩) 2 2, .slice none 0 0, .slice (some ⟨w.heap.size + 1, 0, none⟩) 2 2]] W0 fun e w' => ∃ (B sb : Nat) (m : SolB), e = .returned (.tuple #[.pointer (some ⟨sb, 0, none⟩), .nilIface]) ∧ SolAt progF W0 w' B sb m (newD progF)) := by
    refine (newA_any a progF _ _ _ W0 progF_small hP (hE.below hB0)).mono ?_
    rintro e w' (⟨_, _, _, q, -⟩ | ⟨-, q⟩)
    · rw [progF_check] at q; cases q
    · exact q
  have hbox : W0.heap[w.heap.size + 2]? = some (fProg w.heap.size) := by
    have := heap_new ((w.alloc fVars).alloc fStmts) (fProg w.heap.size)
    rw [hW0]; simpa using this
  have b0 : W0.cell? ⟨w.heap.size + 2, 0, none⟩ = some (.slice (some ⟨w.heap.size, 0, none⟩) 2 2) := by rw [Lib.cell_of_heap hbox]; rfl
  have b1 : W0.cell? ⟨w.heap.size + 2, 1, none⟩ = some (.slice none 0 0) := by rw [Lib.cell_of_heap hbox]; rfl
  have b2 : W0.cell? ⟨w.heap.size + 2, 2, none⟩ = some (.slice (some ⟨w.heap.size + 1, 0, none⟩) 2 2) := by rw [Lib.cell_of_heap hbox]; rfl
  clear hbox hP hE
  have HB0 : Hid (Below w.heap.size w W0) := hB0
  clear hB0
  go_enter Tryz.func6, Tryz.ntmps6
  go_upto_region 2 with fail
  rw [← hW0]
  clear hW0
  go_wp2_with fail
  refine K1.out.mono ?_
  rintro e w1 ⟨B, sb, m, rfl, hs⟩
  clear K1
  have K2 : Hid _ := runA_any progF_check progF_small fixF hs
  clear hs b0 b1 b2
  go_wp2_with fail
  refine Calls.mono K2.out ?_
  rintro e w2 ⟨m2, s2, rfl, hd, hh, hm2, ho2, hb2⟩
  have e2 : ((totD (iterD progF 2) : Nat) : Int) = 2 := by rw [iterF2]; rfl
  rw [e2]
  have K3 : Hid (Calls Tryz.prog 14 #[.pointer (some ⟨sb, 0, none⟩)] w2 fun e w' => e = .returned (.bool true) ∧ w' = w2) := by
    have := doneS_any hm2
    rw [decide_eq_true hd] at this
    exact this
  have K4 : Hid (Calls Tryz.prog 13 #[.pointer (some ⟨sb, 0, none⟩), .int .i64 1] w2 fun e w' => ∃ v, e = .returned v ∧ IsInts w' v [1] ∧ Below w2.heap.size w2 w') := by
    have := hasS_any hm2 1 (fun j => by rw [hh, iterF2]; rcases j with _ | _ | j <;> simp [List.getD])
    rw [hh, iterF2] at this
    exact this
  have HB2 : Hid (Below w.heap.size w w2) := HB0.out.trans (hb2.mono HB0.out.size)
  clear K2 e2 hm2 ho2 hb2 hd hh
  go_wp2_with fail
  refine K3.out.mono ?_
  rintro e w3 ⟨rfl, rfl⟩
  clear K3
  go_wp2_with fail
  refine K4.out.mono ?_
  rintro e w4 ⟨v, rfl, hv, hb4⟩
  have K5 : Hid (∀ wx, wx = w4.alloc (.cells #[.int .i64 1] 3) → Calls Tryz.prog 12 #[v, .slice (some ⟨w4.heap.size, 0, none⟩) 1 1] wx fun e w' => e = .returned (.bool true) ∧ Below wx.heap.size wx w') := fun wx hwx => by
    refine sameInts_true [1] _ _ wx (by decide) (hv.below (by rw [hwx]; exact below1 _ _)) ?_
    rw [hwx]
    exact isInts_of_cells rfl (fun j hj => by obtain rfl : j = 0 := (by simpa using hj); simp)
  have HB4 : Hid (Below w.heap.size w w4) := HB2.out.trans (hb4.mono HB2.out.size)
  obtain ⟨va, vn, vc, rfl⟩ : ∃ va vn vc, v = .slice va vn vc := by
    obtain ⟨x, y, e⟩ := isInts_form hv
    exact ⟨x, _, y, e⟩
  clear hv K4 hb4
  go_wp2_with fail
  refine (K5.out _ rfl).mono ?_
  rintro e w5 ⟨rfl, hb5⟩
  have HBF : Hid (Below w.heap.size w w5) := (HB4.out.alloc HB4.out.size _).trans (hb5.mono (by have := HB4.out.size; simp; omega))
  clear K5 hb5
  go_wp2_with fail
  go_ret
  exact ⟨rfl, HBF.out⟩
end Go.Proofs.YtglonlpfnllocaaGreatDoor

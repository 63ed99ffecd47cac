/-
  ruled: the closed fact of a rule, by a contract.
-/
import Derived.Test.YtfajpkdpnpdfkaaGreatDoorCMM
namespace Go.Proofs.YtfajpkdpnpdfkaaGreatDoor
open Go.RowKit Go.Extern.Stop Go.Stop Go.Extern

def progL : ProgD := ⟨[[97], [98]], [], [⟨kCopy, 0, 1, []⟩]⟩
theorem progL_cons : consE progL [[], []] = none := by decide
theorem progL_found : foundD progL [[], []] = [(1, 0)] := by decide
theorem progL_small : SmallP progL := by
  unfold SmallP
  refine ⟨by decide, by decide, by decide, ?_, ?_⟩
  · intro f hf
    cases hf
  · intro s hs
    simp [progL] at hs
    subst hs; decide
abbrev lVars : Obj := .cells #[.string ⟨#[97]⟩, .string ⟨#[98]⟩] 9
abbrev lStmts : Obj := .cells #[.string ⟨#[99, 111, 112, 121]⟩, .int .i64 0, .int .i64 1, .slice none 0 0] 88
abbrev lProg (n : Nat) : Obj := .cells #[.slice (some ⟨n, 0, none⟩) 2 2, .slice none 0 0, .slice (some ⟨n + 1, 0, none⟩) 1 1] 26
abbrev lSets : Obj := .cells #[.slice none 0 0, .slice none 0 0] TSI
theorem progL_is (w : World) : IsProg ((w.alloc lVars).alloc lStmts) (.slice (some ⟨w.heap.size, 0, none⟩) 2 2) (.slice none 0 0) (.slice (some ⟨w.heap.size + 1, 0, none⟩) 1 1) progL := by
  have hb : Below (w.alloc lVars).heap.size (w.alloc lVars) ((w.alloc lVars).alloc lStmts) := below1 _ _
  refine ⟨⟨_, _, rfl, Nat.le_refl _, fun j hj => ⟨_, _, rfl, ?_⟩⟩, ⟨_, _, rfl, Nat.le_refl _, fun j hj => absurd hj (Nat.not_lt_zero _)⟩, ⟨_, _, rfl, Nat.le_refl _, fun j hj => ⟨_, _, rfl, ?_⟩⟩⟩
  · refine cell_keep hb ?_
    match j, hj with
    | 0, _ => simp [progL, S]
    | 1, _ => simp [progL, S]
  · match j, hj with
    | 0, _ => exact ⟨.slice none 0 0, by simp [progL, S, kCopy], by simp [progL], by simp [progL], by simp, IsInts.nil _ _ _, none, 0, rfl, Nat.le_refl _⟩
theorem edgeSet_one {es : List Pair} (h : EdgeSet [(1, 0)] es) : es = [(1, 0)] := by
  have hm : ∀ p, p ∈ es → p = (1, 0) := fun p hp => by
    have := ((h.mem p).1 hp).1
    simpa using this
  have h1 : (1, 0) ∈ es := (h.mem (1, 0)).2 ⟨by simp, by decide⟩
  cases es with
  | nil => cases h1
  | cons p r =>
    have hp := hm p (List.mem_cons_self ..)
    cases r with
    | nil => rw [hp]
    | cons q r2 =>
      exfalso
      have hq := hm q (List.mem_cons_of_mem _ (List.mem_cons_self ..))
      have := (List.pairwise_cons.1 h.up).1 q (List.mem_cons_self ..)
      rw [hp, hq] at this
      exact ltE_irrefl _ this

set_option maxRecDepth 100000 in
set_option maxHeartbeats 8000000 in
theorem ruled_any (a : Nat → Addr) (w : World) (hE : Errs5 w a) (h3 : Three w a) : Calls Tryz.prog 7 #[] w fun e w' => e = .returned (.bool true) ∧ Below w.heap.size w w' := by
  obtain ⟨W0, hW0⟩ : ∃ W, W = ((w.alloc lVars).alloc lStmts).alloc (lProg w.heap.size) := ⟨_, rfl⟩
  obtain ⟨W, hW⟩ : ∃ W, W = W0.alloc lSets := ⟨_, rfl⟩
  have hz0 : W0.heap.size = w.heap.size + 3 := by rw [hW0]; simp
  have hB0 : Below w.heap.size w W0 := by rw [hW0]; exact ((below1 w _).alloc (by simp) _).alloc (by simp; omega) _
  have hBW : Below w.heap.size w W := by rw [hW]; exact hB0.alloc hB0.size _
  have hP : IsProg W (.slice (some ⟨w.heap.size, 0, none⟩) 2 2) (.slice none 0 0) (.slice (some ⟨w.heap.size + 1, 0, none⟩) 1 1) progL := by
    rw [hW]
    refine IsProg.below ?_ (below1 W0 _)
    rw [hW0]
    exact (progL_is w).below (below1 _ _)
  have hI : IsSets W (.slice (some ⟨W0.heap.size, 0, none⟩) 2 2) [[], []] := by
    rw [hW]
    refine ⟨_, _, rfl, fun j hj => ?_⟩
    match j, hj with
    | 0, _ => exact ⟨_, _, .slice none 0 0, rfl, by simp, Or.inl ⟨rfl, _, _, rfl⟩⟩
    | 1, _ => exact ⟨_, _, .slice none 0 0, rfl, by simp, Or.inl ⟨rfl, _, _, rfl⟩⟩
  have K1 : Hid (Calls Tryz.prog 18 #[.agg #[.slice (some ⟨w.heap.size, 0, none⟩) 2 2, .slice none 0 0, .slice (some ⟨w.heap.size + 1, 0, none⟩) 1 1], .slice (some ⟨W0.heap.size, 0, none⟩) 2 2] W fun e w' => ∃ g c, e = .returned (.tuple #[.slice (some ⟨g, 0, none⟩) 1 c, .nilIface]) ∧ w'.cell? ⟨g, 0, none⟩ = some (.int .i64 1) ∧ w'.cell? ⟨g, 1, none⟩ = some (.int .i64 0) ∧ Below W.heap.size W w') := by
    refine (edges_any a progL _ _ _ _ [[], []] W progL_small hP hI (hE.below hBW) (h3.below hBW) (by decide) (fun j hj => ?_)).mono ?_
    · match j, hj with
      | 0, _ => decide
      | 1, _ => decide
    · rintro e w' ⟨v, ev, rfl, hcase, hb⟩
      rcases hcase with ⟨_, rfl, es, q1, q2⟩ | ⟨q, _⟩
      · rw [progL_found] at q2
        have := edgeSet_one q2
        subst this
        obtain ⟨va, vc, rfl, hc⟩ := q1
        obtain ⟨g, rfl, r0, r1⟩ := hc 0 (by decide)
        exact ⟨g, vc, rfl, r0, r1, hb⟩
      · rw [progL_cons] at q; cases q
  have hbox : W0.heap[w.heap.size + 2]? = some (lProg w.heap.size) := by
    have := heap_new ((w.alloc lVars).alloc lStmts) (lProg w.heap.size)
    rw [hW0]; simpa using this
  have b0 : W0.cell? ⟨w.heap.size + 2, 0, none⟩ = some (.slice (some ⟨w.heap.size, 0, none⟩) 2 2) := by rw [Lib.cell_of_heap hbox]; rfl
  have b1 : W0.cell? ⟨w.heap.size + 2, 1, none⟩ = some (.slice none 0 0) := by rw [Lib.cell_of_heap hbox]; rfl
  have b2 : W0.cell? ⟨w.heap.size + 2, 2, none⟩ = some (.slice (some ⟨w.heap.size + 1, 0, none⟩) 1 1) := by rw [Lib.cell_of_heap hbox]; rfl
  have HEQ := run_eqInE (1, 0) (1, 0)
  have HGD := fun op a b => run_guardE op a b (1, 0) (1, 0)
  rw [show eqE (1, 0) (1, 0) = true by decide] at HEQ
  rw [hW] at K1 hBW
  clear hbox hP hI hE hz0 hW h3
  go_enter Tryz.func7, Tryz.ntmps7
  go_upto_region 2 with fail
  rw [← hW0]
  clear hW0
  go_wp2_with (go_at_call 18; refine K1.out.mono ?_; rintro e w1 ⟨g1, c1, rfl, z0, z1, hb⟩)
  go_ret
  exact ⟨rfl, hBW.trans (hb.mono hBW.size)⟩
end Go.Proofs.YtfajpkdpnpdfkaaGreatDoor

/-
  Package prog: checkFuns, by a contract.
-/
import Derived.Test.YtimmkenmahagjaaGreatDoorPF
import Derived.Laws.EntriesVeiled
namespace Go.Proofs.YtimmkenmahagjaaGreatDoor
open Go.RowKit Go.Extern.Stop Go.Stop Go.Extern

theorem eg1 : ∀ args w, (callFunc 98 args).run Tryz.prog w = .ok (.enter 98 args) w := enters_of Tryz.func98 (by kernel_rfl) rfl
theorem eg2 : ∀ args w, (callFunc 99 args).run Tryz.prog w = .ok (.enter 99 args) w := enters_of Tryz.func99 (by kernel_rfl) rfl
theorem eg3 : ∀ args w, (callFunc 101 args).run Tryz.prog w = .ok (.enter 101 args) w := enters_of Tryz.func101 (by kernel_rfl) rfl

set_option maxHeartbeats 2000000 in
theorem checkFuns_any (a : Nat → Addr) (P : ProgD) (v1 v2 v3 : Value) (w : World) (hs : SmallP P) (h : IsProg w v1 v2 v3 P) (hE : Errs5 w a) :
    Calls Tryz.prog 73 #[.agg #[v1, v2, v3]] w fun e w' => e = .returned (errV a (funsE P)) ∧ Below w.heap.size w w' := by
  obtain ⟨s1, s2, s3, s4, s5⟩ := hs
  have H2 : Hid (IsFuns w v2 P.funs) := h.funs
  have HE : Hid (Errs5 w a) := hE
  have HS : Hid (∀ f ∈ P.funs, f.params.length ≤ 100000) := s4
  have hlen : P.vars.length = P.vars.length := rfl
  obtain ⟨⟨a1, c1, rfl, _, _⟩, ⟨a2, c2, rfl, _, _⟩, ⟨a3, c3, rfl, _, _⟩⟩ := h
  clear hE s4 s5 s3
  obtain ⟨D1, hD1⟩ : ∃ D, D = P.funs.all (fun f => decide (f.params.length ≤ 3)) := ⟨_, rfl⟩
  obtain ⟨D2, hD2⟩ : ∃ D, D = P.funs.all (fun f => f.params.all (varB P) && varB P f.ret) := ⟨_, rfl⟩
  obtain ⟨D3, hD3⟩ : ∃ D, D = P.funs.all (fun f => !dup f.params) := ⟨_, rfl⟩
  have hr : funsE P = if (!D1) = true then some 8 else if (!D2) = true then some 1 else if (!D3) = true then some 6 else none := by
    unfold funsE; rw [← hD1, ← hD2, ← hD3]
  rw [hr]
  have Q1 : Hid (D1 = P.funs.all (fun f => decide (f.params.length ≤ 3))) := hD1
  have Q2 : Hid (D2 = P.funs.all (fun f => f.params.all (varB P) && varB P f.ret)) := hD2
  have Q3 : Hid (D3 = P.funs.all (fun f => !dup f.params)) := hD3
  clear hr hD1 hD2 hD3 hlen
  obtain ⟨o1, ho1⟩ : ∃ o, o = Obj.cells #[.slice a1 P.vars.length c1, .slice a2 P.funs.length c2, .slice a3 P.stmts.length c3] 26 (0, 0) := ⟨_, rfl⟩
  go_enter Tryz.func73, Tryz.ntmps73
  go_wp2_with fail
  refine (below_any P.vars.length _).mono ?_
  rintro e w1 ⟨rfl, hw⟩
  rw [← ho1] at hw
  have hBa : Below w.heap.size w w1 := by rw [hw]; exact ((Below.refl _ w).alloc (Nat.le_refl _) _).alloc (by simp) _
  have k0 : w1.cell? ⟨w.heap.size + 1, 0, none⟩ = some (.int .i64 (P.vars.length : Int)) := by rw [hw]; simp
  have k1 : w1.cell? ⟨w.heap.size, 1, none⟩ = some (.slice a2 P.funs.length c2) := by rw [hw, ho1]; simp
  have K0 : Hid (w1.cell? ⟨w.heap.size + 1, 0, none⟩ = some (.int .i64 (P.vars.length : Int))) := k0
  have K1 : Hid (w1.cell? ⟨w.heap.size, 1, none⟩ = some (.slice a2 P.funs.length c2)) := k1
  have hk1 : ∀ o, (w1.alloc o).cell? ⟨w.heap.size, 1, none⟩ = some (.slice a2 P.funs.length c2) := fun o => cell_keep ((Below.refl _ w1).alloc (Nat.le_refl _) o) k1
  clear hw k0 k1 ho1
  go_wp2_with fail
  have hB2 : ∀ o, Below w.heap.size w (w1.alloc o) := fun o => hBa.alloc hBa.size o
  refine (allF 98 #[] eg1 (fun f => decide (f.params.length ≤ 3)) P.funs _ _ (by omega) (H2.out.below (hB2 _)) (fun wr f pv hb hmem hi => cf1 f pv wr hi)).mono ?_
  rintro e w2 ⟨rfl, hBb⟩
  have hBw2 : Below w.heap.size w w2 := (hB2 _).trans (hBb.mono (hB2 _).size)
  have m1 : w2.cell? ⟨w.heap.size, 1, none⟩ = some (.slice a2 P.funs.length c2) := cell_keep hBb (hk1 _)
  have M2 : Hid (BelowAt w2 w1.heap.size P.vars.length) := ⟨w.heap.size + 1, cell_keep hBb (by simp), cell_keep hBb (cell_keep ((Below.refl _ w1).alloc (Nat.le_refl _) _) K0.out)⟩
  rw [← Q1.out]
  clear hBb hB2 hk1 K0 K1 hBa
  cases D1 with
  | false =>
    have e8 := (HE.out.below hBw2).c8
    go_wp2_with fail
    go_ret
    exact ⟨rfl, hBw2⟩
  | true =>
    go_wp2_with fail
    refine (allF 99 #[.pointer (some ⟨w1.heap.size, 0, none⟩)] eg2 (fun f => f.params.all (varB P) && varB P f.ret) P.funs _ _ (by omega) (H2.out.below hBw2) (fun wr f pv hb hmem hi => cf2 P.vars.length w1.heap.size f pv wr (by have := HS.out f hmem; omega) hi (M2.out.below hb))).mono ?_
    rintro e w3 ⟨rfl, hBc⟩
    have hBw3 : Below w.heap.size w w3 := hBw2.trans (hBc.mono hBw2.size)
    have m3 := cell_keep hBc m1
    rw [← Q2.out]
    clear hBc m1 M2 hBw2
    cases D2 with
    | false =>
      have e8 := (HE.out.below hBw3).c1
      go_wp2_with fail
      go_ret
      exact ⟨rfl, hBw3⟩
    | true =>
      go_wp2_with fail
      refine (allF 101 #[] eg3 (fun f => !dup f.params) P.funs _ _ (by omega) (H2.out.below hBw3) (fun wr f pv hb hmem hi => cf3 f pv wr (by have := HS.out f hmem; omega) hi)).mono ?_
      rintro e w4 ⟨rfl, hBd⟩
      have hBw4 : Below w.heap.size w w4 := hBw3.trans (hBd.mono hBw3.size)
      rw [← Q3.out]
      clear hBd m3 hBw3
      cases D3 with
      | false =>
        have e8 := (HE.out.below hBw4).c6
        go_wp2_with fail
        go_ret
        exact ⟨rfl, hBw4⟩
      | true =>
        go_wp2_with fail
        go_ret
        exact ⟨rfl, hBw4⟩
end Go.Proofs.YtimmkenmahagjaaGreatDoor

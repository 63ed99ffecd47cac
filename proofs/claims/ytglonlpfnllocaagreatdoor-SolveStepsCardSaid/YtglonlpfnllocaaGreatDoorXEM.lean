/-
  Package prog: funNames, checkFuns, by contracts.
-/
import Derived.Test.YtglonlpfnllocaaGreatDoorPDM
import Derived.Shelf.Abstract
import Derived.Laws.EntriesVeiled
namespace Go.Proofs.YtglonlpfnllocaaGreatDoor
open Go.RowKit Go.Extern.Stop Go.Stop Go.Extern

theorem Tryz.infoString : (Tryz.prog.info? 9).map (fun i => (i.zero, i.size, i.bytes)) = some (some (.string ⟨#[]⟩), 1, 16) := by kernel_rfl
theorem make_strings (n : Nat) (hn : n ≤ 1000000) (w : World) : (Instr.makeSlice 22 (.int .i64 (n : Int)) (.int .i64 (n : Int))).run Tryz.prog w = .ok (.slice (some ⟨w.heap.size, 0, none⟩) n n) (w.alloc (.cells (madeCells #[.string ⟨#[]⟩] n) 9)) :=
  Go.run_make_row' (P := Tryz.prog) 22 9 (.string ⟨#[]⟩) 16 Tryz.underlying22 Tryz.infoString rfl .i64 .i64 n (by omega) (by omega) w

/-- So far k texts are laid. -/
def laidS (ss : List Bs) (k : Nat) (j : Nat) : Value := if j < k then .string (S (ss.getD j [])) else .string ⟨#[]⟩

theorem below1 (w : World) (o : Obj) : Below w.heap.size w (w.alloc o) := (Below.refl _ w).alloc (Nat.le_refl _) _
theorem sub_below {w w1 : World} {b : Nat} {o : Obj} (hB : Below b w w1) (hb : b ≤ w1.heap.size) : Below b w (w1.alloc o) := hB.alloc hb _

set_option maxHeartbeats 2000000 in
theorem funNames_any (P : ProgD) (v1 v2 v3 : Value) (w : World) (hm : P.funs.length ≤ 1000000) (h : IsProg w v1 v2 v3 P) :
    Calls Tryz.prog 35 #[.agg #[v1, v2, v3]] w fun e w' => ∃ v', e = .returned v' ∧ IsStrs w' v' (fnames P) ∧ Below w.heap.size w w' := by
  obtain ⟨⟨a1, c1, rfl, _, _⟩, ⟨a2, c2, rfl, hcp, hc⟩, ⟨a3, c3, rfl, _, _⟩⟩ := h
  have HC : Hid (∀ j, j < P.funs.length → ∃ b o, a2 = some ⟨b, o, none⟩ ∧ FunAt w b (o + j * 3) (P.funs.getD j default)) := hc
  clear hc
  have hmk := make_strings P.funs.length hm
  generalize hn : P.funs.length = n at *
  have HN : Hid (P.funs.length = n) := hn
  clear hn
  go_enter Tryz.func35, Tryz.ntmps35
  go_wp2_with fail
  clear hmk
  go_loopw [13] (fun t wr => ∃ k : Nat, k ≤ n ∧ t = .int .i64 k ∧ wr.rowIs (w.heap.size + 1) 9 n (laidS (fnames P) k) ∧ Below w.heap.size w wr) (fun t _ => (n - intOf t).toNat)
  case atStart =>
    refine ⟨0, Nat.zero_le _, rfl, ?_, ((Below.refl _ w).alloc (Nat.le_refl _) _).alloc (by simp) _⟩
    have := World.rowIs_made (w.alloc (.cells #[.slice a1 P.vars.length c1, .slice a2 n c2, .slice a3 P.stmts.length c3] 26)) (.string ⟨#[]⟩) n 9
    rw [World.size_alloc] at this
    refine (this.congr fun i hi => ?_)
    unfold laidS
    rw [if_neg (Nat.not_lt_zero _)]
  case round =>
    obtain ⟨k, hk, rfl, hrow, hB⟩ := hrel
    by_cases hlt : k < n
    · obtain ⟨b, o, rfl, e0⟩ := HC.out k hlt
      have hnm : (fnames P).getD k [] = (P.funs.getD k default).name := by
        have : k < P.funs.length := by rw [HN.out]; exact hlt
        simp [fnames, List.getD, this]
      obtain ⟨z, hze⟩ : ∃ z, z = P.funs.getD k default := ⟨_, rfl⟩
      rw [← hze] at e0 hnm
      clear hze
      obtain ⟨pv, c1', c2', hi, c3'⟩ := e0.below hB
      obtain ⟨pa, pc, rfl, _⟩ := hi.2
      have hfz := fun o => (hrow.alloc o).frozen k
      have hcl := fun o => (hrow.alloc o).cell hlt
      have HR : Hid (wr.rowIs (w.heap.size + 1) 9 n (laidS (fnames P) k)) := hrow
      have HZ : Hid ((fnames P).getD k [] = z.name) := hnm
      clear e0 hi hrow hnm
      go_wp2_with fail
      go_roundw
      case rel =>
        refine ⟨k + 1, hlt, by go_num, ?_, ?_⟩
        · refine ((HR.out.alloc _).set k _).congr fun i hi => ?_
          unfold laidS
          by_cases e : i = k
          · rw [if_pos e, if_pos (by omega), e, HZ.out]
          · rw [if_neg e]
            by_cases g : i < k
            · rw [if_pos g, if_pos (by omega)]
            · rw [if_neg g, if_neg (by omega)]
        · exact (hB.alloc hB.size _).setCell (by simp) _
      case measure => simp [intOf]; omega
    · have hkn : k = n := by omega
      subst hkn
      have HR : Hid (wr.rowIs (w.heap.size + 1) 9 k (laidS (fnames P) k)) := hrow
      clear hrow
      go_wp2_with fail
      go_ret
      refine ⟨_, rfl, ⟨some ⟨w.heap.size + 1, 0, none⟩, k, ?_, ?_, fun j hj => ⟨w.heap.size + 1, 0, rfl, ?_⟩⟩, hB⟩
      · have : (fnames P).length = k := by unfold fnames; rw [List.length_map]; exact HN.out
        rw [this]; rfl
      · have : (fnames P).length = k := by unfold fnames; rw [List.length_map]; exact HN.out
        omega
      · have hj' : j < k := by
          have : (fnames P).length = k := by unfold fnames; rw [List.length_map]; exact HN.out
          omega
        rw [Nat.zero_add, HR.out.cell hj']
        unfold laidS
        rw [if_pos hj']
end Go.Proofs.YtglonlpfnllocaaGreatDoor

/-
  Package prog: checkFuns, by a contract.
-/
namespace Go.Proofs.YtglonlpfnllocaaGreatDoor
open Go.RowKit Go.Extern.Stop Go.Stop Go.Extern

theorem cf1 (f : FunD) (pv : Value) (w : World) (h : IsCap w pv f.params) :
    Calls Tryz.prog 73 #[.agg #[.string (S f.name), pv, .int .i64 f.ret]] w fun e w' => e = .returned (.bool (decide (f.params.length ≤ 3))) ∧ Below w.heap.size w w' := by
  obtain ⟨_, a, c, rfl, _⟩ := h
  generalize f.params.length = n at *
  by_cases h3 : (n : Int) ≤ 3
  · have e : decide (n ≤ 3) = true := decide_eq_true (by omega)
    rw [e]; clear e
    go_enter Tryz.func73, Tryz.ntmps73
    go_wp2
    go_ret
    exact ⟨rfl, (Below.refl _ w).alloc (Nat.le_refl _) _⟩
  · have e : decide (n ≤ 3) = false := decide_eq_false (by omega)
    rw [e]; clear e
    go_enter Tryz.func73, Tryz.ntmps73
    go_wp2
    go_ret
    exact ⟨rfl, (Below.refl _ w).alloc (Nat.le_refl _) _⟩
/-- The cell that holds below's function, and the number that it knows. -/
def BelowAt (w : World) (fb : Nat) (n : Nat) : Prop := ∃ nb, w.cell? ⟨fb, 0, none⟩ = some (.func (Fn.func 99) #[] #[.pointer (some ⟨nb, 0, none⟩)]) ∧ w.cell? ⟨nb, 0, none⟩ = some (.int .i64 (n : Int))
theorem BelowAt.below {w w' : World} {fb n : Nat} (h : BelowAt w fb n) (hb : Below w.heap.size w w') : BelowAt w' fb n := by
  obtain ⟨nb, h1, h2⟩ := h
  exact ⟨nb, cell_keep hb h1, cell_keep hb h2⟩
set_option maxHeartbeats 1000000 in
theorem cf2 (n fb : Nat) (f : FunD) (pv : Value) (w : World) (hm : f.params.length ≤ 1000000) (h : IsCap w pv f.params) (hn : BelowAt w fb n) :
    Calls Tryz.prog 74 #[.agg #[.string (S f.name), pv, .int .i64 f.ret], .pointer (some ⟨fb, 0, none⟩)] w fun e w' => e = .returned (.bool ((f.params.all fun k => decide (0 ≤ k) && decide (k < (n : Int))) && (decide (0 ≤ f.ret) && decide (f.ret < (n : Int))))) ∧ Below w.heap.size w w' := by
  have H : Hid (IsCap w pv f.params) := h
  obtain ⟨_, a, c, rfl, _⟩ := h
  obtain ⟨nb, h1, h2⟩ := hn
  have HN : Hid (w.cell? ⟨nb, 0, none⟩ = some (.int .i64 (n : Int))) := h2
  have hlt := lt_of_cell h1
  have hB0 := fun o => (Below.refl w.heap.size w).alloc (Nat.le_refl _) o
  have h1' := fun o => cell_keep (hB0 o) h1
  have H1 : Hid (w.cell? ⟨fb, 0, none⟩ = some (.func (Fn.func 99) #[] #[.pointer (some ⟨nb, 0, none⟩)])) := h1
  clear h1 h2
  obtain ⟨B1, hB1e⟩ : ∃ B, B = (f.params.all fun k => decide (0 ≤ k) && decide (k < (n : Int))) := ⟨_, rfl⟩
  obtain ⟨B2, hB2e⟩ : ∃ B, B = (decide (0 ≤ f.ret) && decide (f.ret < (n : Int))) := ⟨_, rfl⟩
  rw [← hB1e, ← hB2e]
  have Q1 : Hid (B1 = (f.params.all fun k => decide (0 ≤ k) && decide (k < (n : Int)))) := hB1e
  have Q2 : Hid (B2 = (decide (0 ≤ f.ret) && decide (f.ret < (n : Int)))) := hB2e
  clear hB1e hB2e
  go_enter Tryz.func74, Tryz.ntmps74
  go_wp2_with fail
  refine (allI n f.params _ nb _ hm (H.out.1.below (hB0 _)) (cell_keep (hB0 _) HN.out)).mono ?_
  rintro e w1 ⟨rfl, hB1⟩
  have hBw : Below w.heap.size w w1 := (hB0 _).trans (hB1.mono (by simp))
  have c1 : w1.cell? ⟨fb, 0, none⟩ = some (.func (Fn.func 99) #[] #[.pointer (some ⟨nb, 0, none⟩)]) := cell_keep hBw H1.out
  have c2 : w1.cell? ⟨w.heap.size, 2, none⟩ = some (.int .i64 f.ret) := cell_keep hB1 (by simp)
  rw [← Q1.out]
  clear h1' hB0 hB1
  cases B1 with
  | true =>
    go_wp2_with fail
    refine (below1_any n f.ret nb w1 (cell_keep hBw HN.out)).mono ?_
    rintro e w2 ⟨rfl, hw⟩
    obtain rfl := hw.symm
    rw [← Q2.out]
    clear c1 c2
    go_wp2_with fail
    go_ret
    exact ⟨rfl, hBw⟩
  | false =>
    go_wp2_with fail
    go_ret
    exact ⟨rfl, hBw⟩
theorem cf3 (f : FunD) (pv : Value) (w : World) (hm : f.params.length ≤ 1000000) (h : IsCap w pv f.params) :
    Calls Tryz.prog 76 #[.agg #[.string (S f.name), pv, .int .i64 f.ret]] w fun e w' => e = .returned (.bool (!dup f.params)) ∧ Below w.heap.size w w' := by
  have H : Hid (IsCap w pv f.params) := h
  obtain ⟨_, a, c, rfl, _⟩ := h
  have hB0 := fun o => (Below.refl w.heap.size w).alloc (Nat.le_refl _) o
  obtain ⟨B1, hB1e⟩ : ∃ B, B = dup f.params := ⟨_, rfl⟩
  rw [← hB1e]
  have Q1 : Hid (B1 = dup f.params) := hB1e
  clear hB1e
  go_enter Tryz.func76, Tryz.ntmps76
  go_wp2_with fail
  refine (twiceI f.params _ _ hm (H.out.below (hB0 _))).mono ?_
  rintro e w1 ⟨rfl, hw⟩
  have hBw : Below w.heap.size w w1 := by rw [hw]; exact hB0 _
  rw [← Q1.out]
  clear hB0 hw
  go_wp2_with fail
  go_ret
  exact ⟨rfl, hBw⟩

/-- The lists of a program are no longer than this. -/
def SmallP (P : ProgD) : Prop := P.vars.length ≤ 100000 ∧ P.funs.length ≤ 100000 ∧ P.stmts.length ≤ 100000 ∧ (∀ f ∈ P.funs, f.params.length ≤ 100000) ∧ (∀ s ∈ P.stmts, s.args.length ≤ 100000)
/-- No name is too long for a number. -/
def SmallN (P : ProgD) : Prop := (∀ v ∈ P.vars, v.length ≤ 1000000) ∧ (∀ f ∈ P.funs, f.name.length ≤ 1000000)

theorem all_congr_mem {α : Type} (l : List α) (p q : α → Bool) (h : ∀ x ∈ l, p x = q x) : l.all p = l.all q := by
  induction l with
  | nil => rfl
  | cons x r ih => rw [List.all_cons, List.all_cons, h x (List.mem_cons_self ..), ih (fun y hy => h y (List.mem_cons_of_mem _ hy))]
end Go.Proofs.YtglonlpfnllocaaGreatDoor

/-
  Package prog: checkFuns, by a contract.
-/
namespace Go.Proofs.YtglonlpfnllocaaGreatDoor
open Go.RowKit Go.Extern.Stop Go.Stop Go.Extern

theorem eg1 : ∀ args w, (callFunc 73 args).run Tryz.prog w = .ok (.enter 73 args) w := enters_of Tryz.func73 (by kernel_rfl) rfl
theorem eg2 : ∀ args w, (callFunc 74 args).run Tryz.prog w = .ok (.enter 74 args) w := enters_of Tryz.func74 (by kernel_rfl) rfl
theorem eg3 : ∀ args w, (callFunc 76 args).run Tryz.prog w = .ok (.enter 76 args) w := enters_of Tryz.func76 (by kernel_rfl) rfl

set_option maxHeartbeats 2000000 in
theorem checkFuns_any (a : Nat → Addr) (P : ProgD) (v1 v2 v3 : Value) (w : World) (hs : SmallP P) (h : IsProg w v1 v2 v3 P) (hE : Errs5 w a) :
    Calls Tryz.prog 36 #[.agg #[v1, v2, v3]] w fun e w' => e = .returned (errV a (funsE P)) ∧ Below w.heap.size w w' := by
  obtain ⟨s1, s2, s3, s4, s5⟩ := hs
  have H2 : Hid (IsFuns w v2 P.funs) := h.funs
  have HE : Hid (Errs5 w a) := hE
  have HS : Hid (∀ f ∈ P.funs, f.params.length ≤ 100000) := s4
  have hlen : P.vars.length = P.vars.length := rfl
  obtain ⟨⟨a1, c1, rfl, _, _⟩, ⟨a2, c2, rfl, _, _⟩, ⟨a3, c3, rfl, _, _⟩⟩ := h
  clear hE s4 s5 s3
  obtain ⟨D1, hD1⟩ : ∃ D, D = P.funs.all (fun f => decide (f.params.length ≤ 3)) := ⟨_, rfl⟩
  obtain ⟨D2, hD2⟩ : ∃ D, D = P.funs.all (fun f => f.params.all (varB P) && varB P f.ret) := ⟨_, rfl⟩
  obtain ⟨D3, hD3⟩ : ∃ D, D = P.funs.all (fun f => !dup f.params) := ⟨_, rfl⟩
  have hr : funsE P = if (!D1) = true then some 8 else if (!D2) = true then some 1 else if (!D3) = true then some 6 else none := by
    unfold funsE; rw [← hD1, ← hD2, ← hD3]
  rw [hr]
  have Q1 : Hid (D1 = P.funs.all (fun f => decide (f.params.length ≤ 3))) := hD1
  have Q2 : Hid (D2 = P.funs.all (fun f => f.params.all (varB P) && varB P f.ret)) := hD2
  have Q3 : Hid (D3 = P.funs.all (fun f => !dup f.params)) := hD3
  clear hr hD1 hD2 hD3 hlen
  obtain ⟨o1, ho1⟩ : ∃ o, o = Obj.cells #[.slice a1 P.vars.length c1, .slice a2 P.funs.length c2, .slice a3 P.stmts.length c3] 26 (0, 0) := ⟨_, rfl⟩
  go_enter Tryz.func36, Tryz.ntmps36
  go_wp2_with fail
  refine (below_any P.vars.length _).mono ?_
  rintro e w1 ⟨rfl, hw⟩
  rw [← ho1] at hw
  have hBa : Below w.heap.size w w1 := by rw [hw]; exact ((Below.refl _ w).alloc (Nat.le_refl _) _).alloc (by simp) _
  have k0 : w1.cell? ⟨w.heap.size + 1, 0, none⟩ = some (.int .i64 (P.vars.length : Int)) := by rw [hw]; simp
  have k1 : w1.cell? ⟨w.heap.size, 1, none⟩ = some (.slice a2 P.funs.length c2) := by rw [hw, ho1]; simp
  have K0 : Hid (w1.cell? ⟨w.heap.size + 1, 0, none⟩ = some (.int .i64 (P.vars.length : Int))) := k0
  have K1 : Hid (w1.cell? ⟨w.heap.size, 1, none⟩ = some (.slice a2 P.funs.length c2)) := k1
  have hk1 : ∀ o, (w1.alloc o).cell? ⟨w.heap.size, 1, none⟩ = some (.slice a2 P.funs.length c2) := fun o => cell_keep ((Below.refl _ w1).alloc (Nat.le_refl _) o) k1
  clear hw k0 k1 ho1
  go_wp2_with fail
  have hB2 : ∀ o, Below w.heap.size w (w1.alloc o) := fun o => hBa.alloc hBa.size o
  refine (allF 73 #[] eg1 (fun f => decide (f.params.length ≤ 3)) P.funs _ _ (by omega) (H2.out.below (hB2 _)) (fun wr f pv hb hmem hi => cf1 f pv wr hi)).mono ?_
  rintro e w2 ⟨rfl, hBb⟩
  have hBw2 : Below w.heap.size w w2 := (hB2 _).trans (hBb.mono (hB2 _).size)
  have m1 : w2.cell? ⟨w.heap.size, 1, none⟩ = some (.slice a2 P.funs.length c2) := cell_keep hBb (hk1 _)
  have M2 : Hid (BelowAt w2 w1.heap.size P.vars.length) := ⟨w.heap.size + 1, cell_keep hBb (by simp), cell_keep hBb (cell_keep ((Below.refl _ w1).alloc (Nat.le_refl _) _) K0.out)⟩
  rw [← Q1.out]
  clear hBb hB2 hk1 K0 K1 hBa
  cases D1 with
  | false =>
    have e8 := (HE.out.below hBw2).c8
    go_wp2_with fail
    go_ret
    exact ⟨rfl, hBw2⟩
  | true =>
    go_wp2_with fail
    refine (allF 74 #[.pointer (some ⟨w1.heap.size, 0, none⟩)] eg2 (fun f => f.params.all (varB P) && varB P f.ret) P.funs _ _ (by omega) (H2.out.below hBw2) (fun wr f pv hb hmem hi => cf2 P.vars.length w1.heap.size f pv wr (by have := HS.out f hmem; omega) hi (M2.out.below hb))).mono ?_
    rintro e w3 ⟨rfl, hBc⟩
    have hBw3 : Below w.heap.size w w3 := hBw2.trans (hBc.mono hBw2.size)
    have m3 := cell_keep hBc m1
    rw [← Q2.out]
    clear hBc m1 M2 hBw2
    cases D2 with
    | false =>
      have e8 := (HE.out.below hBw3).c1
      go_wp2_with fail
      go_ret
      exact ⟨rfl, hBw3⟩
    | true =>
      go_wp2_with fail
      refine (allF 76 #[] eg3 (fun f => !dup f.params) P.funs _ _ (by omega) (H2.out.below hBw3) (fun wr f pv hb hmem hi => cf3 f pv wr (by have := HS.out f hmem; omega) hi)).mono ?_
      rintro e w4 ⟨rfl, hBd⟩
      have hBw4 : Below w.heap.size w w4 := hBw3.trans (hBd.mono hBw3.size)
      rw [← Q3.out]
      clear hBd m3 hBw3
      cases D3 with
      | false =>
        have e8 := (HE.out.below hBw4).c6
        go_wp2_with fail
        go_ret
        exact ⟨rfl, hBw4⟩
      | true =>
        go_wp2_with fail
        go_ret
        exact ⟨rfl, hBw4⟩
end Go.Proofs.YtglonlpfnllocaaGreatDoor

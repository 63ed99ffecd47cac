/-
  Package prog: funNames, checkFuns, by contracts.
-/
import Derived.Test.YtimmkenmahagjaaGreatDoorPD
namespace Go.Proofs.YtimmkenmahagjaaGreatDoor
open Go.RowKit Go.Extern.Stop Go.Stop Go.Extern

theorem Tryz.infoString : (Tryz.prog.info? 9).map (fun i => (i.zero, i.size, i.bytes)) = some (some (.string ⟨#[]⟩), 1, 16) := by kernel_rfl
theorem make_strings (n : Nat) (hn : n ≤ 1000000) (w : World) : (Instr.makeSlice 22 (.int .i64 (n : Int)) (.int .i64 (n : Int))).run Tryz.prog w = .ok (.slice (some ⟨w.heap.size, 0, none⟩) n n) (w.alloc (.cells (madeCells #[.string ⟨#[]⟩] n) 9)) :=
  Go.run_make_row' (P := Tryz.prog) 22 9 (.string ⟨#[]⟩) 16 Tryz.underlying22 Tryz.infoString rfl .i64 .i64 n (by omega) (by omega) w

/-- So far k texts are laid. -/
def laidS (ss : List Bs) (k : Nat) (j : Nat) : Value := if j < k then .string (S (ss.getD j [])) else .string ⟨#[]⟩

theorem below1 (w : World) (o : Obj) : Below w.heap.size w (w.alloc o) := (Below.refl _ w).alloc (Nat.le_refl _) _
theorem sub_below {w w1 : World} {b : Nat} {o : Obj} (hB : Below b w w1) (hb : b ≤ w1.heap.size) : Below b w (w1.alloc o) := hB.alloc hb _

set_option maxHeartbeats 2000000 in
theorem funNames_any (P : ProgD) (v1 v2 v3 : Value) (w : World) (hm : P.funs.length ≤ 1000000) (h : IsProg w v1 v2 v3 P) :
    Calls Tryz.prog 72 #[.agg #[v1, v2, v3]] w fun e w' => ∃ v', e = .returned v' ∧ IsStrs w' v' (fnames P) ∧ Below w.heap.size w w' := by
  obtain ⟨⟨a1, c1, rfl, _, _⟩, ⟨a2, c2, rfl, hcp, hc⟩, ⟨a3, c3, rfl, _, _⟩⟩ := h
  have HC : Hid (∀ j, j < P.funs.length → ∃ b o, a2 = some ⟨b, o, none⟩ ∧ FunAt w b (o + j * 3) (P.funs.getD j default)) := hc
  clear hc
  have hmk := make_strings P.funs.length hm
  generalize hn : P.funs.length = n at *
  have HN : Hid (P.funs.length = n) := hn
  clear hn
  go_enter Tryz.func72, Tryz.ntmps72
  go_wp2_with fail
  clear hmk
  go_loopw [13] (fun t wr => ∃ k : Nat, k ≤ n ∧ t = .int .i64 k ∧ wr.rowIs (w.heap.size + 1) 9 n (laidS (fnames P) k) ∧ Below w.heap.size w wr) (fun t _ => (n - intOf t).toNat)
  case atStart =>
    refine ⟨0, Nat.zero_le _, rfl, ?_, ((Below.refl _ w).alloc (Nat.le_refl _) _).alloc (by simp) _⟩
    have := World.rowIs_made (w.alloc (.cells #[.slice a1 P.vars.length c1, .slice a2 n c2, .slice a3 P.stmts.length c3] 26)) (.string ⟨#[]⟩) n 9
    rw [World.size_alloc] at this
    refine (this.congr fun i hi => ?_)
    unfold laidS
    rw [if_neg (Nat.not_lt_zero _)]
  case round =>
    obtain ⟨k, hk, rfl, hrow, hB⟩ := hrel
    by_cases hlt : k < n
    · obtain ⟨b, o, rfl, e0⟩ := HC.out k hlt
      have hnm : (fnames P).getD k [] = (P.funs.getD k default).name := by
        have : k < P.funs.length := by rw [HN.out]; exact hlt
        simp [fnames, List.getD, this]
      obtain ⟨z, hze⟩ : ∃ z, z = P.funs.getD k default := ⟨_, rfl⟩
      rw [← hze] at e0 hnm
      clear hze
      obtain ⟨pv, c1', c2', hi, c3'⟩ := e0.below hB
      obtain ⟨pa, pc, rfl, _⟩ := hi.2
      have hfz := fun o => (hrow.alloc o).frozen k
      have hcl := fun o => (hrow.alloc o).cell hlt
      have HR : Hid (wr.rowIs (w.heap.size + 1) 9 n (laidS (fnames P) k)) := hrow
      have HZ : Hid ((fnames P).getD k [] = z.name) := hnm
      clear e0 hi hrow hnm
      go_wp2_with fail
      go_roundw
      case rel =>
        refine ⟨k + 1, hlt, by go_num, ?_, ?_⟩
        · refine ((HR.out.alloc _).set k _).congr fun i hi => ?_
          unfold laidS
          by_cases e : i = k
          · rw [if_pos e, if_pos (by omega), e, HZ.out]
          · rw [if_neg e]
            by_cases g : i < k
            · rw [if_pos g, if_pos (by omega)]
            · rw [if_neg g, if_neg (by omega)]
        · exact (hB.alloc hB.size _).setCell (by simp) _
      case measure => simp [intOf]; omega
    · have hkn : k = n := by omega
      subst hkn
      have HR : Hid (wr.rowIs (w.heap.size + 1) 9 k (laidS (fnames P) k)) := hrow
      clear hrow
      go_wp2_with fail
      go_ret
      refine ⟨_, rfl, ⟨some ⟨w.heap.size + 1, 0, none⟩, k, ?_, ?_, fun j hj => ⟨w.heap.size + 1, 0, rfl, ?_⟩⟩, hB⟩
      · have : (fnames P).length = k := by unfold fnames; rw [List.length_map]; exact HN.out
        rw [this]; rfl
      · have : (fnames P).length = k := by unfold fnames; rw [List.length_map]; exact HN.out
        omega
      · have hj' : j < k := by
          have : (fnames P).length = k := by unfold fnames; rw [List.length_map]; exact HN.out
          omega
        rw [Nat.zero_add, HR.out.cell hj']
        unfold laidS
        rw [if_pos hj']
end Go.Proofs.YtimmkenmahagjaaGreatDoor

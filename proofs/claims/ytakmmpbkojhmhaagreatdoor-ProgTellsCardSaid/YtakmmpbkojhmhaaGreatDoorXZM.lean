/-
  Package prog: readLines, by a contract, where readStmt keeps its own.
-/
import Derived.Test.YtakmmpbkojhmhaaGreatDoorXPM
import Derived.Test.YtakmmpbkojhmhaaGreatDoorPMem
import Derived.Test.YtakmmpbkojhmhaaGreatDoorPI
namespace Go.Proofs.YtakmmpbkojhmhaaGreatDoor
open Go.RowKit Go.Extern.Stop Go.Stop Go.Extern

def strLen : Value → Nat
  | .string b => b.size
  | _ => 0
theorem linesD_nil (P : ProgD) (k : Nat) : linesD P k [] = (P, none) := rfl
theorem linesD_no (P : ProgD) (k : Nat) (s : Bs) (h : (10 : UInt8) ∉ s) (hne : s ≠ []) : linesD P k s = (P, some (0, (k : Int))) := by
  unfold linesD
  rw [linesOf_no s h]
  show (if s.isEmpty = true then _ else _) = _
  rw [if_neg (by rw [List.isEmpty_iff]; exact hne)]
theorem linesD_line (P : ProgD) (k : Nat) (x y : Bs) (h : (10 : UInt8) ∉ x) : linesD P k (x ++ 10 :: y) = match (readLineD P x).2 with | some e => ((readLineD P x).1, some (e, (k : Int))) | none => linesD (readLineD P x).1 (k + 1) y := by
  unfold linesD
  rw [linesOf_at x y h]
  show goLines P k _ (x :: _) = _
  rw [goLines]
  cases (readLineD P x).2 <;> rfl
theorem linesD_err (P Q : ProgD) (k : Nat) (x y : Bs) (e : Nat) (h : (10 : UInt8) ∉ x) (hr : readLineD P x = (Q, some e)) : linesD P k (x ++ 10 :: y) = (Q, some (e, (k : Int))) := by
  rw [linesD_line P k x y h, hr]
theorem linesD_on (P Q : ProgD) (k : Nat) (x y : Bs) (h : (10 : UInt8) ∉ x) (hr : readLineD P x = (Q, none)) : linesD P k (x ++ 10 :: y) = linesD Q (k + 1) y := by
  rw [linesD_line P k x y h, hr]
/-- One line more makes each list at most one longer. -/
theorem readLine_len (P : ProgD) (x : Bs) : (readLineD P x).1.vars.length ≤ P.vars.length + 1 ∧ (readLineD P x).1.funs.length ≤ P.funs.length + 1 ∧ (readLineD P x).1.stmts.length ≤ P.stmts.length + 1 := by
  unfold readLineD
  split
  · unfold readVarD
    split <;> simp
  · split
    · unfold readFunD
      split
      · simp
      · split <;> simp
    · unfold readStmtD
      split
      · simp
      · split <;> simp
theorem cut_cases (s : Bs) : ((10 : UInt8) ∉ s ∧ Lib.cut s [10] = (s, [], false)) ∨ ∃ x y, s = x ++ 10 :: y ∧ (10 : UInt8) ∉ x ∧ Lib.cut s [10] = (x, y, true) := by
  rcases split_first 10 s with h | ⟨x, y, rfl, h⟩
  · exact Or.inl ⟨h, cut_no 10 [] s h⟩
  · refine Or.inr ⟨x, y, rfl, h, ?_⟩
    have := cut_at 10 [] x y h
    simpa using this
set_option maxRecDepth 100000 in
set_option maxHeartbeats 8000000 in
theorem readLines_any (OK : ReadStmtOk) (a : Nat → Addr) (s : Bs) (w : World) (hz : s.length ≤ 4000) (hE : Errs5 w a) (hM : MaxL w) :
    Calls Tryz.prog 78 #[.string (S s)] w fun e w' => ∃ v1 v2 v3 ev, e = .returned (.tuple #[.agg #[v1, v2, v3], ev]) ∧ IsProg w' v1 v2 v3 (linesD noProg 0 s).1 ∧ ErrV w' a (linesD noProg 0 s).2 ev ∧ Below w.heap.size w w' := by
  have HE : Hid (Errs5 w a) := hE
  have HM : Hid (MaxL w) := hM
  have HOK : Hid ReadStmtOk := OK
  obtain ⟨R, hR⟩ : ∃ R, R = linesD noProg 0 s := ⟨_, rfl⟩
  rw [← hR]
  have HR : Hid (R = linesD noProg 0 s) := hR
  clear hR hE hM OK
  obtain ⟨b0, hb0⟩ : ∃ b, b = S s := ⟨_, rfl⟩
  rw [← hb0]
  have HB0 : Hid (b0 = S s) := hb0
  clear hb0
  go_enter Tryz.func78, Tryz.ntmps78
  go_wp2_with fail
  go_loopw [0, 5] (fun t u wr => ∃ (cur : Bs) (k : Nat) (P : ProgD) (v1 v2 v3 : Value) (ps qs : List Value), t = .string (S cur) ∧ u = .int .i64 k ∧ St wr (w.heap.size + 1) (w.heap.size + 1) P v1 v2 v3 ps qs ∧ Below w.heap.size w wr ∧
      wr.heap[w.heap.size]? = some (.cells #[.slice none 0 0, .slice none 0 0, .slice none 0 0] 43 (0, 0)) ∧ R = linesD P k cur ∧ k + cur.length ≤ 4000 ∧ P.vars.length ≤ k ∧ P.funs.length ≤ k ∧ P.stmts.length ≤ k) (fun t _ _ => strLen t)
  case atStart =>
    refine ⟨s, 0, noProg, .slice none 0 0, .slice none 0 0, .slice none 0 0, [], [], by rw [HB0.out], rfl, ?_, (below1 w _).alloc (by simp) _, ?_, HR.out, by omega, Nat.le_refl _, Nat.le_refl _, Nat.le_refl _⟩
    · have := st_new (w.alloc (.cells #[.slice none 0 0, .slice none 0 0, .slice none 0 0] 43)) (w.heap.size + 1) (by simp)
      rw [World.size_alloc] at this
      exact this
    · exact block_keep (below1 _ _) (heap_new w _)
  case round =>
    obtain ⟨cur, k, P, v1, v2, v3, ps, qs, rfl, rfl, hst, hB, hblk, hRk, hkl, hp1, hp2, hp3⟩ := hrel
    have hr1 : w.heap.size + 1 ≠ w.heap.size := by omega
    have f0 := frozen_of_block hblk 0
    have f1 := frozen_of_block hblk 1
    have f2 := frozen_of_block hblk 2
    have c0 := Lib.cell_of_heap hblk 0
    have c1 := Lib.cell_of_heap hblk 1
    have c2 := Lib.cell_of_heap hblk 2
    simp only [List.getElem?_toArray, List.getElem?_cons_zero, List.getElem?_cons_succ] at c0 c1 c2
    obtain ⟨p0, p1, p2⟩ := hst.cells
    have HST : Hid (St wr (w.heap.size + 1) (w.heap.size + 1) P v1 v2 v3 ps qs) := hst
    have HBLK : Hid (wr.heap[w.heap.size]? = some (.cells #[.slice none 0 0, .slice none 0 0, .slice none 0 0] 43 (0, 0))) := hblk
    have HRK : Hid (R = linesD P k cur ∧ k + cur.length ≤ 4000 ∧ P.vars.length ≤ k ∧ P.funs.length ≤ k ∧ P.stmts.length ≤ k) := ⟨hRk, hkl, hp1, hp2, hp3⟩
    obtain ⟨a1, n1, rfl⟩ := owns_form hst.o1
    obtain ⟨a2, n2, rfl⟩ := owns_form hst.o2
    obtain ⟨a3, n3, rfl⟩ := owns_form hst.o3
    have hrz : w.heap.size < wr.heap.size := (Array.getElem?_eq_some_iff.1 hblk).1
    obtain ⟨m1, hm1⟩ : ∃ m, m = P.vars.length := ⟨_, rfl⟩
    obtain ⟨m2, hm2⟩ : ∃ m, m = P.funs.length := ⟨_, rfl⟩
    obtain ⟨m3, hm3⟩ : ∃ m, m = P.stmts.length := ⟨_, rfl⟩
    rw [← hm1, ← hm2, ← hm3] at HST
    rw [← hm1] at p0
    rw [← hm2] at p1
    rw [← hm3] at p2
    clear hst hblk hRk hkl hp1 hp2 hp3 hm1 hm2 hm3
    have hie : (S cur).toList.isEmpty = cur.isEmpty := by rw [S_toList]
    cases hce : cur.isEmpty with
    | true =>
      have hc : cur = [] := List.isEmpty_iff.1 hce
      have HX : Hid (R = (P, none)) := by show R = _; rw [HRK.out.1, hc]; rfl
      have HF : Hid (∀ x0 x1 x2, IsProg (((wr.setCell ⟨w.heap.size, 0, none⟩ x0).setCell ⟨w.heap.size, 1, none⟩ x1).setCell ⟨w.heap.size, 2, none⟩ x2) (.slice a1 m1 n1) (.slice a2 m2 n2) (.slice a3 m3 n3) P ∧ Below w.heap.size w (((wr.setCell ⟨w.heap.size, 0, none⟩ x0).setCell ⟨w.heap.size, 1, none⟩ x1).setCell ⟨w.heap.size, 2, none⟩ x2)) := fun x0 x1 x2 =>
        ⟨(HST.out.set3 HBLK.out hr1 x0 x1 x2).isProg, ((hB.setCell (Nat.le_refl _) _).setCell (Nat.le_refl _) _).setCell (Nat.le_refl _) _⟩
      rw [hce] at hie
      obtain ⟨bc, hbc⟩ : ∃ b, b = S cur := ⟨_, rfl⟩
      rw [← hbc] at hie ⊢
      clear hce hc hbc HST HBLK HRK
      go_wp2_with fail
      refine bodyPost_ret (v := .tuple #[.agg #[.slice a1 m1 n1, .slice a2 m2 n2, .slice a3 m3 n3], .nilIface]) (by simp [results, Tryz.results78, go_sem, c0, c1, c2]) rfl ?_
      rw [HX.out]
      exact ⟨_, _, _, _, rfl, (HF.out _ _ _).1, Or.inl ⟨rfl, rfl⟩, (HF.out _ _ _).2⟩
    | false =>
      rw [hce] at hie
      have K1 : Hid (Calls Tryz.prog 113 #[.string (S cur), .string ⟨#[10]⟩] wr fun e w' => e = .returned (.tuple #[.string (S (Lib.cut cur [10]).1), .string (S (Lib.cut cur [10]).2.1), .bool (Lib.cut cur [10]).2.2]) ∧ Below wr.heap.size wr w') := cut_any cur [10] wr (by have := HRK.out.2.1; omega) (HM.out.below hB)
      have hne : cur ≠ [] := fun q => by rw [q] at hce; cases hce
      rcases cut_cases cur with ⟨h10, hcut⟩ | ⟨x, y, hxy, h10, hcut⟩
      · rw [hcut] at K1
        have HX : Hid (R = (P, some (0, (k : Int)))) := by show R = _; rw [HRK.out.1]; exact linesD_no P k cur h10 hne
        obtain ⟨bc, hbc⟩ : ∃ b, b = S cur := ⟨_, rfl⟩
        rw [← hbc] at K1 hie ⊢
        clear hce hbc hcut h10 hne
        go_wp2_with fail
        refine K1.out.mono ?_
        rintro e w2 ⟨rfl, hB2⟩
        have hB2w : Below w.heap.size w w2 := hB.trans (hB2.mono hB.size)
        have HS2 : Hid (St w2 (w.heap.size + 1) (w.heap.size + 1) P (.slice a1 m1 n1) (.slice a2 m2 n2) (.slice a3 m3 n3) ps qs) := HST.out.below hB2
        have q0 := cell_keep hB2 p0
        have q1 := cell_keep hB2 p1
        have q2 := cell_keep hB2 p2
        have q0' := fun o => cell_keep (below1 w2 o) q0
        have q1' := fun o => cell_keep (below1 w2 o) q1
        have q2' := fun o => cell_keep (below1 w2 o) q2
        have e0 := (HE.out.below hB2w).c0
        have e0' := fun o => cell_keep (below1 w2 o) e0
        clear f0 f1 f2 c0 c1 c2 p0 p1 p2
        have hblk2 := block_keep hB2 HBLK.out
        have f0 := frozen_of_block hblk2 0
        have f1 := frozen_of_block hblk2 1
        have f2 := frozen_of_block hblk2 2
        have c0 := Lib.cell_of_heap hblk2 0
        have c1 := Lib.cell_of_heap hblk2 1
        have c2 := Lib.cell_of_heap hblk2 2
        simp only [List.getElem?_toArray, List.getElem?_cons_zero, List.getElem?_cons_succ] at c0 c1 c2
        have f0' := fun o => frozen_of_block (block_keep (below1 w2 o) hblk2) 0
        have f1' := fun o => frozen_of_block (block_keep (below1 w2 o) hblk2) 1
        have f2' := fun o => frozen_of_block (block_keep (below1 w2 o) hblk2) 2
        have c0' := fun o => cell_keep (below1 w2 o) c0
        have c1' := fun o => cell_keep (below1 w2 o) c1
        have c2' := fun o => cell_keep (below1 w2 o) c2
        have HBLK2 : Hid (w2.heap[w.heap.size]? = some (.cells #[.slice none 0 0, .slice none 0 0, .slice none 0 0] 43 (0, 0))) := hblk2
        have hrz2 : w.heap.size < w2.heap.size := (Array.getElem?_eq_some_iff.1 hblk2).1
        have HF : Hid (∀ x0 x1 x2, IsProg ((((w2.alloc (.cells #[.int .i64 k, .iface 231 (.pointer (some (a 0)))] 90)).setCell ⟨w.heap.size, 0, none⟩ x0).setCell ⟨w.heap.size, 1, none⟩ x1).setCell ⟨w.heap.size, 2, none⟩ x2) (.slice a1 m1 n1) (.slice a2 m2 n2) (.slice a3 m3 n3) P ∧ Below w.heap.size w ((((w2.alloc (.cells #[.int .i64 k, .iface 231 (.pointer (some (a 0)))] 90)).setCell ⟨w.heap.size, 0, none⟩ x0).setCell ⟨w.heap.size, 1, none⟩ x1).setCell ⟨w.heap.size, 2, none⟩ x2) ∧
            ErrV ((((w2.alloc (.cells #[.int .i64 k, .iface 231 (.pointer (some (a 0)))] 90)).setCell ⟨w.heap.size, 0, none⟩ x0).setCell ⟨w.heap.size, 1, none⟩ x1).setCell ⟨w.heap.size, 2, none⟩ x2) a (some (0, (k : Int))) (.iface 88 (.pointer (some ⟨w2.heap.size, 0, none⟩)))) := fun x0 x1 x2 => by
          have hn2 : w2.heap.size ≠ w.heap.size := by omega
          refine ⟨((HS2.out.below (below1 w2 _)).set3 (block_keep (below1 w2 _) HBLK2.out) hr1 x0 x1 x2).isProg, (((hB2w.alloc hB2w.size _).setCell (Nat.le_refl _) _).setCell (Nat.le_refl _) _).setCell (Nat.le_refl _) _, Or.inr (Or.inr ⟨0, k, w2.heap.size, 0, rfl, by omega, rfl, ?_, ?_⟩)⟩
          · exact other_cell (other_cell (other_cell (by simp) hn2) hn2) hn2
          · exact other_cell (other_cell (other_cell (by simp) hn2) hn2) hn2
        have HF2 : Hid (∀ x0 x1 x2, IsProg ((((w2.setCell ⟨w.heap.size, 0, none⟩ x0).setCell ⟨w.heap.size, 1, none⟩ x1).setCell ⟨w.heap.size, 2, none⟩ x2).alloc (.cells #[.int .i64 k, .iface 231 (.pointer (some (a 0)))] 90)) (.slice a1 m1 n1) (.slice a2 m2 n2) (.slice a3 m3 n3) P ∧ Below w.heap.size w ((((w2.setCell ⟨w.heap.size, 0, none⟩ x0).setCell ⟨w.heap.size, 1, none⟩ x1).setCell ⟨w.heap.size, 2, none⟩ x2).alloc (.cells #[.int .i64 k, .iface 231 (.pointer (some (a 0)))] 90)) ∧ ErrV ((((w2.setCell ⟨w.heap.size, 0, none⟩ x0).setCell ⟨w.heap.size, 1, none⟩ x1).setCell ⟨w.heap.size, 2, none⟩ x2).alloc (.cells #[.int .i64 k, .iface 231 (.pointer (some (a 0)))] 90)) a (some (0, (k : Int))) (.iface 88 (.pointer (some ⟨w2.heap.size, 0, none⟩)))) := fun x0 x1 x2 => by
          have hs3 : (((w2.setCell ⟨w.heap.size, 0, none⟩ x0).setCell ⟨w.heap.size, 1, none⟩ x1).setCell ⟨w.heap.size, 2, none⟩ x2).heap.size = w2.heap.size := by simp
          have hb3 : Below w.heap.size w (((w2.setCell ⟨w.heap.size, 0, none⟩ x0).setCell ⟨w.heap.size, 1, none⟩ x1).setCell ⟨w.heap.size, 2, none⟩ x2) := ((hB2w.setCell (Nat.le_refl _) _).setCell (Nat.le_refl _) _).setCell (Nat.le_refl _) _
          refine ⟨((HS2.out.set3 HBLK2.out hr1 x0 x1 x2).below (below1 _ _)).isProg, hb3.alloc hb3.size _, Or.inr (Or.inr ⟨0, k, w2.heap.size, 0, rfl, by omega, rfl, ?_, ?_⟩)⟩
          · exact new_cell _ _ _ _ _ _ hs3 rfl
          · exact new_cell _ _ _ _ _ _ hs3 rfl
        have g0 := fun x0 x1 x2 o => cell_keep (below1 _ o) (res_cells HBLK2.out x0 x1 x2).1
        have g1 := fun x0 x1 x2 o => cell_keep (below1 _ o) (res_cells HBLK2.out x0 x1 x2).2.1
        have g2 := fun x0 x1 x2 o => cell_keep (below1 _ o) (res_cells HBLK2.out x0 x1 x2).2.2
        have hgl : 1 < w.heap.size := lt_of_cell HE.out.c0
        have hne1 : w.heap.size ≠ 1 := by omega
        have hne2 : (1 : Nat) ≠ w.heap.size := by omega
        clear hblk2 hB2 hB HST HBLK HRK K1
        go_wp2_with fail
        go_region
        all_goals (go_wp2_with fail)
        all_goals refine bodyPost_ret (v := .tuple #[.agg #[.slice a1 m1 n1, .slice a2 m2 n2, .slice a3 m3 n3], .iface 88 (.pointer (some ⟨w2.heap.size, 0, none⟩))]) (by first | (simp [results, Tryz.results78, go_sem]; done) | (simp [results, Tryz.results78, go_sem, g0, g1, g2]; done)) rfl ?_
        all_goals rw [HX.out]
        all_goals first
          | exact ⟨_, _, _, _, rfl, (HF.out _ _ _).1.below (Below.refl _ _).drew, (HF.out _ _ _).2.2.below (Below.refl _ _).drew, (HF.out _ _ _).2.1.drew⟩
          | exact ⟨_, _, _, _, rfl, (HF2.out _ _ _).1.below (Below.refl _ _).drew, (HF2.out _ _ _).2.2.below (Below.refl _ _).drew, (HF2.out _ _ _).2.1.drew⟩
      · rw [hcut] at K1
        have hlx : x.length + y.length + 1 = cur.length := by rw [hxy]; simp; omega
        have hlen := readLine_len P x
        have hbig := HRK.out.2
        have K2 : Hid (∀ wx, Below wr.heap.size wr wx → Calls Tryz.prog 114 #[.pointer (some ⟨w.heap.size + 1, 0, none⟩), .string (S x)] wx fun e w' => Does a (w.heap.size + 1) (w.heap.size + 1) wx w' (readLineD P x) e) := fun wx hb =>
          readLine_any HOK.out a (w.heap.size + 1) (w.heap.size + 1) P x _ _ _ ps qs wx (HST.out.below hb) (by omega) (by omega) (by omega) (by omega) (HE.out.below (hB.trans (hb.mono hB.size))) (HM.out.below (hB.trans (hb.mono hB.size)))
        obtain ⟨Q, hQ⟩ : ∃ Q, Q = (readLineD P x).1 := ⟨_, rfl⟩
        obtain ⟨E, hEE⟩ : ∃ E, E = (readLineD P x).2 := ⟨_, rfl⟩
        have hqe : readLineD P x = (Q, E) := by rw [hQ, hEE]
        rw [hqe] at K2
        rw [← hQ] at hlen
        have HX1 : Hid (E = none → R = linesD Q (k + 1) y) := fun h => by
          rw [HRK.out.1, hxy]; exact linesD_on P Q k x y h10 (by rw [hqe, h])
        have HX2 : Hid (∀ e, E = some e → R = (Q, some (e, (k : Int)))) := fun e h => by
          rw [HRK.out.1, hxy]; exact linesD_err P Q k x y e h10 (by rw [hqe, h])
        have HLN : Hid (x.length + y.length + 1 = cur.length ∧ k + cur.length ≤ 4000 ∧ Q.vars.length ≤ k + 1 ∧ Q.funs.length ≤ k + 1 ∧ Q.stmts.length ≤ k + 1) := ⟨hlx, hbig.1, by omega, by omega, by omega⟩
        obtain ⟨bc, hbc⟩ : ∃ b, b = S cur := ⟨_, rfl⟩
        obtain ⟨bx, hbx⟩ : ∃ b, b = S x := ⟨_, rfl⟩
        have hbcs : bc.size = cur.length := by rw [hbc, S_size]
        rw [← hbc, ← hbx] at K1
        rw [← hbx] at K2
        rw [← hbc] at hie ⊢
        have hk4 : k ≤ 4000 := by omega
        clear hce hbc hbx hcut h10 hne hlx hlen hbig hQ hEE hqe hxy f0 f1 f2 c0 c1 c2 p0 p1 p2
        go_wp2_with fail
        refine K1.out.mono ?_
        rintro e w2 ⟨rfl, hB2⟩
        clear K1
        go_wp2_with fail
        refine (K2.out _ hB2).mono ?_
        rintro e w3 ⟨rfl, ⟨u1, u2, u3', ps', qs', hst3⟩, hB3⟩
        have hBw3 : Below w.heap.size w w3 := (hB.trans (hB2.mono hB.size)).trans (hB3.mono (by omega))
        have hblk3 : w3.heap[w.heap.size]? = some (.cells #[.slice none 0 0, .slice none 0 0, .slice none 0 0] 43 (0, 0)) := by
          rw [hB3.block _ (by omega)]; exact block_keep hB2 HBLK.out
        have HBLK3 : Hid (w3.heap[w.heap.size]? = some (.cells #[.slice none 0 0, .slice none 0 0, .slice none 0 0] 43 (0, 0))) := hblk3
        have HST3 : Hid (St w3 (w.heap.size + 1) (w.heap.size + 1) Q u1 u2 u3' ps' qs') := hst3
        clear K2 hB3 hB2 hblk3 HBLK HST HRK
        cases E with
        | none =>
          have HX : Hid (R = linesD Q (k + 1) y) := HX1.out rfl
          clear HX1 HX2 hst3
          unfold errV
          go_wp2_with fail
          go_roundw
          case rel => exact ⟨y, k + 1, Q, u1, u2, u3', ps', qs', rfl, by go_num, HST3.out, hBw3, HBLK3.out, HX.out, by have := HLN.out; omega, HLN.out.2.2.1, HLN.out.2.2.2.1, HLN.out.2.2.2.2⟩
          case measure => have := HLN.out.1; simp [strLen, S_size]; omega
        | some e =>
          have HX : Hid (R = (Q, some (e, (k : Int)))) := HX2.out e rfl
          obtain ⟨q0, q1, q2⟩ := hst3.cells
          obtain ⟨x1a, x1c, rfl⟩ := owns_form hst3.o1
          obtain ⟨x2a, x2c, rfl⟩ := owns_form hst3.o2
          obtain ⟨x3a, x3c, rfl⟩ := owns_form hst3.o3
          obtain ⟨m1', hm1⟩ : ∃ m, m = Q.vars.length := ⟨_, rfl⟩
          obtain ⟨m2', hm2⟩ : ∃ m, m = Q.funs.length := ⟨_, rfl⟩
          obtain ⟨m3', hm3⟩ : ∃ m, m = Q.stmts.length := ⟨_, rfl⟩
          rw [← hm1, ← hm2, ← hm3] at HST3
          rw [← hm1] at q0
          rw [← hm2] at q1
          rw [← hm3] at q2
          clear hm1 hm2 hm3 hst3 HX1 HX2
          have hrz3 : w.heap.size < w3.heap.size := (Array.getElem?_eq_some_iff.1 HBLK3.out).1
          have f0 := frozen_of_block HBLK3.out 0
          have f1 := frozen_of_block HBLK3.out 1
          have f2 := frozen_of_block HBLK3.out 2
          have c0 : w3.cell? ⟨w.heap.size, 0, none⟩ = some (.slice none 0 0) := by rw [Lib.cell_of_heap HBLK3.out]; rfl
          have c1 : w3.cell? ⟨w.heap.size, 1, none⟩ = some (.slice none 0 0) := by rw [Lib.cell_of_heap HBLK3.out]; rfl
          have c2 : w3.cell? ⟨w.heap.size, 2, none⟩ = some (.slice none 0 0) := by rw [Lib.cell_of_heap HBLK3.out]; rfl
          have HF2 : Hid (∀ x0 x1 x2, IsProg ((((w3.setCell ⟨w.heap.size, 0, none⟩ x0).setCell ⟨w.heap.size, 1, none⟩ x1).setCell ⟨w.heap.size, 2, none⟩ x2).alloc (.cells #[.int .i64 k, .iface 231 (.pointer (some (a e)))] 90)) (.slice x1a m1' x1c) (.slice x2a m2' x2c) (.slice x3a m3' x3c) Q ∧ Below w.heap.size w ((((w3.setCell ⟨w.heap.size, 0, none⟩ x0).setCell ⟨w.heap.size, 1, none⟩ x1).setCell ⟨w.heap.size, 2, none⟩ x2).alloc (.cells #[.int .i64 k, .iface 231 (.pointer (some (a e)))] 90)) ∧ ErrV ((((w3.setCell ⟨w.heap.size, 0, none⟩ x0).setCell ⟨w.heap.size, 1, none⟩ x1).setCell ⟨w.heap.size, 2, none⟩ x2).alloc (.cells #[.int .i64 k, .iface 231 (.pointer (some (a e)))] 90)) a (some (e, (k : Int))) (.iface 88 (.pointer (some ⟨w3.heap.size, 0, none⟩)))) := fun x0 x1 x2 => by
            have hs3 : (((w3.setCell ⟨w.heap.size, 0, none⟩ x0).setCell ⟨w.heap.size, 1, none⟩ x1).setCell ⟨w.heap.size, 2, none⟩ x2).heap.size = w3.heap.size := by simp
            have hb3 : Below w.heap.size w (((w3.setCell ⟨w.heap.size, 0, none⟩ x0).setCell ⟨w.heap.size, 1, none⟩ x1).setCell ⟨w.heap.size, 2, none⟩ x2) := ((hBw3.setCell (Nat.le_refl _) _).setCell (Nat.le_refl _) _).setCell (Nat.le_refl _) _
            refine ⟨((HST3.out.set3 HBLK3.out hr1 x0 x1 x2).below (below1 _ _)).isProg, hb3.alloc hb3.size _, Or.inr (Or.inr ⟨e, k, w3.heap.size, 0, rfl, by omega, rfl, ?_, ?_⟩)⟩
            · exact new_cell _ _ _ _ _ _ hs3 rfl
            · exact new_cell _ _ _ _ _ _ hs3 rfl
          have g0 := fun x0 x1 x2 o => cell_keep (below1 _ o) (res_cells HBLK3.out x0 x1 x2).1
          have g1 := fun x0 x1 x2 o => cell_keep (below1 _ o) (res_cells HBLK3.out x0 x1 x2).2.1
          have g2 := fun x0 x1 x2 o => cell_keep (below1 _ o) (res_cells HBLK3.out x0 x1 x2).2.2
          have f0' := fun o => frozen_of_block (block_keep (below1 w3 o) HBLK3.out) 0
          have f1' := fun o => frozen_of_block (block_keep (below1 w3 o) HBLK3.out) 1
          have f2' := fun o => frozen_of_block (block_keep (below1 w3 o) HBLK3.out) 2
          have c0' : ∀ o, (w3.alloc o).cell? ⟨w.heap.size, 0, none⟩ = some (.slice none 0 0) := fun o => by rw [Lib.cell_of_heap (block_keep (below1 w3 o) HBLK3.out)]; rfl
          have c1' : ∀ o, (w3.alloc o).cell? ⟨w.heap.size, 1, none⟩ = some (.slice none 0 0) := fun o => by rw [Lib.cell_of_heap (block_keep (below1 w3 o) HBLK3.out)]; rfl
          have c2' : ∀ o, (w3.alloc o).cell? ⟨w.heap.size, 2, none⟩ = some (.slice none 0 0) := fun o => by rw [Lib.cell_of_heap (block_keep (below1 w3 o) HBLK3.out)]; rfl
          have HF : Hid (∀ x0 x1 x2, IsProg ((((w3.alloc (.cells #[.int .i64 k, .iface 231 (.pointer (some (a e)))] 90)).setCell ⟨w.heap.size, 0, none⟩ x0).setCell ⟨w.heap.size, 1, none⟩ x1).setCell ⟨w.heap.size, 2, none⟩ x2) (.slice x1a m1' x1c) (.slice x2a m2' x2c) (.slice x3a m3' x3c) Q ∧ Below w.heap.size w ((((w3.alloc (.cells #[.int .i64 k, .iface 231 (.pointer (some (a e)))] 90)).setCell ⟨w.heap.size, 0, none⟩ x0).setCell ⟨w.heap.size, 1, none⟩ x1).setCell ⟨w.heap.size, 2, none⟩ x2) ∧ ErrV ((((w3.alloc (.cells #[.int .i64 k, .iface 231 (.pointer (some (a e)))] 90)).setCell ⟨w.heap.size, 0, none⟩ x0).setCell ⟨w.heap.size, 1, none⟩ x1).setCell ⟨w.heap.size, 2, none⟩ x2) a (some (e, (k : Int))) (.iface 88 (.pointer (some ⟨w3.heap.size, 0, none⟩)))) := fun x0 x1 x2 => by
            have hn2 : w3.heap.size ≠ w.heap.size := by omega
            refine ⟨((HST3.out.below (below1 w3 _)).set3 (block_keep (below1 w3 _) HBLK3.out) hr1 x0 x1 x2).isProg, (((hBw3.alloc hBw3.size _).setCell (Nat.le_refl _) _).setCell (Nat.le_refl _) _).setCell (Nat.le_refl _) _, Or.inr (Or.inr ⟨e, k, w3.heap.size, 0, rfl, by omega, rfl, ?_, ?_⟩)⟩
            · exact other_cell (other_cell (other_cell (by simp) hn2) hn2) hn2
            · exact other_cell (other_cell (other_cell (by simp) hn2) hn2) hn2
          unfold errV
          go_wp2_with fail
          all_goals refine bodyPost_ret (v := .tuple #[.agg #[.slice x1a m1' x1c, .slice x2a m2' x2c, .slice x3a m3' x3c], .iface 88 (.pointer (some ⟨w3.heap.size, 0, none⟩))]) (by first | (simp [results, Tryz.results78, go_sem]; done) | (simp [results, Tryz.results78, go_sem, g0, g1, g2]; done)) rfl ?_
          all_goals rw [HX.out]
          all_goals first
            | exact ⟨_, _, _, _, rfl, (HF.out _ _ _).1, (HF.out _ _ _).2.2, (HF.out _ _ _).2.1⟩
            | exact ⟨_, _, _, _, rfl, (HF2.out _ _ _).1, (HF2.out _ _ _).2.2, (HF2.out _ _ _).2.1⟩
            | exact ⟨_, _, _, _, rfl, (HF.out _ _ _).1.below (Below.refl _ _).drew, (HF.out _ _ _).2.2.below (Below.refl _ _).drew, (HF.out _ _ _).2.1.drew⟩
            | exact ⟨_, _, _, _, rfl, (HF2.out _ _ _).1.below (Below.refl _ _).drew, (HF2.out _ _ _).2.2.below (Below.refl _ _).drew, (HF2.out _ _ _).2.1.drew⟩
end Go.Proofs.YtakmmpbkojhmhaaGreatDoor

/-
  Package prog: what is read of a text within the bound is no large program.
-/
namespace Go.Proofs.YtakmmpbkojhmhaaGreatDoor
open Go.RowKit Go.Extern.Stop Go.Stop Go.Extern

def Held (P : ProgD) (k : Nat) : Prop := (P.vars.length ≤ k ∧ P.funs.length ≤ k ∧ P.stmts.length ≤ k) ∧ (∀ f ∈ P.funs, f.params.length ≤ 5000) ∧ (∀ s ∈ P.stmts, s.args.length ≤ 5000)
theorem Held.mono {P : ProgD} {k l : Nat} (h : Held P k) (hl : k ≤ l) : Held P l := ⟨⟨Nat.le_trans h.1.1 hl, Nat.le_trans h.1.2.1 hl, Nat.le_trans h.1.2.2 hl⟩, h.2⟩
theorem right_args (r : Bs) (hr : r.length ≤ 4000) : (rightD r).1.args.length ≤ 5000 := by
  have h := listL_length (Lib.trimPrefix r [99, 97, 108, 108, 32])
  have h2 := trim_len r [99, 97, 108, 108, 32]
  unfold rightD
  split
  · exact Nat.zero_le _
  · split
    · show (listL _).length ≤ 5000
      omega
    · split
      · exact Nat.zero_le _
      · split
        · exact Nat.zero_le _
        · split
          · exact Nat.zero_le _
          · exact Nat.zero_le _
theorem parse_args (x : Bs) (hx : x.length ≤ 4000) : (parseD x).1.args.length ≤ 5000 := by
  have h := cut_len x eqs
  unfold parseD
  split
  · exact Nat.zero_le _
  · exact right_args _ (by omega)
theorem readLine_held (P : ProgD) (k : Nat) (x : Bs) (h : Held P k) (hx : x.length ≤ 4000) : Held (readLineD P x).1 (k + 1) := by
  have hl := readLine_len P x
  refine ⟨⟨Nat.le_trans hl.1 (Nat.succ_le_succ h.1.1), Nat.le_trans hl.2.1 (Nat.succ_le_succ h.1.2.1), Nat.le_trans hl.2.2 (Nat.succ_le_succ h.1.2.2)⟩, ?_⟩
  clear hl
  unfold readLineD
  split
  · unfold readVarD
    split
    · exact h.2
    · exact h.2
  · split
    · have h1 := listL_length (Lib.trimPrefix x [102, 110, 32])
      have h2 := trim_len x [102, 110, 32]
      unfold readFunD
      split
      · exact h.2
      · split
        · exact h.2
        · refine ⟨fun f hf => ?_, h.2.2⟩
          rcases List.mem_append.1 hf with hf | hf
          · exact h.2.1 f hf
          · rw [List.mem_singleton.1 hf]
            show (List.map _ _).length ≤ 5000
            rw [List.length_map]; omega
    · unfold readStmtD
      split
      · exact h.2
      · split
        · exact h.2
        · refine ⟨h.2.1, fun s hs => ?_⟩
          rcases List.mem_append.1 hs with hs | hs
          · exact h.2.2 s hs
          · rw [List.mem_singleton.1 hs]
            show (List.map _ _).length ≤ 5000
            rw [List.length_map]; exact parse_args x hx
theorem lines_held (n : Nat) : ∀ (cur : Bs) (P : ProgD) (k : Nat), cur.length ≤ n → k + cur.length ≤ 4000 → Held P k → Held (linesD P k cur).1 4000 := by
  induction n with
  | zero =>
    intro cur P k h1 h2 h
    have : cur = [] := List.length_eq_zero_iff.1 (Nat.le_zero.1 h1)
    rw [this, linesD_nil]
    exact h.mono (by omega)
  | succ n ih =>
    intro cur P k h1 h2 h
    rcases split_first 10 cur with h10 | ⟨x, y, rfl, h10⟩
    · rcases Decidable.em (cur = []) with hc | hc
      · rw [hc, linesD_nil]; exact h.mono (by omega)
      · rw [linesD_no P k cur h10 hc]; exact h.mono (by omega)
    · have hlen : (x ++ 10 :: y).length = x.length + y.length + 1 := by simp; omega
      have hh := readLine_held P k x h (by omega)
      rw [linesD_line P k x y h10]
      cases he : (readLineD P x).2 with
      | some e => exact hh.mono (by omega)
      | none => exact ih y _ (k + 1) (by omega) (by omega) hh
theorem lines_small (s : Bs) (hs : s.length ≤ 4000) : SmallP (linesD noProg 0 s).1 := by
  have h := lines_held s.length s noProg 0 (Nat.le_refl _) (by omega) ⟨⟨Nat.le_refl _, Nat.le_refl _, Nat.le_refl _⟩, fun _ hf => absurd hf List.not_mem_nil, fun _ hf => absurd hf List.not_mem_nil⟩
  exact ⟨by have := h.1.1; omega, by have := h.1.2.1; omega, by have := h.1.2.2; omega, fun f hf => Nat.le_trans (h.2.1 f hf) (by omega), fun q hq => Nat.le_trans (h.2.2 q hq) (by omega)⟩
end Go.Proofs.YtakmmpbkojhmhaaGreatDoor

/-
  The document's readLine of any line, by a contract.
-/
import Derived.Test.YtakmmpbkojhmhaaGreatDoorXHM
import Derived.Test.YtakmmpbkojhmhaaGreatDoorXKM
import Derived.Test.YtakmmpbkojhmhaaGreatDoorXOM
import Derived.Test.YtakmmpbkojhmhaaGreatDoorXZM
import Derived.Test.YtakmmpbkojhmhaaGreatDoorXCM
import Derived.Test.YtakmmpbkojhmhaaGreatDoorPZ3
namespace Go.Proofs.YtakmmpbkojhmhaaGreatDoor
open Go.RowKit

theorem refLine_any {B : Nat} {P : ProgD} {v1 v2 v3 : Value} {ps qs : List Value} (l : Bs) (w : World) (hst : Rq w B P v1 v2 v3 ps qs) (hz : l.length ≤ 50000) (hS : SmallP P) :
    Calls Tryz.prog 80 #[.agg #[v1, v2, v3], .string (S l)] w fun e w' => LinePost B w w' P l e := by
  cases hv : Lib.hasPrefix l kv4 with
  | true => exact line_V l w hst hz hS hv
  | false =>
  cases hp : Lib.hasPrefix l kf3 with
  | true =>
    cases hl : listF (l.drop 3) with
    | false => exact line_F0 l w hst hz hS hv hp hl
    | true => exact line_F1 l w hst hz hS hv hp hl
  | false =>
  cases hc : (Lib.cut l eqs).2.2 with
  | false => exact line_S0 l w hst hz hS hv hp hc
  | true =>
  obtain ⟨x, hx⟩ : ∃ x, (Lib.cut l eqs).1 = x := ⟨_, rfl⟩
  obtain ⟨y, hy⟩ : ∃ y, (Lib.cut l eqs).2.1 = y := ⟨_, rfl⟩
  cases g1 : Lib.hasPrefix x [42] with
  | true => exact line_store l w hst hz hS hv hp hc x y hx hy g1 (by unfold sentN; rw [g1]; rfl) (by unfold sentK; rw [g1]; rfl)
  | false =>
  cases g2 : (y == kNew) with
  | true => exact line_new l w hst hz hS hv hp hc x y hx hy g1 g2 (by unfold sentN; rw [g1, g2]; rfl) (by unfold sentK; rw [g1, g2]; rfl)
  | false =>
  cases g3 : Lib.hasPrefix y [38] with
  | true => exact line_addr l w hst hz hS hv hp hc x y hx hy g1 g2 g3 (by unfold sentN; rw [g1, g2, g3]; rfl) (by unfold sentK; rw [g1, g2, g3]; rfl)
  | false =>
  cases g4 : Lib.hasPrefix y [42] with
  | true => exact line_load l w hst hz hS hv hp hc x y hx hy g1 g2 g3 g4 (by unfold sentN; rw [g1, g2, g3, g4]; rfl) (by unfold sentK; rw [g1, g2, g3, g4]; rfl)
  | false =>
  cases g5 : Lib.hasPrefix y kf3 with
  | true =>
    cases hn : isNm (y.drop 3) with
    | false => exact line_fun0 l w hst hz hS hv hp hc x y hx hy g1 g2 g3 g4 g5 hn
    | true => exact line_fun1 l w hst hz hS hv hp hc x y hx hy g1 g2 g3 g4 g5 hn (by unfold sentN; rw [g1, g2, g3, g4, g5, hn]; rfl) (by unfold sentK; rw [g1, g2, g3, g4, g5]; rfl)
  | false =>
  cases g6 : Lib.hasPrefix y kc5 with
  | false => exact line_copy l w hst hz hS hv hp hc x y hx hy g1 g2 g3 g4 g5 g6 (by unfold sentN; rw [g1, g2, g3, g4, g5, g6]; rfl) (by unfold sentK; rw [g1, g2, g3, g4, g5, g6]; rfl)
  | true =>
  cases hl : listF (y.drop 5) with
  | false => exact line_call0 l w hst hz hS hv hp hc x y hx hy g1 g2 g3 g4 g5 g6 hl
  | true =>
  cases he : (listB (y.drop 5)).isEmpty with
  | false => exact line_callB l w hst hz hS hv hp hc x y hx hy g1 g2 g3 g4 g5 g6 hl he
  | true => exact line_call1 l w hst hz hS hv hp hc x y hx hy g1 g2 g3 g4 g5 g6 hl he
end Go.Proofs.YtakmmpbkojhmhaaGreatDoor

/-
  The document's ReadProgram: plain facts, and texts that are too long.
-/
namespace Go.Proofs.YtakmmpbkojhmhaaGreatDoor
open Go.RowKit Go.Extern.Stop Go.Stop Go.Extern

theorem lineEr_cases (P : ProgD) (l : Bs) : lineEr P l = 0 ∨ lineEr P l = 1 ∨ lineEr P l = 6 := by
  unfold lineEr
  split
  · unfold varEr; split
    · exact Or.inl rfl
    · exact Or.inr (Or.inl rfl)
  · split
    · unfold funEr
      split
      · exact Or.inr (Or.inl rfl)
      · split
        · exact Or.inr (Or.inl rfl)
        · exact lookE_cases _ _
    · unfold stmtEr
      split
      · exact Or.inr (Or.inl rfl)
      · split
        · exact Or.inr (Or.inl rfl)
        · split
          · split
            · exact Or.inr (Or.inr rfl)
            · exact Or.inl rfl
          · exact lookE_cases _ _
theorem part_next (P : ProgD) (l : Bs) (h : ¬ lineAt l < partOf P) : partOf (lineQ P l) = lineAt l := by
  unfold lineAt at h ⊢
  unfold lineQ
  by_cases g1 : Lib.hasPrefix l kv4 = true
  · rw [if_pos g1] at h ⊢
    rw [if_pos g1]
    unfold partOf varQ at *
    cases h1 : P.stmts.isEmpty <;> cases h2 : P.funs.isEmpty <;> simp_all
  · rw [if_neg g1] at h ⊢
    rw [if_neg g1]
    by_cases g2 : Lib.hasPrefix l kf3 = true
    · rw [if_pos g2] at h ⊢
      rw [if_pos g2]
      unfold partOf funQ at *
      cases h1 : P.stmts.isEmpty
      · rw [h1] at h; simp at h
      · simp
    · rw [if_neg g2] at h ⊢
      rw [if_neg g2]
      unfold partOf stmtQ
      simp
/-- A line that is read, and what is behind it. -/
theorem go_on (P : ProgD) (i : Nat) (rest l : Bs) (ls : List Bs) (h1 : ¬ lineAt l < partOf P) (h2 : lineEr P l = 0) : goLines P i rest (l :: ls) = goLines (lineQ P l) (i + 1) rest ls ∧ (readLineD P l).1 = lineQ P l := by
  have := line_agree P l
  rw [if_neg h1, h2] at this
  rw [goLines, this]
  exact ⟨rfl, rfl⟩
theorem go_stop (P : ProgD) (i : Nat) (rest l : Bs) (ls : List Bs) (c : Int) (h : lineAt l < partOf P ∧ c = 1 ∨ (¬ lineAt l < partOf P ∧ lineEr P l = c ∧ c ≠ 0)) : codeE (goLines P i rest (l :: ls)).2 = c ∧ placeE (goLines P i rest (l :: ls)).2 = i ∧ (goLines P i rest (l :: ls)).2.isSome = true := by
  have hag := line_agree P l
  rcases h with ⟨h1, rfl⟩ | ⟨h1, h2, h3⟩
  · rw [if_pos h1] at hag
    rw [goLines, hag]
    exact ⟨rfl, rfl, rfl⟩
  · rw [if_neg h1] at hag
    rw [goLines, hag]
    rcases lineEr_cases P l with q | q | q
    · exact absurd (h2.symm.trans q) h3
    · rw [← h2, q]; exact ⟨rfl, rfl, rfl⟩
    · rw [← h2, q]; exact ⟨rfl, rfl, rfl⟩
theorem read_of_lines {s : Bs} (hs : s.length ≤ 4000) (h : (linesD noProg 0 s).2.isSome = true) : readD s = (noProg, (linesD noProg 0 s).2) := by
  unfold readD
  rw [if_neg (by omega)]
  cases e : (linesD noProg 0 s).2 with
  | none => rw [e] at h; cases h
  | some x => rfl
theorem read_of_check {s : Bs} (hs : s.length ≤ 4000) {P : ProgD} (h : linesD noProg 0 s = (P, none)) : readD s = match checkE P with | some e => (noProg, bareE (some e)) | none => (P, none) := by
  unfold readD
  rw [if_neg (by omega), h]
  simp only
  cases checkE P <;> rfl
/-- No name of a line is longer than its line. -/
def HeldN (P : ProgD) : Prop := (∀ v ∈ P.vars, v.length ≤ 100000) ∧ (∀ f ∈ P.funs, f.name.length ≤ 100000)
theorem lineQ_names (P : ProgD) (l : Bs) (h : HeldN P) (hl : l.length ≤ 4000) : HeldN (lineQ P l) := by
  unfold lineQ
  split
  · refine ⟨fun v hv => ?_, h.2⟩
    rcases List.mem_append.1 hv with q | q
    · exact h.1 v q
    · rw [List.mem_singleton.1 q]; simp; omega
  · split
    · refine ⟨h.1, fun f hf => ?_⟩
      rcases List.mem_append.1 hf with q | q
      · exact h.2 f q
      · rw [List.mem_singleton.1 q]
        show (listN (l.drop 3)).length ≤ 100000
        have := (cut_len2 (l.drop 3) [40]).1
        unfold listN
        simp at this; omega
    · exact h
theorem lines_each (s : Bs) : (∀ x ∈ (linesOf s).1, x.length ≤ s.length) ∧ (linesOf s).2.length ≤ s.length ∧ (linesOf s).1.length ≤ s.length := by
  induction s with
  | nil => exact ⟨(fun x hx => by cases hx), Nat.le_refl _, Nat.le_refl _⟩
  | cons c r ih =>
    obtain ⟨i1, i2, i3⟩ := ih
    unfold linesOf
    split
    · refine ⟨fun x hx => ?_, by simp; omega, by simp; omega⟩
      rcases List.mem_cons.1 hx with rfl | hx
      · simp
      · have := i1 x hx; simp; omega
    · split
      · refine ⟨(fun x hx => by cases hx), by simp; omega, by simp⟩
      · rename_i l ls e
        rw [e] at i1 i3
        refine ⟨fun x hx => ?_, by simp; omega, by simp at i3 ⊢; omega⟩
        rcases List.mem_cons.1 hx with rfl | hx
        · have := i1 l (List.mem_cons_self ..); simp; omega
        · have := i1 x (List.mem_cons_of_mem _ hx); simp; omega

abbrev zeroF : Obj := .cells #[.int .i64 0, .int .i64 0] 47
theorem noProg_rows (w : World) : IsProg w (.slice none 0 0) (.slice none 0 0) (.slice none 0 0) noProg :=
  ⟨⟨_, _, rfl, Nat.le_refl _, fun _ hj => absurd hj (Nat.not_lt_zero _)⟩, ⟨_, _, rfl, Nat.le_refl _, fun _ hj => absurd hj (Nat.not_lt_zero _)⟩, ⟨_, _, rfl, Nat.le_refl _, fun _ hj => absurd hj (Nat.not_lt_zero _)⟩⟩
theorem res_f {w : World} {r : Nat} {a b : Value} {T : TypeId} (h : w.heap[r]? = some (.cells #[a, b] T (0, 0))) (x0 x1 : Value) : ((w.setCell ⟨r, 0, none⟩ x0).setCell ⟨r, 1, none⟩ x1).cell? ⟨r, 0, none⟩ = some x0 ∧ ((w.setCell ⟨r, 0, none⟩ x0).setCell ⟨r, 1, none⟩ x1).cell? ⟨r, 1, none⟩ = some x1 := by
  have h1 := set_block _ _ 0 _ _ _ h x0
  have h2 := set_block _ _ 1 _ _ _ h1 x1
  exact ⟨by rw [Lib.cell_of_heap h2]; rfl, by rw [Lib.cell_of_heap h2]; rfl⟩
/-- The two results of ReadProgram, laid. -/
theorem res5 {w : World} {n : Nat} (h1 : w.heap[n]? = some zero3) (h2 : w.heap[n + 1]? = some zeroF) (x0 x1 x2 f0 f1 : Value) :
    (((set3 w n x0 x1 x2).setCell ⟨n + 1, 0, none⟩ f0).setCell ⟨n + 1, 1, none⟩ f1).cell? ⟨n, 0, none⟩ = some x0 ∧ (((set3 w n x0 x1 x2).setCell ⟨n + 1, 0, none⟩ f0).setCell ⟨n + 1, 1, none⟩ f1).cell? ⟨n, 1, none⟩ = some x1 ∧ (((set3 w n x0 x1 x2).setCell ⟨n + 1, 0, none⟩ f0).setCell ⟨n + 1, 1, none⟩ f1).cell? ⟨n, 2, none⟩ = some x2 ∧
    (((set3 w n x0 x1 x2).setCell ⟨n + 1, 0, none⟩ f0).setCell ⟨n + 1, 1, none⟩ f1).cell? ⟨n + 1, 0, none⟩ = some f0 ∧ (((set3 w n x0 x1 x2).setCell ⟨n + 1, 0, none⟩ f0).setCell ⟨n + 1, 1, none⟩ f1).cell? ⟨n + 1, 1, none⟩ = some f1 := by
  obtain ⟨r0, r1, r2⟩ := res_cells h1 x0 x1 x2
  have hb : (set3 w n x0 x1 x2).heap[n + 1]? = some zeroF := by
    show (((w.setCell ⟨n, 0, none⟩ x0).setCell ⟨n, 1, none⟩ x1).setCell ⟨n, 2, none⟩ x2).heap[n + 1]? = _
    rw [other_block (by omega), other_block (by omega), other_block (by omega)]; exact h2
  obtain ⟨q0, q1⟩ := res_f hb f0 f1
  exact ⟨other_cell (other_cell r0 (by omega)) (by omega), other_cell (other_cell r1 (by omega)) (by omega), other_cell (other_cell r2 (by omega)) (by omega), q0, q1⟩

set_option maxRecDepth 100000 in
set_option maxHeartbeats 4000000 in
theorem refRead_long (s : Bs) (w : World) (hl : 4000 < s.length) :
    Calls Tryz.prog 39 #[.string (S s)] w fun e w' => ∃ u1 u2 u3, e = .returned (.tuple #[.agg #[u1, u2, u3], .agg #[.int .i64 (codeE (readD s).2), .int .i64 (placeE (readD s).2)]]) ∧ IsProg w' u1 u2 u3 (readD s).1 ∧ Below w.heap.size w w' := by
  have hR : readD s = (noProg, some (1, -1)) := by unfold readD; rw [if_pos hl]
  rw [hR]
  obtain ⟨b, hb⟩ : ∃ b, b = S s := ⟨_, rfl⟩
  have hbz : (4000 : Int) < b.size := by rw [hb, S_size]; omega
  rw [← hb]
  obtain ⟨W, hW⟩ : ∃ W, W = (w.alloc zero3).alloc zeroF := ⟨_, rfl⟩
  have hBW : Below w.heap.size w W := by rw [hW]; exact (below1 w _).alloc (by simp) _
  have hz1 : W.heap[w.heap.size]? = some zero3 := by rw [hW]; exact block_keep (below1 _ _) (heap_new w _)
  have hz2 : W.heap[w.heap.size + 1]? = some zeroF := by
    rw [hW]
    have := heap_new (w.alloc zero3) zeroF
    simpa using this
  have K1 : Hid (Calls Tryz.prog 60 #[.int .i64 2] W fun e w' => e = .returned (.agg #[.int .i64 2, .int .i64 (-1)]) ∧ Below W.heap.size W w') := bare_ref 2 W
  have H1 : Hid (W.heap[w.heap.size]? = some zero3 ∧ W.heap[w.heap.size + 1]? = some zeroF) := ⟨hz1, hz2⟩
  clear hR hb hl hz1 hz2
  go_enter Tryz.func39, Tryz.ntmps39
  go_wp2_with fail
  rw [← hW]
  clear hW
  refine K1.out.mono ?_
  rintro e w1 ⟨rfl, hb1⟩
  have hz1 := block_keep hb1 H1.out.1
  have hz2 := block_keep hb1 H1.out.2
  have z0 : w1.cell? ⟨w.heap.size, 0, none⟩ = some (.slice none 0 0) := by rw [Lib.cell_of_heap hz1]; rfl
  have z1 : w1.cell? ⟨w.heap.size, 1, none⟩ = some (.slice none 0 0) := by rw [Lib.cell_of_heap hz1]; rfl
  have z2 : w1.cell? ⟨w.heap.size, 2, none⟩ = some (.slice none 0 0) := by rw [Lib.cell_of_heap hz1]; rfl
  have z3 : w1.cell? ⟨w.heap.size + 1, 0, none⟩ = some (.int .i64 0) := by rw [Lib.cell_of_heap hz2]; rfl
  have z4 : w1.cell? ⟨w.heap.size + 1, 1, none⟩ = some (.int .i64 0) := by rw [Lib.cell_of_heap hz2]; rfl
  have y0 := frozen_of_block hz1 0
  have y1 := frozen_of_block hz1 1
  have y2 := frozen_of_block hz1 2
  have y3 := frozen_of_block hz2 0
  have y4 := frozen_of_block hz2 1
  have HZ : Hid (w1.heap[w.heap.size]? = some zero3 ∧ w1.heap[w.heap.size + 1]? = some zeroF) := ⟨hz1, hz2⟩
  have HB : Hid (Below w.heap.size w w1) := hBW.trans (hb1.mono hBW.size)
  clear hz1 hz2 hb1 K1 H1
  go_wp2_with fail
  obtain ⟨r0, r1, r2, r3, r4⟩ := res5 HZ.out.1 HZ.out.2 (.slice none 0 0) (.slice none 0 0) (.slice none 0 0) (.int .i64 2) (.int .i64 (-1))
  refine bodyPost_ret (v := .tuple #[.agg #[.slice none 0 0, .slice none 0 0, .slice none 0 0], .agg #[.int .i64 2, .int .i64 (-1)]]) (by simp [results, Tryz.results39, go_sem, r0, r1, r2, r3, r4]) rfl ?_
  exact ⟨_, _, _, rfl, noProg_rows _, ((below_set3 HB.out (Nat.le_refl _) _ _ _).setCell (by simp) _).setCell (by simp) _⟩
end Go.Proofs.YtakmmpbkojhmhaaGreatDoor

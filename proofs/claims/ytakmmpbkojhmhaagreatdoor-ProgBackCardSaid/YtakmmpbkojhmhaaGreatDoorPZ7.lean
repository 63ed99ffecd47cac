/-
  Package prog: Read, by a contract, where readStmt keeps its own.
-/
import Derived.Test.YtakmmpbkojhmhaaGreatDoorPZ6
import Derived.Test.YtakmmpbkojhmhaaGreatDoorPZ3
namespace Go.Proofs.YtakmmpbkojhmhaaGreatDoor
open Go.RowKit Go.Extern.Stop Go.Stop Go.Extern

theorem noProg_is (w : World) : IsProg w (.slice none 0 0) (.slice none 0 0) (.slice none 0 0) noProg :=
  ((st_new w w.heap.size (Nat.le_refl _)).isProg : IsProg (w.alloc _) _ _ _ noProg) |> fun h => ⟨
    by obtain ⟨a, c, e, hcp, _⟩ := h.vars; cases e; exact ⟨_, _, rfl, hcp, fun j hj => absurd hj (Nat.not_lt_zero _)⟩,
    by obtain ⟨a, c, e, hcp, _⟩ := h.funs; cases e; exact ⟨_, _, rfl, hcp, fun j hj => absurd hj (Nat.not_lt_zero _)⟩,
    by obtain ⟨a, c, e, hcp, _⟩ := h.stmts; cases e; exact ⟨_, _, rfl, hcp, fun j hj => absurd hj (Nat.not_lt_zero _)⟩⟩

set_option maxRecDepth 100000 in
set_option maxHeartbeats 8000000 in
theorem read_long (a : Nat → Addr) (s : Bs) (w : World) (hz : 4000 < s.length) (hE : Errs5 w a) :
    Calls Tryz.prog 38 #[.string (S s)] w fun e w' => ∃ v1 v2 v3 ev, e = .returned (.tuple #[.agg #[v1, v2, v3], ev]) ∧ IsProg w' v1 v2 v3 (readD s).1 ∧ ErrV w' a (readD s).2 ev ∧ Below w.heap.size w w' := by
  have hR : readD s = (noProg, some (1, -1)) := by unfold readD; rw [if_pos hz]
  rw [hR]
  have hsz : 4000 < (S s).size := by rw [S_size]; exact hz
  obtain ⟨b0, hb0⟩ : ∃ b, b = S s := ⟨_, rfl⟩
  rw [← hb0] at hsz ⊢
  clear hR hb0 hz
  have hsz' : (4000 : Int) < (b0.size : Int) := by omega
  have e1 := hE.c1
  have e1' := fun o => cell_keep (below1 w o) e1
  have hgl : 3 < w.heap.size := lt_of_cell e1
  have hne1 : w.heap.size ≠ 3 := by omega
  have hne2 : (3 : Nat) ≠ w.heap.size := by omega
  clear hE
  go_enter Tryz.func38, Tryz.ntmps38
  go_wp2_with fail
  go_region
  all_goals (go_wp2_with fail)
  all_goals refine bodyPost_ret (v := .tuple #[.agg #[.slice none 0 0, .slice none 0 0, .slice none 0 0], .iface 231 (.pointer (some (a 1)))]) (by simp [results, Tryz.results38, go_sem]) rfl ?_
  all_goals refine ⟨_, _, _, _, rfl, noProg_is _, Or.inr (Or.inl ⟨1, rfl, rfl⟩), ?_⟩
  all_goals repeat (first
      | exact Below.refl _ _
      | refine Below.drew ?_
      | refine Below.setCell ?_ (Nat.le_refl _) _
      | refine Below.alloc ?_ (by simp; try omega) _)

/-- A world that keeps every block but one, and that one holds three empty slices. -/
structure But (w w' : World) (r : Nat) : Prop where
  keep : ∀ b j v, b ≠ r → w.cell? ⟨b, j, none⟩ = some v → w'.cell? ⟨b, j, none⟩ = some v
  slices : ∀ j v, w.cell? ⟨r, j, none⟩ = some v → v = .slice none 0 0
theorem but_set {w : World} {r : Nat} {T : TypeId} (h : w.heap[r]? = some (.cells #[.slice none 0 0, .slice none 0 0, .slice none 0 0] T (0, 0))) (x0 x1 x2 : Value) : But w (((w.setCell ⟨r, 0, none⟩ x0).setCell ⟨r, 1, none⟩ x1).setCell ⟨r, 2, none⟩ x2) r :=
  ⟨fun b j v hb hv => other_cell (other_cell (other_cell hv hb) hb) hb, fun j v hv => by
    rw [Lib.cell_of_heap h] at hv
    rcases j with _ | _ | _ | j <;> simp at hv <;> exact hv.symm⟩
theorem But.int {w w' : World} {r b j : Nat} {k : IntKind} {n : Int} (h : But w w' r) (hc : w.cell? ⟨b, j, none⟩ = some (.int k n)) : b ≠ r := fun q => by
  rw [q] at hc; cases h.slices _ _ hc
theorem But.str {w w' : World} {r b j : Nat} {s : ByteArray} (h : But w w' r) (hc : w.cell? ⟨b, j, none⟩ = some (.string s)) : b ≠ r := fun q => by
  rw [q] at hc; cases h.slices _ _ hc
theorem But.cap {w w' : World} {r : Nat} {v : Value} {zs : List Int} (h : But w w' r) (hc : IsCap w v zs) : IsCap w' v zs := by
  refine ⟨?_, hc.2⟩
  rcases hc.1 with hi | ⟨hz, b, o, c, rfl, hi⟩
  · exact Or.inl hi
  · exact Or.inr ⟨hz, b, o, c, rfl, fun j hj => h.keep _ _ _ (h.int (hi j hj)) (hi j hj)⟩
theorem But.prog {w w' : World} {r : Nat} {v1 v2 v3 : Value} {P : ProgD} (h : But w w' r) (hp : IsProg w v1 v2 v3 P) : IsProg w' v1 v2 v3 P := by
  refine ⟨?_, ?_, ?_⟩
  · obtain ⟨a, c, rfl, hcp, hc⟩ := hp.vars
    refine ⟨a, c, rfl, hcp, fun j hj => ?_⟩
    obtain ⟨b, o, ha, e⟩ := hc j hj
    exact ⟨b, o, ha, h.keep _ _ _ (h.str e) e⟩
  · obtain ⟨a, c, rfl, hcp, hc⟩ := hp.funs
    refine ⟨a, c, rfl, hcp, fun j hj => ?_⟩
    obtain ⟨b, o, ha, pv, h1, h2, h3, h4⟩ := hc j hj
    have hb := h.str h1
    exact ⟨b, o, ha, pv, h.keep _ _ _ hb h1, h.keep _ _ _ hb h2, h.cap h3, h.keep _ _ _ hb h4⟩
  · obtain ⟨a, c, rfl, hcp, hc⟩ := hp.stmts
    refine ⟨a, c, rfl, hcp, fun j hj => ?_⟩
    obtain ⟨b, o, ha, pv, h1, h2, h3, h4, h5⟩ := hc j hj
    have hb := h.str h1
    exact ⟨b, o, ha, pv, h.keep _ _ _ hb h1, h.keep _ _ _ hb h2, h.keep _ _ _ hb h3, h.keep _ _ _ hb h4, h.cap h5⟩

def readR (P : ProgD) : ErrD → ErrD → ProgD × ErrD
  | some e, _ => (noProg, some e)
  | none, some e => (noProg, bareE (some e))
  | none, none => (P, none)
theorem readD_short (s : Bs) (hz : s.length ≤ 4000) : readD s = readR (linesD noProg 0 s).1 (linesD noProg 0 s).2 (checkE (linesD noProg 0 s).1) := by
  unfold readD
  rw [if_neg (by omega)]
  cases (linesD noProg 0 s).2 with
  | some e => rfl
  | none => cases checkE (linesD noProg 0 s).1 <;> rfl

set_option maxRecDepth 100000 in
set_option maxHeartbeats 8000000 in
theorem read_short (OK : ReadStmtOk) (a : Nat → Addr) (s : Bs) (w : World) (hz : s.length ≤ 4000) (hE : ErrsT w a) (hM : MaxL w) :
    Calls Tryz.prog 38 #[.string (S s)] w fun e w' => ∃ v1 v2 v3 ev, e = .returned (.tuple #[.agg #[v1, v2, v3], ev]) ∧ IsProg w' v1 v2 v3 (readD s).1 ∧ ErrV w' a (readD s).2 ev ∧ Below w.heap.size w w' := by
  have HE : Hid (ErrsT w a) := hE
  have HSM : Hid (SmallP (linesD noProg 0 s).1) := lines_small s hz
  have K1 : Hid (∀ wx, Below w.heap.size w wx → Calls Tryz.prog 78 #[.string (S s)] wx fun e w' => ∃ v1 v2 v3 ev, e = .returned (.tuple #[.agg #[v1, v2, v3], ev]) ∧ IsProg w' v1 v2 v3 (linesD noProg 0 s).1 ∧ ErrV w' a (linesD noProg 0 s).2 ev ∧ Below wx.heap.size wx w') := fun wx hb => readLines_any OK a s wx hz (hE.five.below hb) (hM.below hb)
  have hr := readD_short s hz
  obtain ⟨R, hR⟩ : ∃ R, R = readD s := ⟨_, rfl⟩
  obtain ⟨P, hP⟩ : ∃ P, P = (linesD noProg 0 s).1 := ⟨_, rfl⟩
  obtain ⟨E, hEE⟩ : ∃ E, E = (linesD noProg 0 s).2 := ⟨_, rfl⟩
  rw [← hR, ← hP, ← hEE] at hr
  rw [← hP] at HSM
  rw [← hP, ← hEE] at K1
  rw [← hR]
  have HR : Hid (R = readR P E (checkE P)) := hr
  have hsz : (S s).size ≤ 4000 := by rw [S_size]; exact hz
  obtain ⟨b0, hb0⟩ : ∃ b, b = S s := ⟨_, rfl⟩
  rw [← hb0] at hsz K1 ⊢
  have hsz' : ((b0.size : Int)) ≤ 4000 := by omega
  clear hR hP hEE hr hb0 hz hE hM OK
  go_enter Tryz.func38, Tryz.ntmps38
  go_wp2_with fail
  refine (K1.out _ (below1 w _)).mono ?_
  rintro e w2 ⟨v1, v2, v3, ev, rfl, hp, hv, hB⟩
  have hblk := block_keep hB (heap_new w (.cells #[.slice none 0 0, .slice none 0 0, .slice none 0 0] 43))
  have hB2 : Below w.heap.size w w2 := (below1 w _).trans (hB.mono (by simp))
  have hrz : w.heap.size < w2.heap.size := (Array.getElem?_eq_some_iff.1 hblk).1
  have HBLK : Hid (w2.heap[w.heap.size]? = some (.cells #[.slice none 0 0, .slice none 0 0, .slice none 0 0] 43 (0, 0))) := hblk
  have HP : Hid (IsProg w2 v1 v2 v3 P) := hp
  have HV : Hid (ErrV w2 a E ev) := hv
  obtain ⟨a1, n1, rfl, _⟩ := hp.vars
  obtain ⟨a2, n2, rfl, _⟩ := hp.funs
  obtain ⟨a3, n3, rfl, _⟩ := hp.stmts
  clear K1 hB hblk hp
  have f0 := frozen_of_block HBLK.out 0
  have f1 := frozen_of_block HBLK.out 1
  have f2 := frozen_of_block HBLK.out 2
  have c0 : w2.cell? ⟨w.heap.size, 0, none⟩ = some (.slice none 0 0) := by rw [Lib.cell_of_heap HBLK.out]; rfl
  have c1 : w2.cell? ⟨w.heap.size, 1, none⟩ = some (.slice none 0 0) := by rw [Lib.cell_of_heap HBLK.out]; rfl
  have c2 : w2.cell? ⟨w.heap.size, 2, none⟩ = some (.slice none 0 0) := by rw [Lib.cell_of_heap HBLK.out]; rfl
  have g0 := fun x0 x1 x2 o => cell_keep (below1 _ o) (res_cells HBLK.out x0 x1 x2).1
  have g1 := fun x0 x1 x2 o => cell_keep (below1 _ o) (res_cells HBLK.out x0 x1 x2).2.1
  have g2 := fun x0 x1 x2 o => cell_keep (below1 _ o) (res_cells HBLK.out x0 x1 x2).2.2
  have HB3 : Hid (∀ x0 x1 x2 o, Below w.heap.size w ((((w2.setCell ⟨w.heap.size, 0, none⟩ x0).setCell ⟨w.heap.size, 1, none⟩ x1).setCell ⟨w.heap.size, 2, none⟩ x2).alloc o)) := fun x0 x1 x2 o => by
    have h := ((hB2.setCell (p := ⟨w.heap.size, 0, none⟩) (Nat.le_refl _) x0).setCell (p := ⟨w.heap.size, 1, none⟩) (Nat.le_refl _) x1).setCell (p := ⟨w.heap.size, 2, none⟩) (Nat.le_refl _) x2
    exact h.alloc h.size _
  rcases hv with ⟨rfl, rfl⟩ | ⟨i, rfl, rfl⟩ | ⟨i, n, b, o, rfl, hn0, rfl, hc4, hc5⟩
  · have K2 : Hid (∀ o, Calls Tryz.prog 28 #[.agg #[.slice a1 P.vars.length n1, .slice a2 P.funs.length n2, .slice a3 P.stmts.length n3]] (w2.alloc o) fun e w' => ∃ v', e = .returned v' ∧ ErrV w' a (checkE P) v' ∧ Below (w2.alloc o).heap.size (w2.alloc o) w') := fun o =>
      check_any a P _ _ _ _ HSM.out (HP.out.below (below1 w2 o)) ((HE.out.five.below hB2).below (below1 w2 o))
    go_wp2_with fail
    refine (K2.out _).mono ?_
    rintro e w3 ⟨v', rfl, hv', hB3⟩
    have hBw : Below w.heap.size w w3 := (hB2.alloc hB2.size _).trans (hB3.mono (hB2.alloc hB2.size _).size)
    have hblk3 := block_keep hB3 (block_keep (below1 w2 _) HBLK.out)
    have q0 := cell_keep hB3 (new_cell w2 w2.heap.size 0 _ _ _ rfl rfl)
    have q1 := cell_keep hB3 (new_cell w2 w2.heap.size 1 _ _ _ rfl rfl)
    have q2 := cell_keep hB3 (new_cell w2 w2.heap.size 2 _ _ _ rfl rfl)
    have HP3 : Hid (IsProg w3 (.slice a1 P.vars.length n1) (.slice a2 P.funs.length n2) (.slice a3 P.stmts.length n3) P) := (HP.out.below (below1 w2 _)).below hB3
    have HBLK3 : Hid (w3.heap[w.heap.size]? = some (.cells #[.slice none 0 0, .slice none 0 0, .slice none 0 0] 43 (0, 0))) := hblk3
    have HBW : Hid (Below w.heap.size w w3) := hBw
    have HV3 : Hid (ErrV w3 a (checkE P) v') := hv'
    clear hB3 f0 f1 f2 c0 c1 c2 g0 g1 g2 hblk3 hBw K2
    have f0 := frozen_of_block HBLK3.out 0
    have f1 := frozen_of_block HBLK3.out 1
    have f2 := frozen_of_block HBLK3.out 2
    have c0 : w3.cell? ⟨w.heap.size, 0, none⟩ = some (.slice none 0 0) := by rw [Lib.cell_of_heap HBLK3.out]; rfl
    have c1 : w3.cell? ⟨w.heap.size, 1, none⟩ = some (.slice none 0 0) := by rw [Lib.cell_of_heap HBLK3.out]; rfl
    have c2 : w3.cell? ⟨w.heap.size, 2, none⟩ = some (.slice none 0 0) := by rw [Lib.cell_of_heap HBLK3.out]; rfl
    have g0 := fun x0 x1 x2 => (res_cells HBLK3.out x0 x1 x2).1
    have g1 := fun x0 x1 x2 => (res_cells HBLK3.out x0 x1 x2).2.1
    have g2 := fun x0 x1 x2 => (res_cells HBLK3.out x0 x1 x2).2.2
    have hB4 : ∀ x0 x1 x2, Below w.heap.size w (((w3.setCell ⟨w.heap.size, 0, none⟩ x0).setCell ⟨w.heap.size, 1, none⟩ x1).setCell ⟨w.heap.size, 2, none⟩ x2) := fun x0 x1 x2 =>
      ((HBW.out.setCell (p := ⟨w.heap.size, 0, none⟩) (Nat.le_refl _) x0).setCell (p := ⟨w.heap.size, 1, none⟩) (Nat.le_refl _) x1).setCell (p := ⟨w.heap.size, 2, none⟩) (Nat.le_refl _) x2
    have HB4 : Hid (∀ x0 x1 x2, Below w.heap.size w (((w3.setCell ⟨w.heap.size, 0, none⟩ x0).setCell ⟨w.heap.size, 1, none⟩ x1).setCell ⟨w.heap.size, 2, none⟩ x2)) := hB4
    clear hB4
    rcases hv' with ⟨hc, rfl⟩ | ⟨i, hc, rfl⟩ | ⟨i, n, b, o, hc, _, rfl, _, _⟩
    · have HR2 : Hid (R = (P, none)) := by show R = _; rw [HR.out, hc]; rfl
      clear hc
      go_wp2_with fail
      refine bodyPost_ret (v := .tuple #[.agg #[.slice a1 P.vars.length n1, .slice a2 P.funs.length n2, .slice a3 P.stmts.length n3], .nilIface]) (by simp [results, Tryz.results38, go_sem, c0, c1, c2]) rfl ?_
      rw [HR2.out]
      exact ⟨_, _, _, _, rfl, (but_set HBLK3.out _ _ _).prog HP3.out, Or.inl ⟨rfl, rfl⟩, HB4.out _ _ _⟩
    all_goals
      have K3 := bare_any a _ _ w3 HV3.out (by rw [hc]; exact fun q => nomatch q) (HE.out.below HBW.out)
      clear f0 f1 f2 c0 c1 c2 g0 g1 g2
      go_wp2_with fail
      refine K3.mono ?_
      rintro e w4 ⟨i', n', hi, rfl, hB4⟩
      have HR2 : Hid (R = (noProg, some (i', -1))) := by show R = _; rw [HR.out, hi]; rfl
      have hblk4 := block_keep hB4 HBLK3.out
      have f0 := frozen_of_block hblk4 0
      have f1 := frozen_of_block hblk4 1
      have f2 := frozen_of_block hblk4 2
      have c0 : w4.cell? ⟨w.heap.size, 0, none⟩ = some (.slice none 0 0) := by rw [Lib.cell_of_heap hblk4]; rfl
      have c1 : w4.cell? ⟨w.heap.size, 1, none⟩ = some (.slice none 0 0) := by rw [Lib.cell_of_heap hblk4]; rfl
      have c2 : w4.cell? ⟨w.heap.size, 2, none⟩ = some (.slice none 0 0) := by rw [Lib.cell_of_heap hblk4]; rfl
      have hb4 := HBW.out.trans (hB4.mono HBW.out.size)
      have HB5 : Hid (∀ x0 x1 x2, Below w.heap.size w (((w4.setCell ⟨w.heap.size, 0, none⟩ x0).setCell ⟨w.heap.size, 1, none⟩ x1).setCell ⟨w.heap.size, 2, none⟩ x2)) := fun x0 x1 x2 =>
        ((hb4.setCell (p := ⟨w.heap.size, 0, none⟩) (Nat.le_refl _) x0).setCell (p := ⟨w.heap.size, 1, none⟩) (Nat.le_refl _) x1).setCell (p := ⟨w.heap.size, 2, none⟩) (Nat.le_refl _) x2
      clear hb4 hB4 hblk4 hi hc
      go_wp2_with fail
      refine bodyPost_ret (v := .tuple #[.agg #[.slice none 0 0, .slice none 0 0, .slice none 0 0], .iface 231 (.pointer (some (a i')))]) (by simp [results, Tryz.results38, go_sem, c0, c1, c2]) rfl ?_
      rw [HR2.out]
      exact ⟨_, _, _, _, rfl, noProg_is _, Or.inr (Or.inl ⟨i', rfl, rfl⟩), HB5.out _ _ _⟩
  · go_wp2_with fail
    refine bodyPost_ret (v := .tuple #[.agg #[.slice none 0 0, .slice none 0 0, .slice none 0 0], .iface 231 (.pointer (some (a i)))]) (by simp [results, Tryz.results38, go_sem, g0, g1, g2]) rfl ?_
    rw [HR.out]
    refine ⟨_, _, _, _, rfl, noProg_is _, Or.inr (Or.inl ⟨i, rfl, rfl⟩), ?_⟩
    exact HB3.out _ _ _ _
  · have hbn : b ≠ w.heap.size := fun q => by
      rw [q, Lib.cell_of_heap HBLK.out] at hc4
      rcases o with _ | _ | _ | o <;> simp at hc4
    have HO : Hid (∀ x0 x1 x2 o' j v, w2.cell? ⟨b, j, none⟩ = some v → ((((w2.setCell ⟨w.heap.size, 0, none⟩ x0).setCell ⟨w.heap.size, 1, none⟩ x1).setCell ⟨w.heap.size, 2, none⟩ x2).alloc o').cell? ⟨b, j, none⟩ = some v) := fun x0 x1 x2 o' j v h =>
      cell_keep (below1 _ _) (other_cell (other_cell (other_cell h hbn) hbn) hbn)
    go_wp2_with fail
    refine bodyPost_ret (v := .tuple #[.agg #[.slice none 0 0, .slice none 0 0, .slice none 0 0], .iface 88 (.pointer (some ⟨b, o, none⟩))]) (by simp [results, Tryz.results38, go_sem, g0, g1, g2]) rfl ?_
    rw [HR.out]
    refine ⟨_, _, _, _, rfl, noProg_is _, ?_, ?_⟩
    · exact Or.inr (Or.inr ⟨i, n, b, o, rfl, hn0, rfl, HO.out _ _ _ _ _ _ hc4, HO.out _ _ _ _ _ _ hc5⟩)
    · exact HB3.out _ _ _ _

theorem read_any (OK : ReadStmtOk) (a : Nat → Addr) (s : Bs) (w : World) (hE : ErrsT w a) (hM : MaxL w) :
    Calls Tryz.prog 38 #[.string (S s)] w fun e w' => ∃ v1 v2 v3 ev, e = .returned (.tuple #[.agg #[v1, v2, v3], ev]) ∧ IsProg w' v1 v2 v3 (readD s).1 ∧ ErrV w' a (readD s).2 ev ∧ Below w.heap.size w w' := by
  rcases Nat.lt_or_ge 4000 s.length with h | h
  · exact read_long a s w h hE.five
  · exact read_short OK a s w h hE hM
end Go.Proofs.YtakmmpbkojhmhaaGreatDoor

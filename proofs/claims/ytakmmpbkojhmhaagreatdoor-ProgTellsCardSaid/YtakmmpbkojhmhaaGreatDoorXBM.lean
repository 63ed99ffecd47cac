/-
  Package prog: Read, by a contract, where readStmt keeps its own.
-/
import Derived.Test.YtakmmpbkojhmhaaGreatDoorXZM
import Derived.Test.YtakmmpbkojhmhaaGreatDoorPZ3
import Derived.Test.YtakmmpbkojhmhaaGreatDoorPO
import Derived.Test.YtakmmpbkojhmhaaGreatDoorPJ2
import Derived.Test.YtakmmpbkojhmhaaGreatDoorPYM
import Derived.Test.YtakmmpbkojhmhaaGreatDoorXJM
import Derived.Test.YtakmmpbkojhmhaaGreatDoorPZ8
import Derived.Deep.DeepCutAuto
namespace Go.Proofs.YtakmmpbkojhmhaaGreatDoor
open Go.RowKit Go.Extern.Stop Go.Stop Go.Extern

theorem noProg_is (w : World) : IsProg w (.slice none 0 0) (.slice none 0 0) (.slice none 0 0) noProg :=
  ((st_new w w.heap.size (Nat.le_refl _)).isProg : IsProg (w.alloc _) _ _ _ noProg) |> fun h => ⟨
    by obtain ⟨a, c, e, hcp, _⟩ := h.vars; cases e; exact ⟨_, _, rfl, hcp, fun j hj => absurd hj (Nat.not_lt_zero _)⟩,
    by obtain ⟨a, c, e, hcp, _⟩ := h.funs; cases e; exact ⟨_, _, rfl, hcp, fun j hj => absurd hj (Nat.not_lt_zero _)⟩,
    by obtain ⟨a, c, e, hcp, _⟩ := h.stmts; cases e; exact ⟨_, _, rfl, hcp, fun j hj => absurd hj (Nat.not_lt_zero _)⟩⟩

set_option maxRecDepth 100000 in
set_option maxHeartbeats 8000000 in
theorem read_long (a : Nat → Addr) (s : Bs) (w : World) (hz : 4000 < s.length) (hE : Errs5 w a) :
    Calls Tryz.prog 38 #[.string (S s)] w fun e w' => ∃ v1 v2 v3 ev, e = .returned (.tuple #[.agg #[v1, v2, v3], ev]) ∧ IsProg w' v1 v2 v3 (readD s).1 ∧ ErrV w' a (readD s).2 ev ∧ Below w.heap.size w w' := by
  have hR : readD s = (noProg, some (1, -1)) := by unfold readD; rw [if_pos hz]
  rw [hR]
  have hsz : 4000 < (S s).size := by rw [S_size]; exact hz
  obtain ⟨b0, hb0⟩ : ∃ b, b = S s := ⟨_, rfl⟩
  rw [← hb0] at hsz ⊢
  clear hR hb0 hz
  have hsz' : (4000 : Int) < (b0.size : Int) := by omega
  have e1 := hE.c1
  have e1' := fun o => cell_keep (below1 w o) e1
  have hgl : 3 < w.heap.size := lt_of_cell e1
  have hne1 : w.heap.size ≠ 3 := by omega
  have hne2 : (3 : Nat) ≠ w.heap.size := by omega
  clear hE
  go_enter Tryz.func38, Tryz.ntmps38
  go_wp2_with fail
  go_region
  all_goals (go_wp2_with fail)
  all_goals refine bodyPost_ret (v := .tuple #[.agg #[.slice none 0 0, .slice none 0 0, .slice none 0 0], .iface 231 (.pointer (some (a 1)))]) (by simp [results, Tryz.results38, go_sem]) rfl ?_
  all_goals refine ⟨_, _, _, _, rfl, noProg_is _, Or.inr (Or.inl ⟨1, rfl, rfl⟩), ?_⟩
  all_goals repeat (first
      | exact Below.refl _ _
      | refine Below.drew ?_
      | refine Below.setCell ?_ (Nat.le_refl _) _
      | refine Below.alloc ?_ (by simp; try omega) _)

/-- A world that keeps every block but one, and that one holds three empty slices. -/
structure But (w w' : World) (r : Nat) : Prop where
  keep : ∀ b j v, b ≠ r → w.cell? ⟨b, j, none⟩ = some v → w'.cell? ⟨b, j, none⟩ = some v
  slices : ∀ j v, w.cell? ⟨r, j, none⟩ = some v → v = .slice none 0 0
theorem but_set {w : World} {r : Nat} {T : TypeId} (h : w.heap[r]? = some (.cells #[.slice none 0 0, .slice none 0 0, .slice none 0 0] T (0, 0))) (x0 x1 x2 : Value) : But w (((w.setCell ⟨r, 0, none⟩ x0).setCell ⟨r, 1, none⟩ x1).setCell ⟨r, 2, none⟩ x2) r :=
  ⟨fun b j v hb hv => other_cell (other_cell (other_cell hv hb) hb) hb, fun j v hv => by
    rw [Lib.cell_of_heap h] at hv
    rcases j with _ | _ | _ | j <;> simp at hv <;> exact hv.symm⟩
theorem But.int {w w' : World} {r b j : Nat} {k : IntKind} {n : Int} (h : But w w' r) (hc : w.cell? ⟨b, j, none⟩ = some (.int k n)) : b ≠ r := fun q => by
  rw [q] at hc; cases h.slices _ _ hc
theorem But.str {w w' : World} {r b j : Nat} {s : ByteArray} (h : But w w' r) (hc : w.cell? ⟨b, j, none⟩ = some (.string s)) : b ≠ r := fun q => by
  rw [q] at hc; cases h.slices _ _ hc
theorem But.cap {w w' : World} {r : Nat} {v : Value} {zs : List Int} (h : But w w' r) (hc : IsCap w v zs) : IsCap w' v zs := by
  refine ⟨?_, hc.2⟩
  rcases hc.1 with hi | ⟨hz, b, o, c, rfl, hi⟩
  · exact Or.inl hi
  · exact Or.inr ⟨hz, b, o, c, rfl, fun j hj => h.keep _ _ _ (h.int (hi j hj)) (hi j hj)⟩
theorem But.prog {w w' : World} {r : Nat} {v1 v2 v3 : Value} {P : ProgD} (h : But w w' r) (hp : IsProg w v1 v2 v3 P) : IsProg w' v1 v2 v3 P := by
  refine ⟨?_, ?_, ?_⟩
  · obtain ⟨a, c, rfl, hcp, hc⟩ := hp.vars
    refine ⟨a, c, rfl, hcp, fun j hj => ?_⟩
    obtain ⟨b, o, ha, e⟩ := hc j hj
    exact ⟨b, o, ha, h.keep _ _ _ (h.str e) e⟩
  · obtain ⟨a, c, rfl, hcp, hc⟩ := hp.funs
    refine ⟨a, c, rfl, hcp, fun j hj => ?_⟩
    obtain ⟨b, o, ha, pv, h1, h2, h3, h4⟩ := hc j hj
    have hb := h.str h1
    exact ⟨b, o, ha, pv, h.keep _ _ _ hb h1, h.keep _ _ _ hb h2, h.cap h3, h.keep _ _ _ hb h4⟩
  · obtain ⟨a, c, rfl, hcp, hc⟩ := hp.stmts
    refine ⟨a, c, rfl, hcp, fun j hj => ?_⟩
    obtain ⟨b, o, ha, pv, h1, h2, h3, h4, h5⟩ := hc j hj
    have hb := h.str h1
    exact ⟨b, o, ha, pv, h.keep _ _ _ hb h1, h.keep _ _ _ hb h2, h.keep _ _ _ hb h3, h.keep _ _ _ hb h4, h.cap h5⟩

def readR (P : ProgD) : ErrD → ErrD → ProgD × ErrD
  | some e, _ => (noProg, some e)
  | none, some e => (noProg, bareE (some e))
  | none, none => (P, none)
theorem readD_short (s : Bs) (hz : s.length ≤ 4000) : readD s = readR (linesD noProg 0 s).1 (linesD noProg 0 s).2 (checkE (linesD noProg 0 s).1) := by
  unfold readD
  rw [if_neg (by omega)]
  cases (linesD noProg 0 s).2 with
  | some e => rfl
  | none => cases checkE (linesD noProg 0 s).1 <;> rfl

set_option maxRecDepth 100000 in
set_option maxHeartbeats 8000000 in
theorem read_short (OK : ReadStmtOk) (a : Nat → Addr) (s : Bs) (w : World) (hz : s.length ≤ 4000) (hE : ErrsT w a) (hM : MaxL w) :
    Calls Tryz.prog 38 #[.string (S s)] w fun e w' => ∃ v1 v2 v3 ev, e = .returned (.tuple #[.agg #[v1, v2, v3], ev]) ∧ IsProg w' v1 v2 v3 (readD s).1 ∧ ErrV w' a (readD s).2 ev ∧ Below w.heap.size w w' := by
  have HE : Hid (ErrsT w a) := hE
  have HSM : Hid (SmallP (linesD noProg 0 s).1) := lines_small s hz
  have K1 : Hid (∀ wx, Below w.heap.size w wx → Calls Tryz.prog 78 #[.string (S s)] wx fun e w' => ∃ v1 v2 v3 ev, e = .returned (.tuple #[.agg #[v1, v2, v3], ev]) ∧ IsProg w' v1 v2 v3 (linesD noProg 0 s).1 ∧ ErrV w' a (linesD noProg 0 s).2 ev ∧ Below wx.heap.size wx w') := fun wx hb => readLines_any OK a s wx hz (hE.five.below hb) (hM.below hb)
  have hr := readD_short s hz
  obtain ⟨R, hR⟩ : ∃ R, R = readD s := ⟨_, rfl⟩
  obtain ⟨P, hP⟩ : ∃ P, P = (linesD noProg 0 s).1 := ⟨_, rfl⟩
  obtain ⟨E, hEE⟩ : ∃ E, E = (linesD noProg 0 s).2 := ⟨_, rfl⟩
  rw [← hR, ← hP, ← hEE] at hr
  rw [← hP] at HSM
  rw [← hP, ← hEE] at K1
  rw [← hR]
  have HR : Hid (R = readR P E (checkE P)) := hr
  have hsz : (S s).size ≤ 4000 := by rw [S_size]; exact hz
  obtain ⟨b0, hb0⟩ : ∃ b, b = S s := ⟨_, rfl⟩
  rw [← hb0] at hsz K1 ⊢
  have hsz' : ((b0.size : Int)) ≤ 4000 := by omega
  clear hR hP hEE hr hb0 hz hE hM OK
  go_enter Tryz.func38, Tryz.ntmps38
  go_wp2_with fail
  refine (K1.out _ (below1 w _)).mono ?_
  rintro e w2 ⟨v1, v2, v3, ev, rfl, hp, hv, hB⟩
  have hblk := block_keep hB (heap_new w (.cells #[.slice none 0 0, .slice none 0 0, .slice none 0 0] 43))
  have hB2 : Below w.heap.size w w2 := (below1 w _).trans (hB.mono (by simp))
  have hrz : w.heap.size < w2.heap.size := (Array.getElem?_eq_some_iff.1 hblk).1
  have HBLK : Hid (w2.heap[w.heap.size]? = some (.cells #[.slice none 0 0, .slice none 0 0, .slice none 0 0] 43 (0, 0))) := hblk
  have HP : Hid (IsProg w2 v1 v2 v3 P) := hp
  have HV : Hid (ErrV w2 a E ev) := hv
  obtain ⟨a1, n1, rfl, _⟩ := hp.vars
  obtain ⟨a2, n2, rfl, _⟩ := hp.funs
  obtain ⟨a3, n3, rfl, _⟩ := hp.stmts
  clear K1 hB hblk hp
  have f0 := frozen_of_block HBLK.out 0
  have f1 := frozen_of_block HBLK.out 1
  have f2 := frozen_of_block HBLK.out 2
  have c0 : w2.cell? ⟨w.heap.size, 0, none⟩ = some (.slice none 0 0) := by rw [Lib.cell_of_heap HBLK.out]; rfl
  have c1 : w2.cell? ⟨w.heap.size, 1, none⟩ = some (.slice none 0 0) := by rw [Lib.cell_of_heap HBLK.out]; rfl
  have c2 : w2.cell? ⟨w.heap.size, 2, none⟩ = some (.slice none 0 0) := by rw [Lib.cell_of_heap HBLK.out]; rfl
  have g0 := fun x0 x1 x2 o => cell_keep (below1 _ o) (res_cells HBLK.out x0 x1 x2).1
  have g1 := fun x0 x1 x2 o => cell_keep (below1 _ o) (res_cells HBLK.out x0 x1 x2).2.1
  have g2 := fun x0 x1 x2 o => cell_keep (below1 _ o) (res_cells HBLK.out x0 x1 x2).2.2
  have HB3 : Hid (∀ x0 x1 x2 o, Below w.heap.size w ((((w2.setCell ⟨w.heap.size, 0, none⟩ x0).setCell ⟨w.heap.size, 1, none⟩ x1).setCell ⟨w.heap.size, 2, none⟩ x2).alloc o)) := fun x0 x1 x2 o => by
    have h := ((hB2.setCell (p := ⟨w.heap.size, 0, none⟩) (Nat.le_refl _) x0).setCell (p := ⟨w.heap.size, 1, none⟩) (Nat.le_refl _) x1).setCell (p := ⟨w.heap.size, 2, none⟩) (Nat.le_refl _) x2
    exact h.alloc h.size _
  rcases hv with ⟨rfl, rfl⟩ | ⟨i, rfl, rfl⟩ | ⟨i, n, b, o, rfl, hn0, rfl, hc4, hc5⟩
  · have K2 : Hid (∀ o, Calls Tryz.prog 28 #[.agg #[.slice a1 P.vars.length n1, .slice a2 P.funs.length n2, .slice a3 P.stmts.length n3]] (w2.alloc o) fun e w' => ∃ v', e = .returned v' ∧ ErrV w' a (checkE P) v' ∧ Below (w2.alloc o).heap.size (w2.alloc o) w') := fun o =>
      check_any a P _ _ _ _ HSM.out (HP.out.below (below1 w2 o)) ((HE.out.five.below hB2).below (below1 w2 o))
    go_wp2_with fail
    refine (K2.out _).mono ?_
    rintro e w3 ⟨v', rfl, hv', hB3⟩
    have hBw : Below w.heap.size w w3 := (hB2.alloc hB2.size _).trans (hB3.mono (hB2.alloc hB2.size _).size)
    have hblk3 := block_keep hB3 (block_keep (below1 w2 _) HBLK.out)
    have q0 := cell_keep hB3 (new_cell w2 w2.heap.size 0 _ _ _ rfl rfl)
    have q1 := cell_keep hB3 (new_cell w2 w2.heap.size 1 _ _ _ rfl rfl)
    have q2 := cell_keep hB3 (new_cell w2 w2.heap.size 2 _ _ _ rfl rfl)
    have HP3 : Hid (IsProg w3 (.slice a1 P.vars.length n1) (.slice a2 P.funs.length n2) (.slice a3 P.stmts.length n3) P) := (HP.out.below (below1 w2 _)).below hB3
    have HBLK3 : Hid (w3.heap[w.heap.size]? = some (.cells #[.slice none 0 0, .slice none 0 0, .slice none 0 0] 43 (0, 0))) := hblk3
    have HBW : Hid (Below w.heap.size w w3) := hBw
    have HV3 : Hid (ErrV w3 a (checkE P) v') := hv'
    clear hB3 f0 f1 f2 c0 c1 c2 g0 g1 g2 hblk3 hBw K2
    have f0 := frozen_of_block HBLK3.out 0
    have f1 := frozen_of_block HBLK3.out 1
    have f2 := frozen_of_block HBLK3.out 2
    have c0 : w3.cell? ⟨w.heap.size, 0, none⟩ = some (.slice none 0 0) := by rw [Lib.cell_of_heap HBLK3.out]; rfl
    have c1 : w3.cell? ⟨w.heap.size, 1, none⟩ = some (.slice none 0 0) := by rw [Lib.cell_of_heap HBLK3.out]; rfl
    have c2 : w3.cell? ⟨w.heap.size, 2, none⟩ = some (.slice none 0 0) := by rw [Lib.cell_of_heap HBLK3.out]; rfl
    have g0 := fun x0 x1 x2 => (res_cells HBLK3.out x0 x1 x2).1
    have g1 := fun x0 x1 x2 => (res_cells HBLK3.out x0 x1 x2).2.1
    have g2 := fun x0 x1 x2 => (res_cells HBLK3.out x0 x1 x2).2.2
    have hB4 : ∀ x0 x1 x2, Below w.heap.size w (((w3.setCell ⟨w.heap.size, 0, none⟩ x0).setCell ⟨w.heap.size, 1, none⟩ x1).setCell ⟨w.heap.size, 2, none⟩ x2) := fun x0 x1 x2 =>
      ((HBW.out.setCell (p := ⟨w.heap.size, 0, none⟩) (Nat.le_refl _) x0).setCell (p := ⟨w.heap.size, 1, none⟩) (Nat.le_refl _) x1).setCell (p := ⟨w.heap.size, 2, none⟩) (Nat.le_refl _) x2
    have HB4 : Hid (∀ x0 x1 x2, Below w.heap.size w (((w3.setCell ⟨w.heap.size, 0, none⟩ x0).setCell ⟨w.heap.size, 1, none⟩ x1).setCell ⟨w.heap.size, 2, none⟩ x2)) := hB4
    clear hB4
    rcases hv' with ⟨hc, rfl⟩ | ⟨i, hc, rfl⟩ | ⟨i, n, b, o, hc, _, rfl, _, _⟩
    · have HR2 : Hid (R = (P, none)) := by show R = _; rw [HR.out, hc]; rfl
      clear hc
      go_wp2_with fail
      refine bodyPost_ret (v := .tuple #[.agg #[.slice a1 P.vars.length n1, .slice a2 P.funs.length n2, .slice a3 P.stmts.length n3], .nilIface]) (by simp [results, Tryz.results38, go_sem, c0, c1, c2]) rfl ?_
      rw [HR2.out]
      exact ⟨_, _, _, _, rfl, (but_set HBLK3.out _ _ _).prog HP3.out, Or.inl ⟨rfl, rfl⟩, HB4.out _ _ _⟩
    all_goals
      have K3 := bare_any a _ _ w3 HV3.out (by rw [hc]; exact fun q => nomatch q) (HE.out.below HBW.out)
      clear f0 f1 f2 c0 c1 c2 g0 g1 g2
      go_wp2_with fail
      refine K3.mono ?_
      rintro e w4 ⟨i', n', hi, rfl, hB4⟩
      have HR2 : Hid (R = (noProg, some (i', -1))) := by show R = _; rw [HR.out, hi]; rfl
      have hblk4 := block_keep hB4 HBLK3.out
      have f0 := frozen_of_block hblk4 0
      have f1 := frozen_of_block hblk4 1
      have f2 := frozen_of_block hblk4 2
      have c0 : w4.cell? ⟨w.heap.size, 0, none⟩ = some (.slice none 0 0) := by rw [Lib.cell_of_heap hblk4]; rfl
      have c1 : w4.cell? ⟨w.heap.size, 1, none⟩ = some (.slice none 0 0) := by rw [Lib.cell_of_heap hblk4]; rfl
      have c2 : w4.cell? ⟨w.heap.size, 2, none⟩ = some (.slice none 0 0) := by rw [Lib.cell_of_heap hblk4]; rfl
      have hb4 := HBW.out.trans (hB4.mono HBW.out.size)
      have HB5 : Hid (∀ x0 x1 x2, Below w.heap.size w (((w4.setCell ⟨w.heap.size, 0, none⟩ x0).setCell ⟨w.heap.size, 1, none⟩ x1).setCell ⟨w.heap.size, 2, none⟩ x2)) := fun x0 x1 x2 =>
        ((hb4.setCell (p := ⟨w.heap.size, 0, none⟩) (Nat.le_refl _) x0).setCell (p := ⟨w.heap.size, 1, none⟩) (Nat.le_refl _) x1).setCell (p := ⟨w.heap.size, 2, none⟩) (Nat.le_refl _) x2
      clear hb4 hB4 hblk4 hi hc
      go_wp2_with fail
      refine bodyPost_ret (v := .tuple #[.agg #[.slice none 0 0, .slice none 0 0, .slice none 0 0], .iface 231 (.pointer (some (a i')))]) (by simp [results, Tryz.results38, go_sem, c0, c1, c2]) rfl ?_
      rw [HR2.out]
      exact ⟨_, _, _, _, rfl, noProg_is _, Or.inr (Or.inl ⟨i', rfl, rfl⟩), HB5.out _ _ _⟩
  · go_wp2_with fail
    refine bodyPost_ret (v := .tuple #[.agg #[.slice none 0 0, .slice none 0 0, .slice none 0 0], .iface 231 (.pointer (some (a i)))]) (by simp [results, Tryz.results38, go_sem, g0, g1, g2]) rfl ?_
    rw [HR.out]
    refine ⟨_, _, _, _, rfl, noProg_is _, Or.inr (Or.inl ⟨i, rfl, rfl⟩), ?_⟩
    exact HB3.out _ _ _ _
  · have hbn : b ≠ w.heap.size := fun q => by
      rw [q, Lib.cell_of_heap HBLK.out] at hc4
      rcases o with _ | _ | _ | o <;> simp at hc4
    have HO : Hid (∀ x0 x1 x2 o' j v, w2.cell? ⟨b, j, none⟩ = some v → ((((w2.setCell ⟨w.heap.size, 0, none⟩ x0).setCell ⟨w.heap.size, 1, none⟩ x1).setCell ⟨w.heap.size, 2, none⟩ x2).alloc o').cell? ⟨b, j, none⟩ = some v) := fun x0 x1 x2 o' j v h =>
      cell_keep (below1 _ _) (other_cell (other_cell (other_cell h hbn) hbn) hbn)
    go_wp2_with fail
    refine bodyPost_ret (v := .tuple #[.agg #[.slice none 0 0, .slice none 0 0, .slice none 0 0], .iface 88 (.pointer (some ⟨b, o, none⟩))]) (by simp [results, Tryz.results38, go_sem, g0, g1, g2]) rfl ?_
    rw [HR.out]
    refine ⟨_, _, _, _, rfl, noProg_is _, ?_, ?_⟩
    · exact Or.inr (Or.inr ⟨i, n, b, o, rfl, hn0, rfl, HO.out _ _ _ _ _ _ hc4, HO.out _ _ _ _ _ _ hc5⟩)
    · exact HB3.out _ _ _ _

theorem read_any (OK : ReadStmtOk) (a : Nat → Addr) (s : Bs) (w : World) (hE : ErrsT w a) (hM : MaxL w) :
    Calls Tryz.prog 38 #[.string (S s)] w fun e w' => ∃ v1 v2 v3 ev, e = .returned (.tuple #[.agg #[v1, v2, v3], ev]) ∧ IsProg w' v1 v2 v3 (readD s).1 ∧ ErrV w' a (readD s).2 ev ∧ Below w.heap.size w w' := by
  rcases Nat.lt_or_ge 4000 s.length with h | h
  · exact read_long a s w h hE.five
  · exact read_short OK a s w h hE hM
end Go.Proofs.YtakmmpbkojhmhaaGreatDoor

/-
  programmed: the closed fact of a program's text, by a contract.
-/
namespace Go.Proofs.YtakmmpbkojhmhaaGreatDoor
open Go.RowKit Go.Extern.Stop Go.Stop Go.Extern

def prog0 : ProgD := ⟨[[97], [98]], [], [⟨kAddr, 0, 1, []⟩, ⟨kNew, 1, 0, []⟩]⟩
theorem prog0_check : checkE prog0 = none := by decide
theorem prog0_text : textP prog0 = [118, 97, 114, 32, 97, 10, 118, 97, 114, 32, 98, 10, 97, 32, 61, 32, 38, 98, 10, 98, 32, 61, 32, 110, 101, 119, 10] := by decide
theorem prog0_obj : objD prog0 = 3 := by decide
theorem prog0_place : placeD prog0 1 = 2 := by decide
theorem prog0_small : SmallP prog0 := by
  unfold SmallP
  refine ⟨by decide, by decide, by decide, ?_, ?_⟩
  · intro f hf
    cases hf
  · intro s hs
    simp [prog0] at hs
    rcases hs with rfl | rfl <;> decide
abbrev oVars : Obj := .cells #[.string ⟨#[97]⟩, .string ⟨#[98]⟩] 9
abbrev oStmts : Obj := .cells #[.string ⟨#[97, 100, 100, 114]⟩, .int .i64 0, .int .i64 1, .slice none 0 0, .string ⟨#[110, 101, 119]⟩, .int .i64 1, .int .i64 0, .slice none 0 0] 60
theorem prog0_is (w : World) (oc : Obj) : IsProg (((w.alloc oVars).alloc oStmts).alloc oc) (.slice (some ⟨w.heap.size, 0, none⟩) 2 2) (.slice none 0 0) (.slice (some ⟨w.heap.size + 1, 0, none⟩) 2 2) prog0 := by
  have hb : Below (w.alloc oVars).heap.size (w.alloc oVars) (((w.alloc oVars).alloc oStmts).alloc oc) := (below1 _ _).alloc (by simp) _
  have hb2 := below1 ((w.alloc oVars).alloc oStmts) oc
  refine ⟨⟨_, _, rfl, Nat.le_refl _, fun j hj => ⟨_, _, rfl, ?_⟩⟩, ⟨_, _, rfl, Nat.le_refl _, fun j hj => absurd hj (Nat.not_lt_zero _)⟩, ⟨_, _, rfl, Nat.le_refl _, fun j hj => ⟨_, _, rfl, ?_⟩⟩⟩
  · refine cell_keep hb ?_
    match j, hj with
    | 0, _ => simp [prog0, S]
    | 1, _ => simp [prog0, S]
  · match j, hj with
    | 0, _ => exact ⟨.slice none 0 0, cell_keep hb2 (by simp [prog0, S, kAddr]), cell_keep hb2 (by simp [prog0]), cell_keep hb2 (by simp [prog0]), cell_keep hb2 (by simp), IsInts.nil _ _ _, none, 0, rfl, Nat.le_refl _⟩
    | 1, _ => exact ⟨.slice none 0 0, cell_keep hb2 (by simp [prog0, S, kNew]), cell_keep hb2 (by simp [prog0]), cell_keep hb2 (by simp [prog0]), cell_keep hb2 (by simp), IsInts.nil _ _ _, none, 0, rfl, Nat.le_refl _⟩

set_option maxRecDepth 100000 in
set_option maxHeartbeats 8000000 in
theorem programmed_any (a : Nat → Addr) (w : World) (hE : Errs5 w a) : Calls Tryz.prog 23 #[] w fun e w' => e = .returned (.bool true) ∧ Below w.heap.size w w' := by
  have HE : Hid (Errs5 w a) := hE
  clear hE
  obtain ⟨oc, hoc⟩ : ∃ oc : Obj, oc = .cells #[.slice (some ⟨w.heap.size, 0, none⟩) 2 2, .slice none 0 0, .slice (some ⟨w.heap.size + 1, 0, none⟩) 2 2] 43 := ⟨_, rfl⟩
  obtain ⟨W, hW⟩ : ∃ W, W = ((w.alloc oVars).alloc oStmts).alloc oc := ⟨_, rfl⟩
  have HP : Hid (IsProg W (.slice (some ⟨w.heap.size, 0, none⟩) 2 2) (.slice none 0 0) (.slice (some ⟨w.heap.size + 1, 0, none⟩) 2 2) prog0) := by
    show IsProg W _ _ _ _
    rw [hW]; exact prog0_is w oc
  have hBW : Below w.heap.size w W := by rw [hW]; exact ((below1 w _).alloc (by simp) _).alloc (by simp; omega) _
  have HBX : Hid (Box3 W (w.heap.size + 2) (.slice (some ⟨w.heap.size, 0, none⟩) 2 2) (.slice none 0 0) (.slice (some ⟨w.heap.size + 1, 0, none⟩) 2 2)) := by
    show Box3 W _ _ _ _
    rw [hW, hoc]
    have := box3_new ((w.alloc oVars).alloc oStmts) (.slice (some ⟨w.heap.size, 0, none⟩) 2 2) (.slice none 0 0) (.slice (some ⟨w.heap.size + 1, 0, none⟩) 2 2) 43
    simp only [World.size_alloc] at this
    exact this
  obtain ⟨bt, hbt⟩ : ∃ b, b = S (textP prog0) := ⟨_, rfl⟩
  have hbl : bt.toList = [118, 97, 114, 32, 97, 10, 118, 97, 114, 32, 98, 10, 97, 32, 61, 32, 38, 98, 10, 98, 32, 61, 32, 110, 101, 119, 10] := by rw [hbt, S_toList]; exact prog0_text
  have K1 : Hid (Calls Tryz.prog 29 #[.agg #[.slice (some ⟨w.heap.size, 0, none⟩) 2 2, .slice none 0 0, .slice (some ⟨w.heap.size + 1, 0, none⟩) 2 2]] W fun e w' => e = .returned (.string bt) ∧ Below W.heap.size W w') := by
    rw [hbt]; exact text_right a prog0 _ _ _ W prog0_small HP.out (HE.out.below hBW) prog0_check
  have K2 : Hid (∀ wx, Below W.heap.size W wx → Calls Tryz.prog 31 #[.agg #[.slice (some ⟨w.heap.size, 0, none⟩) 2 2, .slice none 0 0, .slice (some ⟨w.heap.size + 1, 0, none⟩) 2 2]] wx fun e w' => e = .returned (.int .i64 3) ∧ Below wx.heap.size wx w') := fun wx hb => by
    have := objects_any a prog0 _ _ _ wx prog0_small (HP.out.below hb) ((HE.out.below hBW).below hb)
    rw [prog0_obj] at this; exact this
  have K3 : Hid (∀ wx, Below W.heap.size W wx → Calls Tryz.prog 33 #[.agg #[.slice (some ⟨w.heap.size, 0, none⟩) 2 2, .slice none 0 0, .slice (some ⟨w.heap.size + 1, 0, none⟩) 2 2], .int .i64 1] wx fun e w' => e = .returned (.int .i64 2) ∧ Below wx.heap.size wx w') := fun wx hb => by
    have := place_any a prog0 1 _ _ _ wx prog0_small (HP.out.below hb) ((HE.out.below hBW).below hb)
    rw [prog0_place] at this; exact this
  rw [hW, hoc] at K1
  rw [hoc] at hW
  clear hbt
  go_enter Tryz.func23, Tryz.ntmps23
  go_wp2_with fail
  refine K1.out.mono ?_
  rintro e w1 ⟨rfl, hB1⟩
  rw [← hW] at hB1
  obtain ⟨p0, p1, p2⟩ := HBX.out.below hB1
  clear K1
  go_wp2_with fail
  refine (K2.out _ hB1).mono ?_
  rintro e w2 ⟨rfl, hB2⟩
  have hB2w := hB1.trans (hB2.mono hB1.size)
  clear p0 p1 p2
  obtain ⟨p0, p1, p2⟩ := HBX.out.below hB2w
  clear K2
  go_wp2_with fail
  refine (K3.out _ hB2w).mono ?_
  rintro e w3 ⟨rfl, hB3⟩
  have hB3w := hBW.trans ((hB2w.trans (hB3.mono hB2w.size)).mono hBW.size)
  clear K3 p0 p1 p2
  go_wp2_with fail
  go_ret
  exact ⟨rfl, hB3w⟩
end Go.Proofs.YtakmmpbkojhmhaaGreatDoor

/-
  ProgBack answers true at every program that reads as plain data.
-/
namespace Go.Proofs.YtakmmpbkojhmhaaGreatDoor
open Go.RowKit Go.Extern.Stop Go.Stop Go.Extern

theorem stmt_args (s : Bs) (hz : s.length ≤ 10000) : (parseD s).1.args.length ≤ 200000 := by
  have h1 : (Lib.cut s eqs).2.1.length ≤ s.length := (cut_len s eqs).2
  unfold parseD
  split
  · simp
  · show (rightD (Lib.cut s eqs).2.1).1.args.length ≤ 200000
    generalize (Lib.cut s eqs).2.1 = r at h1
    have h2 := listL_length (Lib.trimPrefix r [99, 97, 108, 108, 32])
    have h3 := trim_len r [99, 97, 108, 108, 32]
    unfold rightD
    repeat' split
    all_goals simp
    omega
theorem readStmt_ok : ReadStmtOk := fun a B pb P s v1 v2 v3 ps qs w hst h1 h2 h3 hz hE hM =>
  readStmt_any a B pb P s v1 v2 v3 ps qs w hst h1 h2 h3 (by omega) (stmt_args s hz) hE hM

set_option maxRecDepth 100000 in
set_option maxHeartbeats 8000000 in
theorem progBack_any (a : Nat → Addr) (P : ProgD) (v1 v2 v3 : Value) (w : World) (h : IsProg w v1 v2 v3 P) (hE : ErrsT w a) (hM : MaxL w) :
    Calls Tryz.prog 5 #[.agg #[v1, v2, v3]] w fun e w' => e = .returned (.bool true) ∧ Below w.heap.size w w' := by
  have H : Hid (IsProg w v1 v2 v3 P) := h
  have HE : Hid (ErrsT w a) := hE
  have HM : Hid (MaxL w) := hM
  obtain ⟨⟨a1, c1, rfl, -, -⟩, ⟨a2, c2, rfl, -, -⟩, ⟨a3, c3, rfl, -, -⟩⟩ := h
  obtain ⟨n1, hn1⟩ : ∃ m, m = P.vars.length := ⟨_, rfl⟩
  obtain ⟨n2, hn2⟩ : ∃ m, m = P.funs.length := ⟨_, rfl⟩
  obtain ⟨n3, hn3⟩ : ∃ m, m = P.stmts.length := ⟨_, rfl⟩
  have HN : Hid (n1 = P.vars.length ∧ n2 = P.funs.length ∧ n3 = P.stmts.length) := ⟨hn1, hn2, hn3⟩
  rw [← hn1, ← hn2, ← hn3] at H ⊢
  clear hn1 hn2 hn3 hE hM
  obtain ⟨W, hW⟩ : ∃ W, W = w.alloc (.cells #[.slice a1 n1 c1, .slice a2 n2 c2, .slice a3 n3 c3] 43) := ⟨_, rfl⟩
  have hBW : Below w.heap.size w W := by rw [hW]; exact below1 w _
  have HBX : Hid (Box3 W w.heap.size (.slice a1 n1 c1) (.slice a2 n2 c2) (.slice a3 n3 c3)) := by
    show Box3 W _ _ _ _
    rw [hW]; exact box3_new w _ _ _ _
  have K1 : Hid (Calls Tryz.prog 23 #[] W fun e w' => e = .returned (.bool true) ∧ Below W.heap.size W w') := programmed_any a W (HE.out.five.below hBW)
  rw [hW] at K1
  go_enter Tryz.func5, Tryz.ntmps5
  go_wp2_with fail
  refine K1.out.mono ?_
  rintro e w1 ⟨rfl, hB1⟩
  rw [← hW] at hB1
  clear K1 hW
  obtain ⟨p0, p1, p2⟩ := HBX.out.below hB1
  have hB1w : Below w.heap.size w w1 := hBW.trans (hB1.mono hBW.size)
  go_wp2_with fail
  refine (large_any P _ _ _ w1 (H.out.below hB1w)).mono ?_
  rintro e w2 ⟨r, rfl, hr, hB2⟩
  have hB2w : Below w.heap.size w w2 := hB1w.trans (hB2.mono hB1w.size)
  rcases hr with rfl | ⟨rfl, hs, -⟩
  · go_wp2_with fail
    go_ret
    exact ⟨rfl, hB2w⟩
  have HS : Hid (SmallP P) := hs
  have X2 : Hid (Box3 w2 w.heap.size (.slice a1 n1 c1) (.slice a2 n2 c2) (.slice a3 n3 c3)) := (HBX.out.below hB1).below hB2
  clear p0 p1 p2 hs hB1 hB1w hB2
  obtain ⟨p0, p1, p2⟩ := X2.out
  go_wp2_with fail
  refine (ownProgram_any P _ _ _ w2 HS.out (H.out.below hB2w)).mono ?_
  rintro e w3 ⟨u1, u2, u3, rfl, hq, hB3⟩
  have hB3w : Below w.heap.size w w3 := hB2w.trans (hB3.mono hB2w.size)
  have X3 : Hid (Box3 w3 w.heap.size (.slice a1 n1 c1) (.slice a2 n2 c2) (.slice a3 n3 c3)) := X2.out.below hB3
  have HQ3 : Hid (IsProg w3 u1 u2 u3 P) := hq
  obtain ⟨⟨b1, d1, rfl, -, -⟩, ⟨b2, d2, rfl, -, -⟩, ⟨b3, d3, rfl, -, -⟩⟩ := hq
  rw [← HN.out.1, ← HN.out.2.1, ← HN.out.2.2] at HQ3
  rw [← HN.out.1, ← HN.out.2.1, ← HN.out.2.2]
  obtain ⟨W4, hW4⟩ : ∃ W, W = w3.alloc (.cells #[.slice b1 n1 d1, .slice b2 n2 d2, .slice b3 n3 d3] 43) := ⟨_, rfl⟩
  obtain ⟨qb, hqb⟩ : ∃ b, b = w3.heap.size := ⟨_, rfl⟩
  have hB4 : Below w3.heap.size w3 W4 := by rw [hW4]; exact below1 w3 _
  have hB4w : Below w.heap.size w W4 := hB3w.trans (hB4.mono hB3w.size)
  have XP : Hid (Box3 W4 w.heap.size (.slice a1 n1 c1) (.slice a2 n2 c2) (.slice a3 n3 c3)) := X3.out.below hB4
  have XQ : Hid (Box3 W4 qb (.slice b1 n1 d1) (.slice b2 n2 d2) (.slice b3 n3 d3)) := by
    show Box3 W4 _ _ _ _
    rw [hW4, hqb]; exact box3_new w3 _ _ _ _
  have HQ : Hid (IsProg W4 (.slice b1 n1 d1) (.slice b2 n2 d2) (.slice b3 n3 d3) P) := HQ3.out.below hB4
  have K5 : Hid (Calls Tryz.prog 28 #[.agg #[.slice b1 n1 d1, .slice b2 n2 d2, .slice b3 n3 d3]] W4 fun e w' => ∃ v', e = .returned v' ∧ ErrV w' a (checkE P) v' ∧ Below W4.heap.size W4 w') := check_any a P _ _ _ W4 HS.out HQ.out (HE.out.five.below hB4w)
  rw [hW4] at K5
  clear p0 p1 p2 X2 X3 HQ3 hB3w hB3 hB2w hB4
  go_wp2_with fail
  refine K5.out.mono ?_
  rintro e w5 ⟨v', rfl, hv, hB5⟩
  rw [← hW4] at hB5
  rw [← hqb]
  clear K5 hW4 hqb
  rcases hv.cases with ⟨hc, rfl⟩ | ⟨hc, t, x, rfl⟩
  rotate_left
  · have hBf : Below w.heap.size w w5 := hB4w.trans (hB5.mono hB4w.size)
    clear hv hc
    go_wp2_with fail
    go_ret
    exact ⟨rfl, hBf⟩
  have HC : Hid (checkE P = none) := by
    show checkE P = none
    exact Option.isNone_iff_eq_none.1 hc
  clear hv hc
  obtain ⟨q0, q1, q2⟩ := XQ.out.below hB5
  have hB5w : Below w.heap.size w w5 := hB4w.trans (hB5.mono hB4w.size)
  obtain ⟨bt, hbt⟩ : ∃ b, b = S (textP P) := ⟨_, rfl⟩
  have K7 : Hid (Calls Tryz.prog 29 #[.agg #[.slice b1 n1 d1, .slice b2 n2 d2, .slice b3 n3 d3]] w5 fun e w' => e = .returned (.string bt) ∧ Below w5.heap.size w5 w') := by
    rw [hbt]; exact text_right a P _ _ _ w5 HS.out (HQ.out.below hB5) (HE.out.five.below hB5w) HC.out
  have HBT : Hid (bt = S (textP P)) := hbt
  clear hbt
  go_wp2_with fail
  refine K7.out.mono ?_
  rintro e w6 ⟨rfl, hB6⟩
  have hB6W : Below W4.heap.size W4 w6 := hB5.trans (hB6.mono hB5.size)
  clear K7 q0 q1 q2 hB6 hB5 hB5w
  go_upto_if 30 with fail
  go_cut [5] (fun s5 wx => Below W4.heap.size W4 wx)
  case first =>
    by_cases hlen : (bt.size : Int) ≤ 4000
    · have K8 : Hid (Calls Tryz.prog 38 #[.string bt] w6 fun e w' => ∃ x1 x2 x3, e = .returned (.tuple #[.agg #[x1, x2, x3], .nilIface]) ∧ IsProg w' x1 x2 x3 P ∧ Below w6.heap.size w6 w') := by
        have hl : (textP P).length ≤ 4000 := by
          rw [HBT.out, S_size] at hlen; omega
        rw [HBT.out]
        refine (read_any readStmt_ok a (textP P) w6 (HE.out.below (hB4w.trans (hB6W.mono hB4w.size))) (HM.out.below (hB4w.trans (hB6W.mono hB4w.size)))).mono ?_
        rintro e w7 ⟨x1, x2, x3, ev, rfl, hx, hv, hB7⟩
        rw [read_text HC.out hl] at hx hv
        rcases hv with ⟨_, rfl⟩ | ⟨i, hq, _⟩ | ⟨i, n, b, o, hq, _⟩
        · exact ⟨x1, x2, x3, rfl, hx, hB7⟩
        · cases hq
        · cases hq
      go_wp2_with fail
      refine K8.out.mono ?_
      rintro e w7 ⟨x1, x2, x3, rfl, hx, hB7⟩
      have hB7W : Below W4.heap.size W4 w7 := hB6W.trans (hB7.mono hB6W.size)
      have K9 : Hid (∀ o, Calls Tryz.prog 40 #[.agg #[x1, x2, x3], .agg #[.slice a1 n1 c1, .slice a2 n2 c2, .slice a3 n3 c3]] (w7.alloc o) fun e w' => e = .returned (.bool true) ∧ Below (w7.alloc o).heap.size (w7.alloc o) w') := fun o =>
        sameProgram_true P _ _ _ _ _ _ _ HS.out (hx.below (below1 w7 o)) (H.out.below ((hB4w.trans (hB7W.mono hB4w.size)).trans ((below1 w7 o).mono (hB4w.trans (hB7W.mono hB4w.size)).size)))
      obtain ⟨⟨y1, z1, rfl, -, -⟩, ⟨y2, z2, rfl, -, -⟩, ⟨y3, z3, rfl, -, -⟩⟩ := hx
      obtain ⟨p0, p1, p2⟩ := XP.out.below hB7W
      have p0' := fun o => cell_keep (below1 w7 o) p0
      have p1' := fun o => cell_keep (below1 w7 o) p1
      have p2' := fun o => cell_keep (below1 w7 o) p2
      clear K8 hB7
      go_wp2_with fail
      refine (K9.out _).mono ?_
      rintro e w8 ⟨rfl, hB8⟩
      have hF : Below W4.heap.size W4 w8 := (hB7W.alloc hB7W.size _).trans (hB8.mono (hB7W.alloc hB7W.size _).size)
      clear K9 hB8 p0 p1 p2 p0' p1' p2'
      go_wp2_with fail
      go_meet
      exact hF
    · go_wp2_with fail
      go_meet
      exact hB6W
  case rest =>
  obtain ⟨p0, p1, p2⟩ := XP.out.below hcut
  have HKN : Hid (∀ wx, Below W4.heap.size W4 wx → IsProg wx (.slice b1 n1 d1) (.slice b2 n2 d2) (.slice b3 n3 d3) P ∧ Errs5 wx a ∧ Box3 wx w.heap.size (.slice a1 n1 c1) (.slice a2 n2 c2) (.slice a3 n3 c3) ∧ Box3 wx qb (.slice b1 n1 d1) (.slice b2 n2 d2) (.slice b3 n3 d3) ∧ IsProg wx (.slice a1 n1 c1) (.slice a2 n2 c2) (.slice a3 n3 c3) P) := fun wx hb =>
    ⟨HQ.out.below hb, (HE.out.five.below hB4w).below hb, XP.out.below hb, XQ.out.below hb, (H.out.below hB4w).below hb⟩
  have hs1 : n1 ≤ 100000 := by rw [HN.out.1]; exact HS.out.1
  have hs2 : n2 ≤ 100000 := by rw [HN.out.2.1]; exact HS.out.2.1
  have hs3 : n3 ≤ 100000 := by rw [HN.out.2.2]; exact HS.out.2.2.1
  have HPL : Hid (∀ k, places P k ≤ n1 + k) := fun k => by rw [HN.out.1]; exact places_le P k
  have HTR : Hid (true = (checkE P).isNone) := by show true = _; rw [HC.out]; rfl
  clear hB6W
  go_wp2_with fail
  clear p0 p1 p2
  go_loopw [8, 9] (fun t u wr => ∃ k : Nat, k ≤ n3 ∧ t = .int .i64 ((places P k : Nat) : Int) ∧ u = .int .i64 k ∧ Below W4.heap.size W4 wr) (fun _ u _ => (n3 - intOf u).toNat)
  case atStart => exact ⟨0, Nat.zero_le _, by rw [HN.out.1]; simp [places], rfl, hcut⟩
  case round =>
    obtain ⟨k, hk, rfl, rfl, hB⟩ := hrel
    obtain ⟨N, hNN⟩ : ∃ N, N = places P k := ⟨_, rfl⟩
    have hNb : N ≤ n1 + k := by rw [hNN]; exact HPL.out k
    rw [← hNN]
    have HNN : Hid (N = places P k) := hNN
    clear hNN
    obtain ⟨g1, g2, ⟨p0, p1, p2⟩, ⟨q0, q1, q2⟩, g5⟩ := HKN.out wr hB
    by_cases hlt : k < n3
    · have hl : k < P.stmts.length := by rw [← HN.out.2.2]; exact hlt
      obtain ⟨_, _, hv3, _, hst3⟩ := g5.stmts
      obtain ⟨g, o, ha3, e0⟩ := hst3 k hl
      obtain rfl : a3 = some ⟨g, o, none⟩ := by rw [← ha3]; exact (Value.slice.inj hv3).1
      obtain ⟨z, hze⟩ : ∃ z, z = P.stmts.getD k default := ⟨_, rfl⟩
      have HZ : Hid (z = P.stmts.getD k default) := hze
      rw [← hze] at e0
      obtain ⟨pv, r1, -, -, -, -⟩ := e0
      obtain ⟨kb, hkb⟩ : ∃ b, b = S z.kind := ⟨_, rfl⟩
      rw [← hkb] at r1
      have hp := place_any a P (k : Int) _ _ _ wr HS.out g1 g2
      have hsucc := places_succ P k hl
      rw [← hze, ← HNN.out] at hsucc
      by_cases hkn : z.kind = kNew
      · have hpl : placeD P (k : Int) = (N : Int) := by
          rw [placeD_in HTR.out ⟨by omega, by omega, by rw [Int.toNat_natCast, ← hze]; exact hkn⟩, HNN.out]; rfl
        rw [hpl] at hp
        have hkl : kb.toList = [110, 101, 119] := by rw [hkb, S_toList, hkn]; rfl
        have hs' : places P (k + 1) = N + 1 := by rw [hsucc, hkn]; rfl
        have HSU : Hid (places P (k + 1) = N + 1) := hs'
        have KP : Hid (Calls Tryz.prog 33 #[.agg #[.slice b1 n1 d1, .slice b2 n2 d2, .slice b3 n3 d3], .int .i64 (k : Int)] wr fun e w' => e = .returned (.int .i64 (N : Int)) ∧ Below wr.heap.size wr w') := hp
        clear hp hpl hs' hsucc hkn hkb hze hv3 hst3 ha3 hl g1 g2 g5
        go_wp2_with fail
        refine KP.out.mono ?_
        rintro e w8 ⟨rfl, hB8⟩
        have r1' := cell_keep hB8 r1
        have p2' := cell_keep hB8 p2
        have hBf : Below W4.heap.size W4 w8 := hB.trans (hB8.mono hB.size)
        clear KP hB8 p0 p1 p2 q0 q1 q2 r1
        go_wp2_with fail
        go_roundw
        case rel => exact ⟨k + 1, hlt, by rw [HSU.out]; go_num, by go_num, hBf⟩
        case measure => simp [intOf]; omega
      · have hpl : placeD P (k : Int) = -1 := placeD_out HTR.out (fun q => hkn (by have := q.2.2; rw [Int.toNat_natCast, ← hze] at this; exact this))
        rw [hpl] at hp
        have hkl : (kb.toList == [110, 101, 119]) = false := beq_eq_false_iff_ne.2 (fun q => hkn (by rw [hkb, S_toList] at q; exact q))
        have hs' : places P (k + 1) = N := by rw [hsucc, if_neg (by simpa using hkn)]; rfl
        have HSU : Hid (places P (k + 1) = N) := hs'
        have KP : Hid (Calls Tryz.prog 33 #[.agg #[.slice b1 n1 d1, .slice b2 n2 d2, .slice b3 n3 d3], .int .i64 (k : Int)] wr fun e w' => e = .returned (.int .i64 (-1)) ∧ Below wr.heap.size wr w') := hp
        clear hp hpl hs' hsucc hkn hkb hze hv3 hst3 ha3 hl g1 g2 g5
        go_wp2_with fail
        refine KP.out.mono ?_
        rintro e w8 ⟨rfl, hB8⟩
        have r1' := cell_keep hB8 r1
        have p2' := cell_keep hB8 p2
        have hBf : Below W4.heap.size W4 w8 := hB.trans (hB8.mono hB.size)
        clear KP hB8 p0 p1 p2 q0 q1 q2 r1
        go_wp2_with fail
        go_roundw
        case rel => exact ⟨k + 1, hlt, by rw [HSU.out], by go_num, hBf⟩
        case measure => simp [intOf]; omega
    · have hk3 : n3 = k := by omega
      subst hk3
      have HNP : Hid (N = places P P.stmts.length) := by
        show N = _
        rw [HNN.out, HN.out.2.2]
      obtain ⟨wq, hwq⟩ : ∃ wq, wq = wr := ⟨_, rfl⟩
      rw [← hwq] at hB p0 p1 p2 q0 q1 q2 ⊢
      have KI : ∀ d os, Calls Tryz.prog 30 #[.agg #[.slice b1 n1 d1, .slice b2 n2 d2, .slice b3 n3 d3]] (Go.Sort.grow (redrawn wq d) os) fun e w'' => e = .returned (.int .i64 (N : Int)) ∧ ∃ p : Regrown, w'' = Go.Sort.grow (redrawn wq p.d) p.os := fun d os =>
        Calls.regrown_of (by
          have hb := hB.trans ((below_regrown wq d os).mono hB.size)
          have := nodes_any a P _ _ _ (Go.Sort.grow (redrawn wq d) os) HS.out (HKN.out _ hb).1 (HKN.out _ hb).2.1
          rw [show nodesD P = (N : Int) by unfold nodesD; rw [← HTR.out, if_pos rfl, HNP.out]] at this
          exact this)
      have KJ : ∀ d os, Calls Tryz.prog 31 #[.agg #[.slice b1 n1 d1, .slice b2 n2 d2, .slice b3 n3 d3]] (Go.Sort.grow (redrawn wq d) os) fun e w'' => e = .returned (.int .i64 ((N : Int) + (n2 : Int))) ∧ ∃ p : Regrown, w'' = Go.Sort.grow (redrawn wq p.d) p.os := fun d os =>
        Calls.regrown_of (by
          have hb := hB.trans ((below_regrown wq d os).mono hB.size)
          have := objects_any a P _ _ _ (Go.Sort.grow (redrawn wq d) os) HS.out (HKN.out _ hb).1 (HKN.out _ hb).2.1
          rw [objD_in HTR.out, ← HNP.out, ← HN.out.2.1] at this
          exact this)
      have Q0 := cell_regrown q0
      have Q1 := cell_regrown q1
      have Q2 := cell_regrown q2
      have P1 := cell_regrown p1
      have HKI : Hid (∀ d os, Calls Tryz.prog 30 #[.agg #[.slice b1 n1 d1, .slice b2 n2 d2, .slice b3 n3 d3]] (Go.Sort.grow (redrawn wq d) os) fun e w'' => e = .returned (.int .i64 (N : Int)) ∧ ∃ p : Regrown, w'' = Go.Sort.grow (redrawn wq p.d) p.os) := KI
      have HKJ : Hid (∀ d os, Calls Tryz.prog 31 #[.agg #[.slice b1 n1 d1, .slice b2 n2 d2, .slice b3 n3 d3]] (Go.Sort.grow (redrawn wq d) os) fun e w'' => e = .returned (.int .i64 ((N : Int) + (n2 : Int))) ∧ ∃ p : Regrown, w'' = Go.Sort.grow (redrawn wq p.d) p.os) := KJ
      clear g1 g2 g5 p0 p1 q0 q1 q2 hwq hk hlt KI KJ
      go_upto_region 23 with fail
      clear p2
      refine wp_region_quiet_below (by kernel_rfl) (by kernel_rfl) ?_
      repeat (quiet_step (first | exact HKI.out _ _ | exact HKJ.out _ _))
      refine wpQuiet_nil ?_
      intro _ hw'
      obtain ⟨⟨dq, osq⟩, hw''⟩ := hw'
      subst hw''
      have hBQ : Below W4.heap.size W4 (Go.Sort.grow (redrawn wq dq) osq) := hB.trans ((below_regrown wq dq osq).mono hB.size)
      obtain ⟨wf, hwf⟩ : ∃ wf, wf = Go.Sort.grow (redrawn wq dq) osq := ⟨_, rfl⟩
      rw [← hwf] at hBQ ⊢
      clear HKI HKJ Q0 Q1 Q2 P1 hwf hB
      obtain ⟨p0, p1, p2⟩ := (HKN.out wf hBQ).2.2.1
      have hwr : ((N : Int) + (n2 : Int) != IntKind.i64.wrap ((N : Int) + (n2 : Int))) = false := by
        have : IntKind.i64.wrap ((N : Int) + (n2 : Int)) = (N : Int) + (n2 : Int) := by rw [IntKind.wrap_i64]; omega
        rw [this]; simp
      simp only [hwr]
      go_wp2_with fail
      clear p0 p1 p2 hwr
      go_loopw [11] (fun t wr => ∃ k : Nat, k ≤ n2 ∧ t = .int .i64 k ∧ Below W4.heap.size W4 wr) (fun t _ => (n2 - intOf t).toNat)
      case atStart => exact ⟨0, Nat.zero_le _, rfl, hBQ⟩
      case round =>
        obtain ⟨k, hk, rfl, hB⟩ := hrel
        obtain ⟨g1, g2, ⟨p0, p1, p2⟩, ⟨q0, q1, q2⟩, -⟩ := HKN.out wr hB
        by_cases hlt : k < n2
        · have KF : Hid (Calls Tryz.prog 32 #[.agg #[.slice b1 n1 d1, .slice b2 n2 d2, .slice b3 n3 d3], .int .i64 ((N : Int) + (k : Int))] wr fun e w' => e = .returned (.int .i64 (k : Int)) ∧ Below wr.heap.size wr w') := by
            have := fun_any a P ((N : Int) + (k : Int)) _ _ _ wr HS.out g1 g2 (by omega) (by omega)
            rw [funD_in HTR.out (by rw [← HNP.out, ← HN.out.2.1]; omega), ← HNP.out, show (N : Int) + (k : Int) - (N : Int) = (k : Int) by omega] at this
            exact this
          clear g1 g2
          go_wp2_with fail
          refine KF.out.mono ?_
          rintro e w8 ⟨rfl, hB8⟩
          have hBf : Below W4.heap.size W4 w8 := hB.trans (hB8.mono hB.size)
          clear KF hB8 p0 p1 p2 q0 q1 q2
          go_wp2_with fail
          go_roundw
          case rel => exact ⟨k + 1, hlt, by go_num, hBf⟩
          case measure => simp [intOf]; omega
        · have hk2 : n2 = k := by omega
          subst hk2
          have KF : Hid (Calls Tryz.prog 32 #[.agg #[.slice b1 n1 d1, .slice b2 n2 d2, .slice b3 n3 d3], .int .i64 ((N : Int) + (n2 : Int))] wr fun e w' => e = .returned (.int .i64 (-1)) ∧ Below wr.heap.size wr w') := by
            have := fun_any a P ((N : Int) + (n2 : Int)) _ _ _ wr HS.out g1 g2 (by omega) (by omega)
            rw [funD_out HTR.out (by rw [← HNP.out, ← HN.out.2.1]; omega)] at this
            exact this
          have KG : Hid (∀ wx, Below W4.heap.size W4 wx → Calls Tryz.prog 32 #[.agg #[.slice b1 n1 d1, .slice b2 n2 d2, .slice b3 n3 d3], .int .i64 (-1)] wx fun e w' => e = .returned (.int .i64 (-1)) ∧ Below wx.heap.size wx w') := fun wx hb => by
            have := fun_any a P (-1) _ _ _ wx HS.out (HKN.out wx hb).1 (HKN.out wx hb).2.1 (by omega) (by omega)
            rw [funD_out HTR.out (by left; omega)] at this
            exact this
          clear g1 g2 hlt hk
          go_wp2_with fail
          refine KF.out.mono ?_
          rintro e w8 ⟨rfl, hB8⟩
          have hB8W : Below W4.heap.size W4 w8 := hB.trans (hB8.mono hB.size)
          clear KF hB8 p0 p1 p2 q0 q1 q2
          obtain ⟨q0, q1, q2⟩ := (HKN.out w8 hB8W).2.2.2.1
          go_wp2_with fail
          refine (KG.out _ hB8W).mono ?_
          rintro e w9 ⟨rfl, hB9⟩
          have hB9W : Below W4.heap.size W4 w9 := hB8W.trans (hB9.mono hB8W.size)
          have hBf : Below w.heap.size w w9 := hB4w.trans (hB9W.mono hB4w.size)
          clear KG hB9 q0 q1 q2
          go_wp2_with fail
          go_ret
          exact ⟨rfl, hBf⟩
end Go.Proofs.YtakmmpbkojhmhaaGreatDoor

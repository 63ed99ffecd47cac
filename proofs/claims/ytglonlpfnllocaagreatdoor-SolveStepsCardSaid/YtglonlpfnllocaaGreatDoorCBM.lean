/-
  Package cons: the row of rules, as it is made.
-/
import Derived.Test.YtglonlpfnllocaaGreatDoorXCM
import Derived.Test.YtglonlpfnllocaaGreatDoorXSM
import Derived.Deep.RegionLaw
namespace Go.Proofs.YtglonlpfnllocaaGreatDoor
open Go.RowKit Go.Extern.Stop Go.Stop Go.Extern

theorem Tryz.infoRule : (Tryz.prog.info? 72).map (fun i => (i.zero, i.size, i.bytes)) = some (some (.agg #[.string ⟨#[]⟩, .int .i64 0, .int .i64 0, .int .i64 0, .slice none 0 0]), 5, 64) := by kernel_rfl
theorem make_rules (n : Nat) (hn : n ≤ 1000000) (w : World) : (Instr.makeSlice 61 (.int .i64 (n : Int)) (.int .i64 (n : Int))).run Tryz.prog w = .ok (.slice (some ⟨w.heap.size, 0, none⟩) n n) (w.alloc (.cells (madeCells #[.string ⟨#[]⟩, .int .i64 0, .int .i64 0, .int .i64 0, .slice none 0 0] (n * 5)) TRu)) := by
  obtain ⟨i, hi, hz, hs, hb⟩ := info_parts Tryz.infoRule
  have := run_make (P := Tryz.prog) w 61 TRu i _ Tryz.underlying61 hi hz .i64 .i64 n n (by omega) (Int.le_refl _) (by rw [hb]; omega) (by omega)
  simp only [Int.toNat_natCast, hs] at this
  exact this
/-- The rule at place j of a row. -/
def RuleAt (w : World) (g j : Nat) (r : RuleD) : Prop :=
  ∃ av, w.cell? ⟨g, j * 5, none⟩ = some (.string (S r.kind)) ∧ w.cell? ⟨g, j * 5 + 1, none⟩ = some (.int .i64 r.a) ∧ w.cell? ⟨g, j * 5 + 2, none⟩ = some (.int .i64 r.b) ∧ w.cell? ⟨g, j * 5 + 3, none⟩ = some (.int .i64 r.stmt) ∧ w.cell? ⟨g, j * 5 + 4, none⟩ = some av ∧ IsInts w av r.args ∧ av.ownBlock ≠ some g
theorem RuleAt.below {w w' : World} {g j : Nat} {r : RuleD} (h : RuleAt w g j r) (hb : Below w.heap.size w w') : RuleAt w' g j r := by
  obtain ⟨av, h0, h1, h2, h3, h4, h5, h6⟩ := h
  exact ⟨av, cell_keep hb h0, cell_keep hb h1, cell_keep hb h2, cell_keep hb h3, cell_keep hb h4, h5.below hb, h6⟩
theorem isInts_set {w : World} {v : Value} {zs : List Int} (h : IsInts w v zs) {g i : Nat} {x : Value} (hne : v.ownBlock ≠ some g) : IsInts (w.setCell ⟨g, i, none⟩ x) v zs := by
  rcases h with ⟨hz, a, c, rfl⟩ | ⟨hz, b, o, c, rfl, hc⟩
  · exact Or.inl ⟨hz, a, c, rfl⟩
  · refine Or.inr ⟨hz, b, o, c, rfl, fun j hj => other_cell (hc j hj) (fun e => hne (by rw [e]; rfl))⟩
theorem RuleAt.set {w : World} {g j : Nat} {r : RuleD} (h : RuleAt w g j r) {i : Nat} {x : Value} (hi : i < j * 5 ∨ j * 5 + 5 ≤ i) : RuleAt (w.setCell ⟨g, i, none⟩ x) g j r := by
  obtain ⟨av, h0, h1, h2, h3, h4, h5, h6⟩ := h
  have hk : ∀ q v, q < 5 → w.cell? ⟨g, j * 5 + q, none⟩ = some v → (w.setCell ⟨g, i, none⟩ x).cell? ⟨g, j * 5 + q, none⟩ = some v := fun q v hq hv => by
    rw [World.cell?_setCell_other _ _ _ _ (fun e => by injection e; omega)]; exact hv
  exact ⟨av, hk 0 _ (by omega) h0, hk 1 _ (by omega) h1, hk 2 _ (by omega) h2, hk 3 _ (by omega) h3, hk 4 _ (by omega) h4, isInts_set h5 h6, h6⟩
abbrev set5 (w : World) (g k : Nat) (kd : ByteArray) (a b st : Int) (av : Value) : World := ((((w.setCell ⟨g, k * 5, none⟩ (.string kd)).setCell ⟨g, k * 5 + 1, none⟩ (.int .i64 a)).setCell ⟨g, k * 5 + 2, none⟩ (.int .i64 b)).setCell ⟨g, k * 5 + 3, none⟩ (.int .i64 st)).setCell ⟨g, k * 5 + 4, none⟩ av
/-- The first k of n rules are there. -/
structure RulesI (w : World) (g n k : Nat) (P : ProgD) : Prop where
  blk : ∃ cs, w.heap[g]? = some (.cells cs TRu (0, 0)) ∧ cs.size = n * 5
  got : ∀ j, j < k → RuleAt w g j (ruleD P j)
theorem RulesI.below {w w' : World} {g n k : Nat} {P : ProgD} (h : RulesI w g n k P) (hb : Below w.heap.size w w') : RulesI w' g n k P := by
  obtain ⟨cs, h1, h2⟩ := h.blk
  exact ⟨⟨cs, block_keep hb h1, h2⟩, fun j hj => (h.got j hj).below hb⟩
theorem RulesI.cells {w : World} {g n k : Nat} {P : ProgD} (h : RulesI w g n k P) (i : Nat) (hi : i < n * 5) : ∃ v, w.cell? ⟨g, i, none⟩ = some v := by
  obtain ⟨cs, h1, h2⟩ := h.blk
  refine ⟨cs[i], ?_⟩
  rw [Lib.cell_of_heap h1]
  exact Array.getElem?_eq_getElem (by omega)
theorem RulesI.frz {w : World} {g n k : Nat} {P : ProgD} (h : RulesI w g n k P) (i : Nat) : w.frozen? ⟨g, i, none⟩ = false := by
  obtain ⟨cs, h1, h2⟩ := h.blk
  exact frozen_of_block h1 i
theorem RulesI.lt {w : World} {g n k : Nat} {P : ProgD} (h : RulesI w g n k P) : g < w.heap.size := by
  obtain ⟨cs, h1, h2⟩ := h.blk
  exact (Array.getElem?_eq_some_iff.1 h1).1
theorem blk_set {w : World} {g m : Nat} (h : ∃ cs, w.heap[g]? = some (.cells cs TRu (0, 0)) ∧ cs.size = m) (i : Nat) (x : Value) : ∃ cs, (w.setCell ⟨g, i, none⟩ x).heap[g]? = some (.cells cs TRu (0, 0)) ∧ cs.size = m := by
  obtain ⟨cs, h1, h2⟩ := h
  exact ⟨_, set_block _ _ i _ _ _ h1 x, by simpa using h2⟩
theorem put_cells {w : World} {g i m : Nat} {x : Value} (h : ∃ cs, w.heap[g]? = some (.cells cs TRu (0, 0)) ∧ cs.size = m) (hi : i < m) : (w.setCell ⟨g, i, none⟩ x).cell? ⟨g, i, none⟩ = some x := by
  obtain ⟨cs, h1, h2⟩ := h
  have : w.cell? ⟨g, i, none⟩ = some cs[i] := by rw [Lib.cell_of_heap h1]; exact Array.getElem?_eq_getElem (by omega)
  exact World.cell?_setCell_same _ _ _ this
theorem RulesI.put {w : World} {g n k : Nat} {P : ProgD} (h : RulesI w g n k P) (hk : k < n) {kd : ByteArray} {a b st : Int} {av : Value} (h0 : kd = S (ruleD P k).kind) (h1 : a = (ruleD P k).a) (h2 : b = (ruleD P k).b) (h3 : st = (ruleD P k).stmt) (h4 : IsInts w av (ruleD P k).args) (h5 : av.ownBlock ≠ some g) : RulesI (set5 w g k kd a b st av) g n (k + 1) P := by
  have b0 := h.blk
  have b1 := blk_set b0 (k * 5) (.string kd)
  have b2 := blk_set b1 (k * 5 + 1) (.int .i64 a)
  have b3 := blk_set b2 (k * 5 + 2) (.int .i64 b)
  have b4 := blk_set b3 (k * 5 + 3) (.int .i64 st)
  have b5 := blk_set b4 (k * 5 + 4) av
  refine ⟨b5, fun j hj => ?_⟩
  by_cases e : j = k
  · subst e
    have oth : ∀ (w : World) (p q : Nat) (x v : Value), w.cell? ⟨g, p, none⟩ = some v → q ≠ p → (w.setCell ⟨g, q, none⟩ x).cell? ⟨g, p, none⟩ = some v := fun w p q x v hv hne => by
      rw [World.cell?_setCell_other _ _ _ _ (fun e => by injection e; omega)]; exact hv
    refine ⟨av, ?_, ?_, ?_, ?_, ?_, ?_, h5⟩
    · rw [← h0]; exact oth _ _ _ _ _ (oth _ _ _ _ _ (oth _ _ _ _ _ (oth _ _ _ _ _ (put_cells b0 (by omega)) (by omega)) (by omega)) (by omega)) (by omega)
    · rw [← h1]; exact oth _ _ _ _ _ (oth _ _ _ _ _ (oth _ _ _ _ _ (put_cells b1 (by omega)) (by omega)) (by omega)) (by omega)
    · rw [← h2]; exact oth _ _ _ _ _ (oth _ _ _ _ _ (put_cells b2 (by omega)) (by omega)) (by omega)
    · rw [← h3]; exact oth _ _ _ _ _ (put_cells b3 (by omega)) (by omega)
    · exact put_cells b4 (by omega)
    · exact isInts_set (isInts_set (isInts_set (isInts_set (isInts_set h4 h5) h5) h5) h5) h5
  · have := h.got j (by omega)
    exact ((((this.set (by omega)).set (by omega)).set (by omega)).set (by omega)).set (by omega)
theorem below_set5 {B : Nat} {w0 w : World} {g k : Nat} {kd : ByteArray} {a b st : Int} {av : Value} (h : Below B w0 w) (hg : B ≤ g) : Below B w0 (set5 w g k kd a b st av) := ((((h.setCell hg _).setCell hg _).setCell hg _).setCell hg _).setCell hg _
/-- A []Rule that reads as rs. -/
def IsRules (w : World) (v : Value) (rs : List RuleD) : Prop :=
  ∃ a c, v = .slice a rs.length c ∧ ∀ j, j < rs.length → ∃ b, a = some ⟨b, 0, none⟩ ∧ RuleAt w b j (rs.getD j default)
theorem IsRules.below {w w' : World} {v : Value} {rs : List RuleD} (h : IsRules w v rs) (hb : Below w.heap.size w w') : IsRules w' v rs := by
  obtain ⟨a, c, e, q⟩ := h
  refine ⟨a, c, e, fun j hj => ?_⟩
  obtain ⟨b, h1, h2⟩ := q j hj
  exact ⟨b, h1, h2.below hb⟩
end Go.Proofs.YtglonlpfnllocaaGreatDoor

/-
  The document's program while it is read: its rows are its own; its lists of numbers may begin anywhere in a row of numbers.
-/
import Derived.Test.YtakmmpbkojhmhaaGreatDoorPMem
namespace Go.Proofs.YtakmmpbkojhmhaaGreatDoor
open Go.RowKit Go.Extern.Stop Go.Stop Go.Extern

/-- Numbers in a row of numbers. -/
def IntsOwn (w : World) (v : Value) (zs : List Int) : Prop :=
  ∃ a c, v = .slice a zs.length c ∧ zs.length ≤ c ∧ (zs = [] ∨ ∃ g o cs, a = some ⟨g, o, none⟩ ∧ w.heap[g]? = some (.cells cs 3 (0, 0)) ∧ ∀ j, j < zs.length → cs[o + j]? = some (.int .i64 (zs.getD j 0)))
theorem IntsOwn.form {w : World} {v : Value} {zs : List Int} (h : IntsOwn w v zs) : ∃ a c, v = .slice a zs.length c := by
  obtain ⟨a, c, e, _⟩ := h
  exact ⟨a, c, e⟩
theorem IntsOwn.cap {w : World} {v : Value} {zs : List Int} (h : IntsOwn w v zs) : IsCap w v zs := by
  obtain ⟨a, c, rfl, hc, h | ⟨g, o, cs, rfl, hh, hq⟩⟩ := h
  · subst h
    exact ⟨Or.inl ⟨rfl, _, _, rfl⟩, _, _, rfl, hc⟩
  · refine ⟨isInts_of_cells rfl fun j hj => ?_, _, _, rfl, hc⟩
    rw [Lib.cell_of_heap hh]; exact hq j hj
theorem IntsOwn.kept {w w' : World} {v : Value} {zs : List Int} {T : TypeId} (h : IntsOwn w v zs) (hk : Kept T w w') (hne : 3 ≠ T) : IntsOwn w' v zs := by
  obtain ⟨a, c, e, hc, h | ⟨g, o, cs, ea, hh, hq⟩⟩ := h
  · exact ⟨a, c, e, hc, Or.inl h⟩
  · exact ⟨a, c, e, hc, Or.inr ⟨g, o, cs, ea, hk _ _ _ _ hh hne, hq⟩⟩
theorem IntsOwn.below {w w' : World} {v : Value} {zs : List Int} (h : IntsOwn w v zs) (hb : Below w.heap.size w w') : IntsOwn w' v zs := by
  obtain ⟨a, c, e, hc, h | ⟨g, o, cs, ea, hh, hq⟩⟩ := h
  · exact ⟨a, c, e, hc, Or.inl h⟩
  · exact ⟨a, c, e, hc, Or.inr ⟨g, o, cs, ea, block_keep hb hh, hq⟩⟩
theorem intsOwn_take {w : World} {B n : Nat} {v : Value} {zs : List Int} (h : w.ownsRow B 3 1 v n (zs.map intV)) (k : Nat) (hk : k ≤ n) (hn : 0 < n) : ∃ g c, v = .slice (some ⟨g, 0, none⟩) n c ∧ k ≤ c ∧ IntsOwn w (.slice (some ⟨g, 0, none⟩) k c) (zs.take k) := by
  obtain ⟨hl, q | ⟨g, cap, cur, hv, hg, hh, hcap, hmax, hsz, hcur⟩⟩ := h
  · omega
  have hzl : zs.length = n := by simpa using hl
  have hlen : (zs.take k).length = k := by simp; omega
  refine ⟨g, cap, hv, by omega, some ⟨g, 0, none⟩, cap, by rw [hlen], by omega, Or.inr ⟨g, 0, cur, rfl, hh, fun j hj => ?_⟩⟩
  rw [hlen] at hj
  have h1 : (cur.toList.take (n * 1))[j]? = (zs.map intV)[j]? := by rw [hcur]
  rw [List.getElem?_take_of_lt (by omega)] at h1
  simp only [Array.getElem?_toList] at h1
  rw [Nat.zero_add, h1]
  have hj2 : j < zs.length := by omega
  simp [List.getD, hj, hj2, intV]
theorem intsOwn_drop {w : World} {B n : Nat} {v : Value} {zs : List Int} (h : w.ownsRow B 3 1 v n (zs.map intV)) (k : Nat) (hk : k ≤ n) (hn : 0 < n) : ∃ g c, v = .slice (some ⟨g, 0, none⟩) n c ∧ n ≤ c ∧ IntsOwn w (.slice (some ⟨g, k, none⟩) (n - k) (c - k)) (zs.drop k) := by
  obtain ⟨hl, q | ⟨g, cap, cur, hv, hg, hh, hcap, hmax, hsz, hcur⟩⟩ := h
  · omega
  have hzl : zs.length = n := by simpa using hl
  have hlen : (zs.drop k).length = n - k := by simp; omega
  refine ⟨g, cap, hv, by omega, some ⟨g, k, none⟩, cap - k, by rw [hlen], by omega, Or.inr ⟨g, k, cur, rfl, hh, fun j hj => ?_⟩⟩
  rw [hlen] at hj
  have h1 : (cur.toList.take (n * 1))[k + j]? = (zs.map intV)[k + j]? := by rw [hcur]
  rw [List.getElem?_take_of_lt (by omega)] at h1
  simp only [Array.getElem?_toList] at h1
  rw [h1]
  have hj2 : k + j < zs.length := by omega
  simp [List.getD, hj2, intV]

/-- The program, in memory of its own. -/
structure Rp (w : World) (B pb : Nat) (P : ProgD) (v1 v2 v3 : Value) (ps qs : List Value) : Prop where
  low : B ≤ pb
  blk : w.heap[pb]? = some (.cells #[v1, v2, v3] 43 (0, 0))
  o1 : w.ownsRow B 9 1 v1 P.vars.length (P.vars.map strV)
  l2 : ps.length = P.funs.length
  o2 : w.ownsRow B 78 3 v2 P.funs.length (List.zipWith funCells P.funs ps).flatten
  i2 : ∀ j, j < P.funs.length → IntsOwn w (ps.getD j default) (P.funs.getD j default).params
  l3 : qs.length = P.stmts.length
  o3 : w.ownsRow B 60 4 v3 P.stmts.length (List.zipWith stmtCells P.stmts qs).flatten
  i3 : ∀ j, j < P.stmts.length → IntsOwn w (qs.getD j default) (P.stmts.getD j default).args
theorem Rp.below {w w' : World} {B pb : Nat} {P : ProgD} {v1 v2 v3 : Value} {ps qs : List Value} (h : Rp w B pb P v1 v2 v3 ps qs) (hb : Below w.heap.size w w') : Rp w' B pb P v1 v2 v3 ps qs :=
  ⟨h.low, block_keep hb h.blk, owns_below h.o1 hb, h.l2, owns_below h.o2 hb, fun j hj => (h.i2 j hj).below hb, h.l3, owns_below h.o3 hb, fun j hj => (h.i3 j hj).below hb⟩
theorem Rp.isProg {w : World} {B pb : Nat} {P : ProgD} {v1 v2 v3 : Value} {ps qs : List Value} (h : Rp w B pb P v1 v2 v3 ps qs) : IsProg w v1 v2 v3 P := by
  refine ⟨isStrs_of_owns h.o1, ?_, ?_⟩
  · rcases h.o2.2 with ⟨hv, h0⟩ | ⟨g, cap, cur, hv, _, _, hcap, _⟩
    · exact ⟨none, 0, by rw [hv, h0], by omega, fun j hj => absurd hj (by omega)⟩
    · refine ⟨_, cap, hv, hcap, fun j hj => ⟨g, 0, rfl, ps.getD j default, ?_, ?_, (h.i2 j hj).cap, ?_⟩⟩
      all_goals
        have hz := zip_at funCells P.funs ps h.l2 j hj
        have hlen : ∀ l ∈ List.zipWith funCells P.funs ps, l.length = 3 := fun l hl => by
          obtain ⟨i, hi, rfl⟩ := List.mem_iff_getElem.1 hl
          simp [funCells]
      · have := h.o2.cells (show v2.ownBlock = some g by rw [hv]; rfl) (j * 3 + 0) _ (by rw [flatten_at _ 3 hlen j 0 _ hz (by decide)]; rfl)
        rw [Addr.add_lit] at this
        simpa [strV, intV] using this
      · have := h.o2.cells (show v2.ownBlock = some g by rw [hv]; rfl) (j * 3 + 1) _ (by rw [flatten_at _ 3 hlen j 1 _ hz (by decide)]; rfl)
        rw [Addr.add_lit] at this
        simpa [strV, intV] using this
      · have := h.o2.cells (show v2.ownBlock = some g by rw [hv]; rfl) (j * 3 + 2) _ (by rw [flatten_at _ 3 hlen j 2 _ hz (by decide)]; rfl)
        rw [Addr.add_lit] at this
        simpa [strV, intV] using this
  · rcases h.o3.2 with ⟨hv, h0⟩ | ⟨g, cap, cur, hv, _, _, hcap, _⟩
    · exact ⟨none, 0, by rw [hv, h0], by omega, fun j hj => absurd hj (by omega)⟩
    · refine ⟨_, cap, hv, hcap, fun j hj => ⟨g, 0, rfl, qs.getD j default, ?_, ?_, ?_, ?_, (h.i3 j hj).cap⟩⟩
      all_goals
        have hz := zip_at stmtCells P.stmts qs h.l3 j hj
        have hlen : ∀ l ∈ List.zipWith stmtCells P.stmts qs, l.length = 4 := fun l hl => by
          obtain ⟨i, hi, rfl⟩ := List.mem_iff_getElem.1 hl
          simp [stmtCells]
      · have := h.o3.cells (show v3.ownBlock = some g by rw [hv]; rfl) (j * 4 + 0) _ (by rw [flatten_at _ 4 hlen j 0 _ hz (by decide)]; rfl)
        rw [Addr.add_lit] at this
        simpa [strV, intV] using this
      · have := h.o3.cells (show v3.ownBlock = some g by rw [hv]; rfl) (j * 4 + 1) _ (by rw [flatten_at _ 4 hlen j 1 _ hz (by decide)]; rfl)
        rw [Addr.add_lit] at this
        simpa [strV, intV] using this
      · have := h.o3.cells (show v3.ownBlock = some g by rw [hv]; rfl) (j * 4 + 2) _ (by rw [flatten_at _ 4 hlen j 2 _ hz (by decide)]; rfl)
        rw [Addr.add_lit] at this
        simpa [strV, intV] using this
      · have := h.o3.cells (show v3.ownBlock = some g by rw [hv]; rfl) (j * 4 + 3) _ (by rw [flatten_at _ 4 hlen j 3 _ hz (by decide)]; rfl)
        rw [Addr.add_lit] at this
        simpa [strV, intV] using this

theorem Rp.size {w : World} {B pb : Nat} {P : ProgD} {v1 v2 v3 : Value} {ps qs : List Value} (h : Rp w B pb P v1 v2 v3 ps qs) : B ≤ w.heap.size := Nat.le_trans h.low (Nat.le_of_lt (Array.getElem?_eq_some_iff.1 h.blk).1)
theorem Rp.cells {w : World} {B pb : Nat} {P : ProgD} {v1 v2 v3 : Value} {ps qs : List Value} (h : Rp w B pb P v1 v2 v3 ps qs) : w.cell? ⟨pb, 0, none⟩ = some v1 ∧ w.cell? ⟨pb, 1, none⟩ = some v2 ∧ w.cell? ⟨pb, 2, none⟩ = some v3 := by
  refine ⟨?_, ?_, ?_⟩
  · rw [Lib.cell_of_heap h.blk]; rfl
  · rw [Lib.cell_of_heap h.blk]; rfl
  · rw [Lib.cell_of_heap h.blk]; rfl
theorem Rp.frz {w : World} {B pb : Nat} {P : ProgD} {v1 v2 v3 : Value} {ps qs : List Value} (h : Rp w B pb P v1 v2 v3 ps qs) (i : Nat) : w.frozen? ⟨pb, i, none⟩ = false := Lib.frozen_of_heap h.blk i
theorem Rp.addVar {w : World} {B pb : Nat} {P : ProgD} {v1 v2 v3 : Value} {ps qs : List Value} (h : Rp w B pb P v1 v2 v3 ps qs) (hl : P.vars.length ≤ 1000000) (s : Bs) :
    ∃ v' w', (Builtin.append_ #[39, 39] 39 #[v1, .slice (some ⟨w.heap.size, 0, none⟩) 1 1]).run Tryz.prog (w.alloc (.cells #[.string (S s)] 9)) = .ok v' w' ∧
      w'.cell? ⟨pb, 0, none⟩ = some v1 ∧ w'.frozen? ⟨pb, 0, none⟩ = false ∧ (∃ a n c, v' = .slice a n c) ∧ Rp (w'.setCell ⟨pb, 0, none⟩ v') B pb { P with vars := P.vars ++ [s] } v' v2 v3 ps qs ∧ Below B w (w'.setCell ⟨pb, 0, none⟩ v') ∧ Kept 9 w w' := by
  obtain ⟨v', w', h1, h2, h3, h4⟩ := append_one w B v1 P.vars.length 1 16 39 9 (.string ⟨#[]⟩) (P.vars.map strV) [strV s] h.o1 h.size Tryz.underlying39 Tryz.infoString (by decide) rfl rfl (fun x hx => by rw [List.mem_singleton.1 hx]; rfl) hl 39 (by decide)
  have hblk : w'.heap[pb]? = some (.cells #[v1, v2, v3] 43 (0, 0)) := h4 _ _ _ _ h.blk (by decide)
  have hset := kept_setCell (i := 0) hblk v'
  refine ⟨v', w', h1, by rw [Lib.cell_of_heap hblk]; rfl, Lib.frozen_of_heap hblk 0, ?_, ?_, (h3.setCell h.low _), h4⟩
  · rcases h2.2 with ⟨e, _⟩ | ⟨g, cap, cur, e, _⟩
    · exact ⟨_, _, _, e⟩
    · exact ⟨_, _, _, e⟩
  · refine ⟨h.low, by rw [set_block _ _ _ _ _ _ hblk]; rfl, ?_, h.l2, owns_kept (owns_kept h.o2 h4 (by decide)) hset (by decide), fun j hj => ((h.i2 j hj).kept h4 (by decide)).kept hset (by decide), h.l3, owns_kept (owns_kept h.o3 h4 (by decide)) hset (by decide), fun j hj => ((h.i3 j hj).kept h4 (by decide)).kept hset (by decide)⟩
    have := owns_kept h2 hset (by decide)
    simpa using this
theorem Rp.addFun {w : World} {B pb : Nat} {P : ProgD} {v1 v2 v3 : Value} {ps qs : List Value} (h : Rp w B pb P v1 v2 v3 ps qs) (hl : P.funs.length ≤ 1000000) (f : FunD) (pv : Value) (hp : IntsOwn w pv f.params) :
    ∃ v' w', (Builtin.append_ #[40, 40] 40 #[v2, .slice (some ⟨w.heap.size, 0, none⟩) 1 1]).run Tryz.prog (w.alloc (.cells #[.string (S f.name), pv, .int .i64 f.ret] 78)) = .ok v' w' ∧
      w'.cell? ⟨pb, 1, none⟩ = some v2 ∧ w'.frozen? ⟨pb, 1, none⟩ = false ∧ (∃ a n c, v' = .slice a n c) ∧ Rp (w'.setCell ⟨pb, 1, none⟩ v') B pb { P with funs := P.funs ++ [f] } v1 v' v3 (ps ++ [pv]) qs ∧ Below B w (w'.setCell ⟨pb, 1, none⟩ v') ∧ Kept 78 w w' := by
  obtain ⟨v', w', h1, h2, h3, h4⟩ := append_one w B v2 P.funs.length 3 48 40 78 _ _ (funCells f pv) h.o2 h.size Tryz.underlying40 Tryz.infoFun (by decide) rfl rfl (fun x hx => by
    obtain ⟨_, _, rfl⟩ := hp.form
    rcases List.mem_cons.1 hx with rfl | hx
    · rfl
    rcases List.mem_cons.1 hx with rfl | hx
    · rfl
    · rw [List.mem_singleton.1 hx]; rfl) hl 40 (by decide)
  have hblk : w'.heap[pb]? = some (.cells #[v1, v2, v3] 43 (0, 0)) := h4 _ _ _ _ h.blk (by decide)
  have hset := kept_setCell (i := 1) hblk v'
  refine ⟨v', w', h1, by rw [Lib.cell_of_heap hblk]; rfl, Lib.frozen_of_heap hblk 1, ?_, ?_, (h3.setCell h.low _), h4⟩
  · obtain ⟨_, _, e⟩ := owns_form h2
    exact ⟨_, _, _, e⟩
  · refine ⟨h.low, by rw [set_block _ _ _ _ _ _ hblk]; rfl, owns_kept (owns_kept h.o1 h4 (by decide)) hset (by decide), by simp [h.l2], ?_, ?_, h.l3, owns_kept (owns_kept h.o3 h4 (by decide)) hset (by decide), fun j hj => ((h.i3 j hj).kept h4 (by decide)).kept hset (by decide)⟩
    · have := owns_kept h2 hset (by decide)
      rw [← zip_snoc funCells P.funs ps h.l2 f pv] at this
      simpa using this
    · intro j hj
      have hj' : j < P.funs.length + 1 := by simpa using hj
      by_cases e : j < P.funs.length
      · show IntsOwn _ ((ps ++ [pv]).getD j default) ((P.funs ++ [f]).getD j default).params
        rw [getD_snoc_left ps pv default j (by rw [h.l2]; exact e), getD_snoc_left P.funs f default j e]
        exact ((h.i2 j e).kept h4 (by decide)).kept hset (by decide)
      · show IntsOwn _ ((ps ++ [pv]).getD j default) ((P.funs ++ [f]).getD j default).params
        rw [getD_snoc_last ps pv default j (by rw [h.l2]; omega), getD_snoc_last P.funs f default j (by omega)]
        exact (hp.kept h4 (by decide)).kept hset (by decide)

theorem Rp.addStmt {w : World} {B pb : Nat} {P : ProgD} {v1 v2 v3 : Value} {ps qs : List Value} (h : Rp w B pb P v1 v2 v3 ps qs) (hl : P.stmts.length ≤ 1000000) (f : StmtD) (pv : Value) (hp : IntsOwn w pv f.args) :
    ∃ v' w', (Builtin.append_ #[41, 41] 41 #[v3, .slice (some ⟨w.heap.size, 0, none⟩) 1 1]).run Tryz.prog (w.alloc (.cells #[.string (S f.kind), .int .i64 f.x, .int .i64 f.y, pv] 60)) = .ok v' w' ∧
      w'.cell? ⟨pb, 2, none⟩ = some v3 ∧ w'.frozen? ⟨pb, 2, none⟩ = false ∧ (∃ a n c, v' = .slice a n c) ∧ Rp (w'.setCell ⟨pb, 2, none⟩ v') B pb { P with stmts := P.stmts ++ [f] } v1 v2 v' ps (qs ++ [pv]) ∧ Below B w (w'.setCell ⟨pb, 2, none⟩ v') ∧ Kept 60 w w' := by
  obtain ⟨v', w', h1, h2, h3, h4⟩ := append_one w B v3 P.stmts.length 4 56 41 60 _ _ (stmtCells f pv) h.o3 h.size Tryz.underlying41 Tryz.infoStmt (by decide) rfl rfl (fun x hx => by
    obtain ⟨_, _, rfl⟩ := hp.form
    rcases List.mem_cons.1 hx with rfl | hx
    · rfl
    rcases List.mem_cons.1 hx with rfl | hx
    · rfl
    rcases List.mem_cons.1 hx with rfl | hx
    · rfl
    · rw [List.mem_singleton.1 hx]; rfl) hl 41 (by decide)
  have hblk : w'.heap[pb]? = some (.cells #[v1, v2, v3] 43 (0, 0)) := h4 _ _ _ _ h.blk (by decide)
  have hset := kept_setCell (i := 2) hblk v'
  refine ⟨v', w', h1, by rw [Lib.cell_of_heap hblk]; rfl, Lib.frozen_of_heap hblk 2, ?_, ?_, (h3.setCell h.low _), h4⟩
  · obtain ⟨_, _, e⟩ := owns_form h2
    exact ⟨_, _, _, e⟩
  · refine ⟨h.low, by rw [set_block _ _ _ _ _ _ hblk]; rfl, owns_kept (owns_kept h.o1 h4 (by decide)) hset (by decide), h.l2, owns_kept (owns_kept h.o2 h4 (by decide)) hset (by decide), fun j hj => ((h.i2 j hj).kept h4 (by decide)).kept hset (by decide), by simp [h.l3], ?_, ?_⟩
    · have := owns_kept h2 hset (by decide)
      rw [← zip_snoc stmtCells P.stmts qs h.l3 f pv] at this
      simpa using this
    · intro j hj
      have hj' : j < P.stmts.length + 1 := by simpa using hj
      by_cases e : j < P.stmts.length
      · show IntsOwn _ ((qs ++ [pv]).getD j default) ((P.stmts ++ [f]).getD j default).args
        rw [getD_snoc_left qs pv default j (by rw [h.l3]; exact e), getD_snoc_left P.stmts f default j e]
        exact ((h.i3 j e).kept h4 (by decide)).kept hset (by decide)
      · show IntsOwn _ ((qs ++ [pv]).getD j default) ((P.stmts ++ [f]).getD j default).args
        rw [getD_snoc_last qs pv default j (by rw [h.l3]; omega), getD_snoc_last P.stmts f default j (by omega)]
        exact (hp.kept h4 (by decide)).kept hset (by decide)
theorem rp_new (w : World) (B : Nat) (hB : B ≤ w.heap.size) : Rp (w.alloc (.cells #[.slice none 0 0, .slice none 0 0, .slice none 0 0] 43)) B w.heap.size noProg (.slice none 0 0) (.slice none 0 0) (.slice none 0 0) [] [] :=
  ⟨hB, heap_new w _, World.ownsRow_nil _ _ _ _, rfl, World.ownsRow_nil _ _ _ _, fun _ hj => absurd hj (Nat.not_lt_zero _), rfl, World.ownsRow_nil _ _ _ _, fun _ hj => absurd hj (Nat.not_lt_zero _)⟩

theorem Rp.set1 {w : World} {B pb : Nat} {P : ProgD} {v1 v2 v3 : Value} {ps qs : List Value} (h : Rp w B pb P v1 v2 v3 ps qs) {r : Nat} {cs : Array Value} (hr : w.heap[r]? = some (.cells cs 43 (0, 0))) (hne : pb ≠ r) (i : Nat) (x : Value) : Rp (w.setCell ⟨r, i, none⟩ x) B pb P v1 v2 v3 ps qs := by
  have hk := kept_setCell (i := i) hr x
  have hb : (w.setCell ⟨r, i, none⟩ x).heap[pb]? = w.heap[pb]? := by
    simp only [World.setCell, Array.getElem?_modify]
    rw [if_neg (fun q => hne q.symm)]
  exact ⟨h.low, by rw [hb]; exact h.blk, owns_kept h.o1 hk (by decide), h.l2, owns_kept h.o2 hk (by decide), fun j hj => (h.i2 j hj).kept hk (by decide), h.l3, owns_kept h.o3 hk (by decide), fun j hj => (h.i3 j hj).kept hk (by decide)⟩
theorem Rp.set3 {w : World} {B pb : Nat} {P : ProgD} {v1 v2 v3 : Value} {ps qs : List Value} (h : Rp w B pb P v1 v2 v3 ps qs) {r : Nat} {cs : Array Value} (hr : w.heap[r]? = some (.cells cs 43 (0, 0))) (hne : pb ≠ r) (x0 x1 x2 : Value) : Rp (((w.setCell ⟨r, 0, none⟩ x0).setCell ⟨r, 1, none⟩ x1).setCell ⟨r, 2, none⟩ x2) B pb P v1 v2 v3 ps qs :=
  ((h.set1 hr hne 0 x0).set1 (set_block _ _ _ _ _ _ hr x0) hne 1 x1).set1 (set_block _ _ _ _ _ _ (set_block _ _ _ _ _ _ hr x0) x1) hne 2 x2
theorem Rp.rebox {w : World} {B pb : Nat} {P : ProgD} {v1 v2 v3 : Value} {ps qs : List Value} (h : Rp w B pb P v1 v2 v3 ps qs) : Rp (w.alloc (.cells #[v1, v2, v3] 43)) B w.heap.size P v1 v2 v3 ps qs := by
  have hb := h.below (below1 w (.cells #[v1, v2, v3] 43))
  exact ⟨h.size, heap_new w _, hb.o1, hb.l2, hb.o2, hb.i2, hb.l3, hb.o3, hb.i3⟩

/-- All blocks that hold a program are as they were. -/
def KP (w w' : World) : Prop := ∀ (k : Nat) (cs : Array Value), w.heap[k]? = some (.cells cs 43 (0, 0)) → w'.heap[k]? = some (.cells cs 43 (0, 0))
theorem kp_below {w w' : World} (h : Below w.heap.size w w') : KP w w' := fun _ _ q => block_keep h q
theorem kp_kept {w w1 w2 : World} {T : TypeId} (h : Below w.heap.size w w1) (hk : Kept T w1 w2) (hne : 43 ≠ T) : KP w w2 := fun _ _ q => hk _ _ _ _ (block_keep h q) hne
theorem kp_set {w w' : World} {b i : Nat} {x : Value} (h : KP w w') (hb : w.heap.size ≤ b) : KP w (w'.setCell ⟨b, i, none⟩ x) := fun k cs q => by
  have hk : k < w.heap.size := (Array.getElem?_eq_some_iff.1 q).1
  have hne : b ≠ k := by omega
  simp only [World.setCell, Array.getElem?_modify]
  rw [if_neg hne]
  exact h k cs q
/-- The rows of a program, in memory from B on. -/
structure Rq (w : World) (B : Nat) (P : ProgD) (v1 v2 v3 : Value) (ps qs : List Value) : Prop where
  size : B ≤ w.heap.size
  o1 : w.ownsRow B 9 1 v1 P.vars.length (P.vars.map strV)
  l2 : ps.length = P.funs.length
  o2 : w.ownsRow B 78 3 v2 P.funs.length (List.zipWith funCells P.funs ps).flatten
  i2 : ∀ j, j < P.funs.length → IntsOwn w (ps.getD j default) (P.funs.getD j default).params
  l3 : qs.length = P.stmts.length
  o3 : w.ownsRow B 60 4 v3 P.stmts.length (List.zipWith stmtCells P.stmts qs).flatten
  i3 : ∀ j, j < P.stmts.length → IntsOwn w (qs.getD j default) (P.stmts.getD j default).args
theorem Rp.rows {w : World} {B pb : Nat} {P : ProgD} {v1 v2 v3 : Value} {ps qs : List Value} (h : Rp w B pb P v1 v2 v3 ps qs) : Rq w B P v1 v2 v3 ps qs := ⟨h.size, h.o1, h.l2, h.o2, h.i2, h.l3, h.o3, h.i3⟩
theorem Rq.below {w w' : World} {B : Nat} {P : ProgD} {v1 v2 v3 : Value} {ps qs : List Value} (h : Rq w B P v1 v2 v3 ps qs) (hb : Below w.heap.size w w') : Rq w' B P v1 v2 v3 ps qs :=
  ⟨Nat.le_trans h.size hb.size, owns_below h.o1 hb, h.l2, owns_below h.o2 hb, fun j hj => (h.i2 j hj).below hb, h.l3, owns_below h.o3 hb, fun j hj => (h.i3 j hj).below hb⟩
theorem Rq.rebox {w : World} {B : Nat} {P : ProgD} {v1 v2 v3 : Value} {ps qs : List Value} (h : Rq w B P v1 v2 v3 ps qs) : Rp (w.alloc (.cells #[v1, v2, v3] 43)) B w.heap.size P v1 v2 v3 ps qs := by
  have hb := h.below (below1 w (.cells #[v1, v2, v3] 43))
  exact ⟨h.size, heap_new w _, hb.o1, hb.l2, hb.o2, hb.i2, hb.l3, hb.o3, hb.i3⟩
theorem Rq.set1 {w : World} {B : Nat} {P : ProgD} {v1 v2 v3 : Value} {ps qs : List Value} (h : Rq w B P v1 v2 v3 ps qs) {r : Nat} {cs : Array Value} (hr : w.heap[r]? = some (.cells cs 43 (0, 0))) (i : Nat) (x : Value) : Rq (w.setCell ⟨r, i, none⟩ x) B P v1 v2 v3 ps qs := by
  have hk := kept_setCell (i := i) hr x
  exact ⟨by simpa using h.size, owns_kept h.o1 hk (by decide), h.l2, owns_kept h.o2 hk (by decide), fun j hj => (h.i2 j hj).kept hk (by decide), h.l3, owns_kept h.o3 hk (by decide), fun j hj => (h.i3 j hj).kept hk (by decide)⟩
theorem other_block {w : World} {b c i : Nat} {x : Value} (hne : b ≠ c) : (w.setCell ⟨b, i, none⟩ x).heap[c]? = w.heap[c]? := by
  simp only [World.setCell, Array.getElem?_modify]
  rw [if_neg hne]
abbrev zero3 : Obj := .cells #[.slice none 0 0, .slice none 0 0, .slice none 0 0] 43
abbrev set3 (w : World) (b : Nat) (x0 x1 x2 : Value) : World := ((w.setCell ⟨b, 0, none⟩ x0).setCell ⟨b, 1, none⟩ x1).setCell ⟨b, 2, none⟩ x2
theorem Rq.set3 {w : World} {B : Nat} {P : ProgD} {v1 v2 v3 : Value} {ps qs : List Value} (h : Rq w B P v1 v2 v3 ps qs) {r : Nat} {cs : Array Value} (hr : w.heap[r]? = some (.cells cs 43 (0, 0))) (x0 x1 x2 : Value) : Rq (set3 w r x0 x1 x2) B P v1 v2 v3 ps qs :=
  ((h.set1 hr 0 x0).set1 (set_block _ _ _ _ _ _ hr x0) 1 x1).set1 (set_block _ _ _ _ _ _ (set_block _ _ _ _ _ _ hr x0) x1) 2 x2
theorem below_set3 {w0 w : World} {B b : Nat} (h : Below B w0 w) (hb : B ≤ b) (x0 x1 x2 : Value) : Below B w0 (set3 w b x0 x1 x2) := ((h.setCell hb _).setCell hb _).setCell hb _
theorem line_bad {w wx : World} {B : Nat} (hB : B ≤ w.heap.size) (h : Below w.heap.size w wx) (x0 x1 x2 : Value) : Below B w (set3 wx (w.heap.size + 1) x0 x1 x2) ∧ KP w (set3 wx (w.heap.size + 1) x0 x1 x2) := by
  have := below_set3 h (Nat.le_succ w.heap.size) x0 x1 x2
  exact ⟨this.mono hB, kp_below this⟩
theorem line_good {w wx : World} {B : Nat} (hB : B ≤ w.heap.size) (h : Below B w wx ∧ KP w wx) (x0 x1 x2 : Value) : Below B w (set3 wx (w.heap.size + 1) x0 x1 x2) ∧ KP w (set3 wx (w.heap.size + 1) x0 x1 x2) :=
  ⟨below_set3 h.1 (Nat.le_trans hB (Nat.le_succ _)) _ _ _, kp_set (kp_set (kp_set h.2 (Nat.le_succ _)) (Nat.le_succ _)) (Nat.le_succ _)⟩
end Go.Proofs.YtakmmpbkojhmhaaGreatDoor

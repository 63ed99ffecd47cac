/-
  Package prog: readVar, by a contract.
-/
import Derived.Test.YthnnheneofnkmaaGreatDoorPT
namespace Go.Proofs.YthnnheneofnkmaaGreatDoor
open Go.RowKit Go.Extern.Stop Go.Stop Go.Extern

/-- What readVar, readFun, readStmt and readLine do. -/
def Does (a : Nat → Addr) (B pb : Nat) (w w' : World) (d : ProgD × Option Nat) (e : Ending) : Prop :=
  e = .returned (errV a d.2) ∧ (∃ v1 v2 v3 ps qs, St w' B pb d.1 v1 v2 v3 ps qs) ∧ Below B w w'
theorem St.size {w : World} {B pb : Nat} {P : ProgD} {v1 v2 v3 : Value} {ps qs : List Value} (h : St w B pb P v1 v2 v3 ps qs) : B ≤ w.heap.size := Nat.le_trans h.low (Nat.le_of_lt (Array.getElem?_eq_some_iff.1 h.blk).1)
theorem St.cells {w : World} {B pb : Nat} {P : ProgD} {v1 v2 v3 : Value} {ps qs : List Value} (h : St w B pb P v1 v2 v3 ps qs) : w.cell? ⟨pb, 0, none⟩ = some v1 ∧ w.cell? ⟨pb, 1, none⟩ = some v2 ∧ w.cell? ⟨pb, 2, none⟩ = some v3 := by
  refine ⟨?_, ?_, ?_⟩
  · rw [Lib.cell_of_heap h.blk]; rfl
  · rw [Lib.cell_of_heap h.blk]; rfl
  · rw [Lib.cell_of_heap h.blk]; rfl
theorem St.frz {w : World} {B pb : Nat} {P : ProgD} {v1 v2 v3 : Value} {ps qs : List Value} (h : St w B pb P v1 v2 v3 ps qs) (i : Nat) : w.frozen? ⟨pb, i, none⟩ = false := Lib.frozen_of_heap h.blk i
theorem errs_below {w w' : World} {a : Nat → Addr} {B : Nat} (h : Errs5 w a) (hb : Below B w w') (hB : 18 ≤ B) : Errs5 w' a := by
  have k : ∀ (g : Nat) v, g < 18 → w.cell? ⟨g, 0, none⟩ = some v → w'.cell? ⟨g, 0, none⟩ = some v := fun g v hg hc => by
    rw [hb.cell (p := ⟨g, 0, none⟩) (show g < B by omega)]; exact hc
  exact ⟨k _ _ (by decide) h.c0, k _ _ (by decide) h.c1, k _ _ (by decide) h.c2, k _ _ (by decide) h.c3, k _ _ (by decide) h.c4, k _ _ (by decide) h.c5, k _ _ (by decide) h.c6, k _ _ (by decide) h.c7, k _ _ (by decide) h.c8⟩

theorem set_block (w : World) (pb i : Nat) (cs : Array Value) (T : TypeId) (fr : Nat × Nat) (h : w.heap[pb]? = some (.cells cs T fr)) (x : Value) : (w.setCell ⟨pb, i, none⟩ x).heap[pb]? = some (.cells (cs.setIfInBounds i x) T fr) := by
  simp [World.setCell, Array.getElem?_modify, h]

/-- A variable more. -/
theorem St.addVar {w : World} {B pb : Nat} {P : ProgD} {v1 v2 v3 : Value} {ps qs : List Value} (h : St w B pb P v1 v2 v3 ps qs) (hl : P.vars.length ≤ 1000000) (s : Bs) :
    ∃ v' w', (Builtin.append_ #[39, 39] 39 #[v1, .slice (some ⟨w.heap.size, 0, none⟩) 1 1]).run Tryz.prog (w.alloc (.cells #[.string (S s)] 9)) = .ok v' w' ∧
      w'.cell? ⟨pb, 0, none⟩ = some v1 ∧ w'.frozen? ⟨pb, 0, none⟩ = false ∧ (∃ a n c, v' = .slice a n c) ∧ St (w'.setCell ⟨pb, 0, none⟩ v') B pb { P with vars := P.vars ++ [s] } v' v2 v3 ps qs ∧ Below B w (w'.setCell ⟨pb, 0, none⟩ v') := by
  obtain ⟨v', w', h1, h2, h3, h4⟩ := append_one w B v1 P.vars.length 1 16 39 9 (.string ⟨#[]⟩) (P.vars.map strV) [strV s] h.o1 h.size Tryz.underlying39 Tryz.infoString (by decide) rfl rfl (fun x hx => by rw [List.mem_singleton.1 hx]; rfl) hl 39 (by decide)
  have hblk : w'.heap[pb]? = some (.cells #[v1, v2, v3] 43 (0, 0)) := h4 _ _ _ _ h.blk (by decide)
  have hset := kept_setCell (i := 0) hblk v'
  refine ⟨v', w', h1, by rw [Lib.cell_of_heap hblk]; rfl, Lib.frozen_of_heap hblk 0, ?_, ?_, (h3.setCell h.low _)⟩
  · rcases h2.2 with ⟨e, _⟩ | ⟨g, cap, cur, e, _⟩
    · exact ⟨_, _, _, e⟩
    · exact ⟨_, _, _, e⟩
  · refine ⟨h.low, by rw [set_block _ _ _ _ _ _ hblk]; rfl, ?_, h.l2, owns_kept (owns_kept h.o2 h4 (by decide)) hset (by decide), fun j hj => owns_kept (owns_kept (h.i2 j hj) h4 (by decide)) hset (by decide), h.l3, owns_kept (owns_kept h.o3 h4 (by decide)) hset (by decide), fun j hj => owns_kept (owns_kept (h.i3 j hj) h4 (by decide)) hset (by decide)⟩
    have := owns_kept h2 hset (by decide)
    simpa using this
end Go.Proofs.YthnnheneofnkmaaGreatDoor

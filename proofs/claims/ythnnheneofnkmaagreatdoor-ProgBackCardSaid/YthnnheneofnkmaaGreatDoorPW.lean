/-
  Package prog: a function more, a statement more, in the memory of a program that is read.
-/
import Derived.Test.YthnnheneofnkmaaGreatDoorPV
namespace Go.Proofs.YthnnheneofnkmaaGreatDoor
open Go.RowKit Go.Extern.Stop Go.Stop Go.Extern

theorem Tryz.infoFun : (Tryz.prog.info? 78).map (fun i => (i.zero, i.size, i.bytes)) = some (some (.agg #[.string ⟨#[]⟩, .slice none 0 0, .int .i64 0]), 3, 48) := by kernel_rfl
theorem Tryz.infoStmt : (Tryz.prog.info? 60).map (fun i => (i.zero, i.size, i.bytes)) = some (some (.agg #[.string ⟨#[]⟩, .int .i64 0, .int .i64 0, .slice none 0 0]), 4, 56) := by kernel_rfl
theorem zip_snoc {α β γ : Type} (f : α → β → List γ) (l : List α) (m : List β) (hl : m.length = l.length) (x : α) (y : β) : (List.zipWith f (l ++ [x]) (m ++ [y])).flatten = (List.zipWith f l m).flatten ++ f x y := by
  rw [List.zipWith_append hl.symm]
  simp
theorem getD_snoc_left {α : Type} (l : List α) (x d : α) (j : Nat) (h : j < l.length) : (l ++ [x]).getD j d = l.getD j d := by
  simp [List.getD, List.getElem?_append_left h]
theorem getD_snoc_last {α : Type} (l : List α) (x d : α) (j : Nat) (h : j = l.length) : (l ++ [x]).getD j d = x := by
  subst h; simp [List.getD]

theorem St.addFun {w : World} {B pb : Nat} {P : ProgD} {v1 v2 v3 : Value} {ps qs : List Value} (h : St w B pb P v1 v2 v3 ps qs) (hl : P.funs.length ≤ 1000000) (f : FunD) (pv : Value) (hp : w.ownsRow B 3 1 pv f.params.length (f.params.map intV)) :
    ∃ v' w', (Builtin.append_ #[40, 40] 40 #[v2, .slice (some ⟨w.heap.size, 0, none⟩) 1 1]).run Tryz.prog (w.alloc (.cells #[.string (S f.name), pv, .int .i64 f.ret] 78)) = .ok v' w' ∧
      w'.cell? ⟨pb, 1, none⟩ = some v2 ∧ w'.frozen? ⟨pb, 1, none⟩ = false ∧ (∃ a n c, v' = .slice a n c) ∧ St (w'.setCell ⟨pb, 1, none⟩ v') B pb { P with funs := P.funs ++ [f] } v1 v' v3 (ps ++ [pv]) qs ∧ Below B w (w'.setCell ⟨pb, 1, none⟩ v') := by
  obtain ⟨v', w', h1, h2, h3, h4⟩ := append_one w B v2 P.funs.length 3 48 40 78 _ _ (funCells f pv) h.o2 h.size Tryz.underlying40 Tryz.infoFun (by decide) rfl rfl (fun x hx => by
    obtain ⟨_, _, rfl⟩ := owns_form hp
    rcases List.mem_cons.1 hx with rfl | hx
    · rfl
    rcases List.mem_cons.1 hx with rfl | hx
    · rfl
    · rw [List.mem_singleton.1 hx]; rfl) hl 40 (by decide)
  have hblk : w'.heap[pb]? = some (.cells #[v1, v2, v3] 43 (0, 0)) := h4 _ _ _ _ h.blk (by decide)
  have hset := kept_setCell (i := 1) hblk v'
  refine ⟨v', w', h1, by rw [Lib.cell_of_heap hblk]; rfl, Lib.frozen_of_heap hblk 1, ?_, ?_, (h3.setCell h.low _)⟩
  · obtain ⟨_, _, e⟩ := owns_form h2
    exact ⟨_, _, _, e⟩
  · refine ⟨h.low, by rw [set_block _ _ _ _ _ _ hblk]; rfl, owns_kept (owns_kept h.o1 h4 (by decide)) hset (by decide), by simp [h.l2], ?_, ?_, h.l3, owns_kept (owns_kept h.o3 h4 (by decide)) hset (by decide), fun j hj => owns_kept (owns_kept (h.i3 j hj) h4 (by decide)) hset (by decide)⟩
    · have := owns_kept h2 hset (by decide)
      rw [← zip_snoc funCells P.funs ps h.l2 f pv] at this
      simpa using this
    · intro j hj
      have hj' : j < P.funs.length + 1 := by simpa using hj
      by_cases e : j < P.funs.length
      · show World.ownsRow _ B 3 1 ((ps ++ [pv]).getD j default) ((P.funs ++ [f]).getD j default).params.length (((P.funs ++ [f]).getD j default).params.map intV)
        rw [getD_snoc_left ps pv default j (by rw [h.l2]; exact e), getD_snoc_left P.funs f default j e]
        exact owns_kept (owns_kept (h.i2 j e) h4 (by decide)) hset (by decide)
      · show World.ownsRow _ B 3 1 ((ps ++ [pv]).getD j default) ((P.funs ++ [f]).getD j default).params.length (((P.funs ++ [f]).getD j default).params.map intV)
        rw [getD_snoc_last ps pv default j (by rw [h.l2]; omega), getD_snoc_last P.funs f default j (by omega)]
        exact owns_kept (owns_kept hp h4 (by decide)) hset (by decide)

theorem St.addStmt {w : World} {B pb : Nat} {P : ProgD} {v1 v2 v3 : Value} {ps qs : List Value} (h : St w B pb P v1 v2 v3 ps qs) (hl : P.stmts.length ≤ 1000000) (f : StmtD) (pv : Value) (hp : w.ownsRow B 3 1 pv f.args.length (f.args.map intV)) :
    ∃ v' w', (Builtin.append_ #[41, 41] 41 #[v3, .slice (some ⟨w.heap.size, 0, none⟩) 1 1]).run Tryz.prog (w.alloc (.cells #[.string (S f.kind), .int .i64 f.x, .int .i64 f.y, pv] 60)) = .ok v' w' ∧
      w'.cell? ⟨pb, 2, none⟩ = some v3 ∧ w'.frozen? ⟨pb, 2, none⟩ = false ∧ (∃ a n c, v' = .slice a n c) ∧ St (w'.setCell ⟨pb, 2, none⟩ v') B pb { P with stmts := P.stmts ++ [f] } v1 v2 v' ps (qs ++ [pv]) ∧ Below B w (w'.setCell ⟨pb, 2, none⟩ v') := by
  obtain ⟨v', w', h1, h2, h3, h4⟩ := append_one w B v3 P.stmts.length 4 56 41 60 _ _ (stmtCells f pv) h.o3 h.size Tryz.underlying41 Tryz.infoStmt (by decide) rfl rfl (fun x hx => by
    obtain ⟨_, _, rfl⟩ := owns_form hp
    rcases List.mem_cons.1 hx with rfl | hx
    · rfl
    rcases List.mem_cons.1 hx with rfl | hx
    · rfl
    rcases List.mem_cons.1 hx with rfl | hx
    · rfl
    · rw [List.mem_singleton.1 hx]; rfl) hl 41 (by decide)
  have hblk : w'.heap[pb]? = some (.cells #[v1, v2, v3] 43 (0, 0)) := h4 _ _ _ _ h.blk (by decide)
  have hset := kept_setCell (i := 2) hblk v'
  refine ⟨v', w', h1, by rw [Lib.cell_of_heap hblk]; rfl, Lib.frozen_of_heap hblk 2, ?_, ?_, (h3.setCell h.low _)⟩
  · obtain ⟨_, _, e⟩ := owns_form h2
    exact ⟨_, _, _, e⟩
  · refine ⟨h.low, by rw [set_block _ _ _ _ _ _ hblk]; rfl, owns_kept (owns_kept h.o1 h4 (by decide)) hset (by decide), h.l2, owns_kept (owns_kept h.o2 h4 (by decide)) hset (by decide), fun j hj => owns_kept (owns_kept (h.i2 j hj) h4 (by decide)) hset (by decide), by simp [h.l3], ?_, ?_⟩
    · have := owns_kept h2 hset (by decide)
      rw [← zip_snoc stmtCells P.stmts qs h.l3 f pv] at this
      simpa using this
    · intro j hj
      have hj' : j < P.stmts.length + 1 := by simpa using hj
      by_cases e : j < P.stmts.length
      · show World.ownsRow _ B 3 1 ((qs ++ [pv]).getD j default) ((P.stmts ++ [f]).getD j default).args.length (((P.stmts ++ [f]).getD j default).args.map intV)
        rw [getD_snoc_left qs pv default j (by rw [h.l3]; exact e), getD_snoc_left P.stmts f default j e]
        exact owns_kept (owns_kept (h.i3 j e) h4 (by decide)) hset (by decide)
      · show World.ownsRow _ B 3 1 ((qs ++ [pv]).getD j default) ((P.stmts ++ [f]).getD j default).args.length (((P.stmts ++ [f]).getD j default).args.map intV)
        rw [getD_snoc_last qs pv default j (by rw [h.l3]; omega), getD_snoc_last P.stmts f default j (by omega)]
        exact owns_kept (owns_kept hp h4 (by decide)) hset (by decide)
end Go.Proofs.YthnnheneofnkmaaGreatDoor

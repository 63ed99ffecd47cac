/-
  Package prog: the program that Read makes, behind a pointer: its memory, and what an append does to it.
-/
import Derived.Test.YthnnheneofnkmaaGreatDoorPS
import Derived.Deep.RegionLaw
namespace Go.Proofs.YthnnheneofnkmaaGreatDoor
open Go.RowKit Go.Extern.Stop Go.Stop Go.Extern

/-- All blocks but those of one type are as they were. -/
def Kept (T : TypeId) (w w' : World) : Prop := ∀ (k : Nat) (c : Array Value) (t : TypeId) (fr : Nat × Nat), w.heap[k]? = some (.cells c t fr) → t ≠ T → w'.heap[k]? = some (.cells c t fr)
theorem owns_kept {w w' : World} {T : TypeId} {B : Nat} {e : TypeId} {k : Nat} {v : Value} {n : Nat} {xs : List Value} (h : w.ownsRow B e k v n xs) (hk : Kept T w w') (hne : e ≠ T) : w'.ownsRow B e k v n xs := by
  refine ⟨h.1, ?_⟩
  rcases h.2 with h2 | ⟨g, cap, cur, hv, hg, hh, r⟩
  · exact Or.inl h2
  · exact Or.inr ⟨g, cap, cur, hv, hg, hk g cur e (0, 0) hh hne, r⟩
theorem kept_below {w w' : World} (T : TypeId) (hb : Below w.heap.size w w') : Kept T w w' := fun _ _ _ _ h _ => block_keep hb h
theorem Kept.trans {w w1 w2 : World} {T : TypeId} (h1 : Kept T w w1) (h2 : Kept T w1 w2) : Kept T w w2 := fun k c t fr h hne => h2 k c t fr (h1 k c t fr h hne) hne
theorem kept_setCell {w : World} {T : TypeId} {b i : Nat} {cs : Array Value} {fr : Nat × Nat} (hb : w.heap[b]? = some (.cells cs T fr)) (x : Value) : Kept T w (w.setCell ⟨b, i, none⟩ x) := fun k c t fr' h hne => by
  have hkb : k ≠ b := fun q => by
    rw [q, hb] at h
    cases h
    exact hne rfl
  simp only [World.setCell, Array.getElem?_modify]
  rw [if_neg (fun q => hkb q.symm)]
  exact h

/-- One element more behind a row of one's own, of whatever type. -/
theorem append_one (wr : World) (B : Nat) (u : Value) (n k by_ : Nat) (t e : TypeId) (z : Value) (xs news : List Value) (hu : wr.ownsRow B e k u n xs) (hB : B ≤ wr.heap.size)
    (ht : Tryz.prog.underlying t = some (.slice e)) (hi : (Tryz.prog.info? e).map (fun i => (i.zero, i.size, i.bytes)) = some (some z, k, by_)) (hk2 : by_ ≤ 1000) (hzc : z.cells.size = k)
    (hn : news.length = k) (hone : ∀ x ∈ news, x.oneCell' = true) (hbd : n ≤ 1000000) (ty : TypeId) (hpos : 0 < k) :
    ∃ v' w', (Builtin.append_ #[t, t] ty #[u, .slice (some ⟨wr.heap.size, 0, none⟩) 1 1]).run Tryz.prog (wr.alloc (.cells news.toArray e)) = .ok v' w' ∧
      w'.ownsRow B e k v' (n + 1) (xs ++ news) ∧ Below B wr w' ∧ Kept e wr w' := by
  obtain ⟨i0, hi', hz0, hz1, hz2⟩ := info_parts hi
  have hu2 := hu.alloc (.cells news.toArray e)
  have hsz : B ≤ (wr.alloc (.cells news.toArray e)).heap.size := by simp; omega
  have hmul : (n + 1) * by_ ≤ 1000001 * 1000 := Nat.mul_le_mul (by omega) hk2
  obtain ⟨v', w', h1, h2, h3, _⟩ := run_append_own (P := Tryz.prog) (wr.alloc (.cells news.toArray e)) B t ty e i0 z k by_ ht hi' hz0 hz1 hz2 hzc hpos u n xs hu2 ⟨wr.heap.size, 0, none⟩ 1 1 news (by omega)
    (fun j x hj => by
      rw [Addr.add_lit, Nat.zero_add, World.cell?_alloc_at _ _ _ _ (by simp)]
      simpa using hj) hone (by unfold maxLen; omega) (by omega) hsz
  refine ⟨v', w', h1, h2, ((Below.refl B wr).alloc hB _).trans (below_of_grown h3 hsz hu2 (Nat.le_refl _)), fun j c t' fr hj hne => ?_⟩
  have hjl : j < wr.heap.size := (Array.getElem?_eq_some_iff.1 hj).1
  have hj2 : (wr.alloc (.cells news.toArray e)).heap[j]? = some (.cells c t' fr) := block_keep (below1 wr _) hj
  have hno : u.ownBlock ≠ some j := fun q => by
    rcases hu2.2 with ⟨rfl, _⟩ | ⟨g, cap, cur, rfl, _, hh, _⟩
    · cases q
    · have : g = j := by simpa [Value.ownBlock] using q
      subst this
      rw [hj2] at hh
      cases hh
      exact hne rfl
  rw [h3.block j (by simp; omega) (fun q => hno q.symm)]
  exact hj2

def funCells (f : FunD) (pv : Value) : List Value := [strV f.name, pv, intV f.ret]
def stmtCells (s : StmtD) (pv : Value) : List Value := [strV s.kind, intV s.x, intV s.y, pv]
/-- The program behind Read's pointer, in memory of its own. -/
structure St (w : World) (B pb : Nat) (P : ProgD) (v1 v2 v3 : Value) (ps qs : List Value) : Prop where
  low : B ≤ pb
  blk : w.heap[pb]? = some (.cells #[v1, v2, v3] 43 (0, 0))
  o1 : w.ownsRow B 9 1 v1 P.vars.length (P.vars.map strV)
  l2 : ps.length = P.funs.length
  o2 : w.ownsRow B 78 3 v2 P.funs.length (List.zipWith funCells P.funs ps).flatten
  i2 : ∀ j, j < P.funs.length → w.ownsRow B 3 1 (ps.getD j default) (P.funs.getD j default).params.length ((P.funs.getD j default).params.map intV)
  l3 : qs.length = P.stmts.length
  o3 : w.ownsRow B 60 4 v3 P.stmts.length (List.zipWith stmtCells P.stmts qs).flatten
  i3 : ∀ j, j < P.stmts.length → w.ownsRow B 3 1 (qs.getD j default) (P.stmts.getD j default).args.length ((P.stmts.getD j default).args.map intV)
theorem St.below {w w' : World} {B pb : Nat} {P : ProgD} {v1 v2 v3 : Value} {ps qs : List Value} (h : St w B pb P v1 v2 v3 ps qs) (hb : Below w.heap.size w w') : St w' B pb P v1 v2 v3 ps qs :=
  ⟨h.low, block_keep hb h.blk, owns_below h.o1 hb, h.l2, owns_below h.o2 hb, fun j hj => owns_below (h.i2 j hj) hb, h.l3, owns_below h.o3 hb, fun j hj => owns_below (h.i3 j hj) hb⟩
theorem flatten_at {α : Type} (L : List (List α)) (m : Nat) (h : ∀ l ∈ L, l.length = m) : ∀ (j i : Nat) (l : List α), L[j]? = some l → i < m → L.flatten[j * m + i]? = l[i]? := by
  induction L with
  | nil => intro j i l hl; simp at hl
  | cons x r ih =>
    intro j i l hl hi
    have hx : x.length = m := h x (List.mem_cons_self ..)
    cases j with
    | zero =>
      simp at hl
      subst hl
      rw [List.flatten_cons, Nat.zero_mul, Nat.zero_add, List.getElem?_append_left (by omega)]
    | succ j =>
      have hl' : r[j]? = some l := by simpa using hl
      rw [List.flatten_cons, List.getElem?_append_right (by rw [hx, Nat.succ_mul]; omega), hx]
      have : (j + 1) * m + i - m = j * m + i := by rw [Nat.succ_mul]; omega
      rw [this]
      exact ih (fun y hy => h y (List.mem_cons_of_mem _ hy)) j i l hl' hi
theorem zip_at {α β γ : Type} [Inhabited α] [Inhabited β] (f : α → β → γ) (l : List α) (m : List β) (hl : m.length = l.length) (j : Nat) (hj : j < l.length) : (List.zipWith f l m)[j]? = some (f (l.getD j default) (m.getD j default)) := by
  have hj2 : j < m.length := by omega
  simp [List.getElem?_zipWith, List.getD, hj, hj2]
theorem St.isProg {w : World} {B pb : Nat} {P : ProgD} {v1 v2 v3 : Value} {ps qs : List Value} (h : St w B pb P v1 v2 v3 ps qs) : IsProg w v1 v2 v3 P := by
  refine ⟨isStrs_of_owns h.o1, ?_, ?_⟩
  · rcases h.o2.2 with ⟨hv, h0⟩ | ⟨g, cap, cur, hv, _, _, hcap, _⟩
    · exact ⟨none, 0, by rw [hv, h0], by omega, fun j hj => absurd hj (by omega)⟩
    · refine ⟨_, cap, hv, hcap, fun j hj => ⟨g, 0, rfl, ps.getD j default, ?_, ?_, isCap_of_owns (h.i2 j hj), ?_⟩⟩
      all_goals
        have hz := zip_at funCells P.funs ps h.l2 j hj
        have hlen : ∀ l ∈ List.zipWith funCells P.funs ps, l.length = 3 := fun l hl => by
          obtain ⟨i, hi, rfl⟩ := List.mem_iff_getElem.1 hl
          simp [funCells]
      · have := h.o2.cells (show v2.ownBlock = some g by rw [hv]; rfl) (j * 3 + 0) _ (by rw [flatten_at _ 3 hlen j 0 _ hz (by decide)]; rfl)
        rw [Addr.add_lit] at this
        simpa [strV, intV] using this
      · have := h.o2.cells (show v2.ownBlock = some g by rw [hv]; rfl) (j * 3 + 1) _ (by rw [flatten_at _ 3 hlen j 1 _ hz (by decide)]; rfl)
        rw [Addr.add_lit] at this
        simpa [strV, intV] using this
      · have := h.o2.cells (show v2.ownBlock = some g by rw [hv]; rfl) (j * 3 + 2) _ (by rw [flatten_at _ 3 hlen j 2 _ hz (by decide)]; rfl)
        rw [Addr.add_lit] at this
        simpa [strV, intV] using this
  · rcases h.o3.2 with ⟨hv, h0⟩ | ⟨g, cap, cur, hv, _, _, hcap, _⟩
    · exact ⟨none, 0, by rw [hv, h0], by omega, fun j hj => absurd hj (by omega)⟩
    · refine ⟨_, cap, hv, hcap, fun j hj => ⟨g, 0, rfl, qs.getD j default, ?_, ?_, ?_, ?_, isCap_of_owns (h.i3 j hj)⟩⟩
      all_goals
        have hz := zip_at stmtCells P.stmts qs h.l3 j hj
        have hlen : ∀ l ∈ List.zipWith stmtCells P.stmts qs, l.length = 4 := fun l hl => by
          obtain ⟨i, hi, rfl⟩ := List.mem_iff_getElem.1 hl
          simp [stmtCells]
      · have := h.o3.cells (show v3.ownBlock = some g by rw [hv]; rfl) (j * 4 + 0) _ (by rw [flatten_at _ 4 hlen j 0 _ hz (by decide)]; rfl)
        rw [Addr.add_lit] at this
        simpa [strV, intV] using this
      · have := h.o3.cells (show v3.ownBlock = some g by rw [hv]; rfl) (j * 4 + 1) _ (by rw [flatten_at _ 4 hlen j 1 _ hz (by decide)]; rfl)
        rw [Addr.add_lit] at this
        simpa [strV, intV] using this
      · have := h.o3.cells (show v3.ownBlock = some g by rw [hv]; rfl) (j * 4 + 2) _ (by rw [flatten_at _ 4 hlen j 2 _ hz (by decide)]; rfl)
        rw [Addr.add_lit] at this
        simpa [strV, intV] using this
      · have := h.o3.cells (show v3.ownBlock = some g by rw [hv]; rfl) (j * 4 + 3) _ (by rw [flatten_at _ 4 hlen j 3 _ hz (by decide)]; rfl)
        rw [Addr.add_lit] at this
        simpa [strV, intV] using this

theorem step_append_run {P : Program} {ops : Array Oper} {o : Oper} {a : Act} {w : World} {K : Act → World → Prop} {Q : Exit → Act → World → Prop} {E : Prop} (hg : o.guard = none) (s x : Operand) (t tn : TypeId)
    (ho : o.op = .call { callee := .builtin .append, args := #[s, x], argTypes := #[t, tn] }) (vs vx : Value) (hs : a.eval s = vs) (hx : a.eval x = vx)
    (v' : Value) (w' : World) (hr : (Builtin.append_ #[t, tn] o.type #[vs, vx]).run P w = .ok v' w') (h : K (a.put o.dst v') w') : if Region.wanted o (yielded ops a.tmps) = true then Oper.wp P o a w K Q else E := by
  have hw : Region.wanted o (yielded ops a.tmps) = true := by simp [Region.wanted, hg]
  rw [if_pos hw]
  exact Lib.wp_append_run w s x t tn ho vs vx hs hx v' w' hr h
theorem step_calls {P : Program} {ops : Array Oper} {o : Oper} {a : Act} {w : World} {K : Act → World → Prop} {Q : Exit → Act → World → Prop} {E : Prop} (hg : o.guard = none) (f : FuncId) (args : Array Value)
    (hex : (execOp a.eval o).run P w = .ok (.enter f args) w) (R : Ending → World → Prop) (hc : Calls P f args w R) (h : ∀ e w', R e w' → ∃ v, e = .returned v ∧ K (a.put o.dst v) w') : if Region.wanted o (yielded ops a.tmps) = true then Oper.wp P o a w K Q else E := by
  have hw : Region.wanted o (yielded ops a.tmps) = true := by simp [Region.wanted, hg]
  rw [if_pos hw]
  unfold Oper.wp
  rw [hex, Oper.upon_enter]
  refine hc.mono fun e w' hr => ?_
  obtain ⟨v, rfl, hk⟩ := h e w' hr
  exact hk
end Go.Proofs.YthnnheneofnkmaaGreatDoor

/-
  Rows of one's own, and a program in memory of its own: what appends and stores do to them.
-/
import Derived.Test.YtglonlpfnllocaaGreatDoorPIM
import Derived.Lib.OwnBridge
import Derived.Lib.AppendZeros
import Derived.Lib.RowBridge
import Derived.Sort.Grow
import Derived.Deep.RegionLaw
namespace Go.Proofs.YtglonlpfnllocaaGreatDoor
open Go.RowKit Go.Extern.Stop Go.Stop Go.Extern

theorem owns_below {w w' : World} {B : Nat} {e : TypeId} {k : Nat} {v : Value} {n : Nat} {xs : List Value} (h : w.ownsRow B e k v n xs) (hb : Below w.heap.size w w') : w'.ownsRow B e k v n xs := by
  refine ⟨h.1, ?_⟩
  rcases h.2 with h2 | ⟨g, cap, cur, hv, hg, hh, r⟩
  · exact Or.inl h2
  · have hl : g < w.heap.size := (Array.getElem?_eq_some_iff.1 hh).1
    exact Or.inr ⟨g, cap, cur, hv, hg, by rw [hb.block g hl]; exact hh, r⟩
theorem below_of_grown {B : Nat} {w w' : World} {v : Value} {e : TypeId} {k : Nat} (hg : w.grownBy w' v.ownBlock) (hB : B ≤ w.heap.size) {base n : Nat} {xs : List Value} (ho : w.ownsRow base e k v n xs) (hb : B ≤ base) : Below B w w' :=
  (Below.refl B w).grown hg hB (fun k hk => by
    rcases ho.2 with ⟨rfl, _⟩ | ⟨g, cap, cur, rfl, hbg, _⟩
    · cases hk
    · have : g = k := by simpa [Value.ownBlock] using hk
      omega)
theorem info_parts {t : TypeId} {z : Option Value} {a b : Nat} (h : (Tryz.prog.info? t).map (fun i => (i.zero, i.size, i.bytes)) = some (z, a, b)) : ∃ i, Tryz.prog.info? t = some i ∧ i.zero = z ∧ i.size = a ∧ i.bytes = b := by
  obtain ⟨i, hi, e⟩ := Option.map_eq_some_iff.1 h
  cases e
  exact ⟨i, hi, rfl, rfl, rfl⟩
def strV (l : Bs) : Value := .string (S l)
theorem isStrs_of_owns {w : World} {base n : Nat} {v : Value} {ss : List Bs} (h : w.ownsRow base 9 1 v n (ss.map strV)) : IsStrs w v ss := by
  have hn : n = ss.length := by have := h.1; simp at this; omega
  rcases h.2 with ⟨rfl, h0⟩ | ⟨g, cap, cur, rfl, _, _, hcap, _⟩
  · have : ss = [] := List.eq_nil_of_length_eq_zero (by omega)
    subst this
    exact ⟨none, 0, rfl, Nat.le_refl _, fun j hj => absurd hj (Nat.not_lt_zero _)⟩
  · subst hn
    refine ⟨_, cap, rfl, hcap, fun j hj => ⟨g, 0, rfl, ?_⟩⟩
    have := h.cells (g := g) rfl j (strV (ss.getD j [])) (by simp [List.getD, hj])
    rw [Addr.add_lit] at this
    exact this
/-- One text more behind a row of one's own. -/
theorem append_str (wr : World) (B : Nat) (u : Value) (ss : List Bs) (hu : wr.ownsRow B 9 1 u ss.length (ss.map strV)) (hB : B ≤ wr.heap.size) (hbd : ss.length ≤ 1000000) (s : Bs) (ty : TypeId) :
    ∃ v' w', (Builtin.append_ #[22, 22] ty #[u, .slice (some ⟨wr.heap.size, 0, none⟩) 1 1]).run Tryz.prog (wr.alloc (.cells #[.string (S s)] 9)) = .ok v' w' ∧
      w'.ownsRow B 9 1 v' (ss ++ [s]).length ((ss ++ [s]).map strV) ∧ Below B wr w' := by
  obtain ⟨i0, hi, hz0, hz1, hz2⟩ := info_parts Tryz.infoString
  have hu2 := hu.alloc (.cells #[.string (S s)] 9)
  have hsz : B ≤ (wr.alloc (.cells #[.string (S s)] 9)).heap.size := by simp; omega
  obtain ⟨v', w', h1, h2, h3, _⟩ := run_append_own (P := Tryz.prog) (wr.alloc (.cells #[.string (S s)] 9)) B 22 ty 9 i0 (.string ⟨#[]⟩) 1 16 Tryz.underlying22 hi hz0 hz1 hz2 rfl (by decide) u ss.length (ss.map strV) hu2 ⟨wr.heap.size, 0, none⟩ 1 1 [strV s] (by simp)
    (fun j x hj => by
      match j, hj with
      | 0, hj =>
        simp at hj; subst hj
        have : (⟨wr.heap.size, 0, none⟩ : Addr).add 0 = ⟨wr.heap.size, 0, none⟩ := by simp [Addr.add]
        rw [this]; simp [strV])
    (fun x hx => by rw [List.mem_singleton.1 hx]; rfl) (by unfold maxLen; omega) (by omega) hsz
  refine ⟨v', w', h1, by simpa using h2, ((Below.refl B wr).alloc hB _).trans (below_of_grown h3 hsz hu2 (Nat.le_refl _))⟩

theorem Tryz.infoInt : (Tryz.prog.info? 3).map (fun i => (i.zero, i.size, i.bytes)) = some (some (.int .i64 0), 1, 8) := by kernel_rfl
def intV (z : Int) : Value := .int .i64 z
theorem isCap_of_owns {w : World} {base n : Nat} {v : Value} {zs : List Int} (h : w.ownsRow base 3 1 v n (zs.map intV)) : IsCap w v zs := by
  have hn : n = zs.length := by have := h.1; simp at this; omega
  rcases h.2 with ⟨rfl, h0⟩ | ⟨g, cap, cur, rfl, _, _, hcap, _⟩
  · have : zs = [] := List.eq_nil_of_length_eq_zero (by omega)
    subst this
    exact ⟨IsInts.nil _ _ _, none, 0, rfl, Nat.le_refl _⟩
  · subst hn
    refine ⟨isInts_of_cells rfl fun j hj => ?_, _, cap, rfl, hcap⟩
    have := h.cells (g := g) rfl j (intV (zs.getD j 0)) (by simp [List.getD, hj])
    rw [Addr.add_lit] at this
    exact this
theorem append_int (wr : World) (B : Nat) (u : Value) (ss : List Int) (hu : wr.ownsRow B 3 1 u ss.length (ss.map intV)) (hB : B ≤ wr.heap.size) (hbd : ss.length ≤ 1000000) (s : Int) (ty : TypeId) :
    ∃ v' w', (Builtin.append_ #[40, 40] ty #[u, .slice (some ⟨wr.heap.size, 0, none⟩) 1 1]).run Tryz.prog (wr.alloc (.cells #[.int .i64 s] 3)) = .ok v' w' ∧
      w'.ownsRow B 3 1 v' (ss ++ [s]).length ((ss ++ [s]).map intV) ∧ Below B wr w' := by
  obtain ⟨i0, hi, hz0, hz1, hz2⟩ := info_parts Tryz.infoInt
  have hu2 := hu.alloc (.cells #[.int .i64 s] 3)
  have hsz : B ≤ (wr.alloc (.cells #[.int .i64 s] 3)).heap.size := by simp; omega
  obtain ⟨v', w', h1, h2, h3, _⟩ := run_append_own (P := Tryz.prog) (wr.alloc (.cells #[.int .i64 s] 3)) B 40 ty 3 i0 (.int .i64 0) 1 8 Tryz.underlying40 hi hz0 hz1 hz2 rfl (by decide) u ss.length (ss.map intV) hu2 ⟨wr.heap.size, 0, none⟩ 1 1 [intV s] (by simp)
    (fun j x hj => by
      match j, hj with
      | 0, hj =>
        simp at hj; subst hj
        have : (⟨wr.heap.size, 0, none⟩ : Addr).add 0 = ⟨wr.heap.size, 0, none⟩ := by simp [Addr.add]
        rw [this]; simp [intV])
    (fun x hx => by rw [List.mem_singleton.1 hx]; rfl) (by unfold maxLen; omega) (by omega) hsz
  refine ⟨v', w', h1, by simpa using h2, ((Below.refl B wr).alloc hB _).trans (below_of_grown h3 hsz hu2 (Nat.le_refl _))⟩

theorem heap_new (w : World) (o : Obj) : (w.alloc o).heap[w.heap.size]? = some o := by
  show (w.heap.push o)[w.heap.size]? = some o
  simp
theorem IsStrs.setCell {w : World} {v : Value} {ss : List Bs} (h : IsStrs w v ss) (a : Addr) (x : Value) (hne : v.ownBlock ≠ some a.block) : IsStrs (w.setCell a x) v ss := by
  obtain ⟨va, c, rfl, hcp, hc⟩ := h
  refine ⟨va, c, rfl, hcp, fun j hj => ?_⟩
  obtain ⟨b, o, rfl, e⟩ := hc j hj
  refine ⟨b, o, rfl, ?_⟩
  have hb : b ≠ a.block := fun q => hne (by rw [← q]; rfl)
  have : (w.setCell a x).heap[b]? = w.heap[b]? := by
    simp only [World.setCell, Array.getElem?_modify]
    rw [if_neg (fun q => hb q.symm)]
  simp only [World.cell?] at e ⊢
  rw [this]; exact e
theorem frozen_of_block {w : World} {b : Nat} {cs : Array Value} {T : TypeId} (h : w.heap[b]? = some (.cells cs T (0, 0))) (j : Nat) : w.frozen? ⟨b, j, none⟩ = false := Lib.frozen_of_heap h j
theorem block_keep {w w' : World} {b : Nat} {o : Obj} (hb : Below w.heap.size w w') (h : w.heap[b]? = some o) : w'.heap[b]? = some o := by
  rw [hb.block b (Array.getElem?_eq_some_iff.1 h).1]; exact h

/-- All blocks but those of one type are as they were. -/
def Kept (T : TypeId) (w w' : World) : Prop := ∀ (k : Nat) (c : Array Value) (t : TypeId) (fr : Nat × Nat), w.heap[k]? = some (.cells c t fr) → t ≠ T → w'.heap[k]? = some (.cells c t fr)
theorem owns_kept {w w' : World} {T : TypeId} {B : Nat} {e : TypeId} {k : Nat} {v : Value} {n : Nat} {xs : List Value} (h : w.ownsRow B e k v n xs) (hk : Kept T w w') (hne : e ≠ T) : w'.ownsRow B e k v n xs := by
  refine ⟨h.1, ?_⟩
  rcases h.2 with h2 | ⟨g, cap, cur, hv, hg, hh, r⟩
  · exact Or.inl h2
  · exact Or.inr ⟨g, cap, cur, hv, hg, hk g cur e (0, 0) hh hne, r⟩
theorem kept_below {w w' : World} (T : TypeId) (hb : Below w.heap.size w w') : Kept T w w' := fun _ _ _ _ h _ => block_keep hb h
theorem Kept.trans {w w1 w2 : World} {T : TypeId} (h1 : Kept T w w1) (h2 : Kept T w1 w2) : Kept T w w2 := fun k c t fr h hne => h2 k c t fr (h1 k c t fr h hne) hne
theorem kept_setCell {w : World} {T : TypeId} {b i : Nat} {cs : Array Value} {fr : Nat × Nat} (hb : w.heap[b]? = some (.cells cs T fr)) (x : Value) : Kept T w (w.setCell ⟨b, i, none⟩ x) := fun k c t fr' h hne => by
  have hkb : k ≠ b := fun q => by
    rw [q, hb] at h
    cases h
    exact hne rfl
  simp only [World.setCell, Array.getElem?_modify]
  rw [if_neg (fun q => hkb q.symm)]
  exact h

/-- One element more behind a row of one's own, of whatever type. -/
theorem append_one (wr : World) (B : Nat) (u : Value) (n k by_ : Nat) (t e : TypeId) (z : Value) (xs news : List Value) (hu : wr.ownsRow B e k u n xs) (hB : B ≤ wr.heap.size)
    (ht : Tryz.prog.underlying t = some (.slice e)) (hi : (Tryz.prog.info? e).map (fun i => (i.zero, i.size, i.bytes)) = some (some z, k, by_)) (hk2 : by_ ≤ 1000) (hzc : z.cells.size = k)
    (hn : news.length = k) (hone : ∀ x ∈ news, x.oneCell' = true) (hbd : n ≤ 1000000) (ty : TypeId) (hpos : 0 < k) :
    ∃ v' w', (Builtin.append_ #[t, t] ty #[u, .slice (some ⟨wr.heap.size, 0, none⟩) 1 1]).run Tryz.prog (wr.alloc (.cells news.toArray e)) = .ok v' w' ∧
      w'.ownsRow B e k v' (n + 1) (xs ++ news) ∧ Below B wr w' ∧ Kept e wr w' := by
  obtain ⟨i0, hi', hz0, hz1, hz2⟩ := info_parts hi
  have hu2 := hu.alloc (.cells news.toArray e)
  have hsz : B ≤ (wr.alloc (.cells news.toArray e)).heap.size := by simp; omega
  have hmul : (n + 1) * by_ ≤ 1000001 * 1000 := Nat.mul_le_mul (by omega) hk2
  obtain ⟨v', w', h1, h2, h3, _⟩ := run_append_own (P := Tryz.prog) (wr.alloc (.cells news.toArray e)) B t ty e i0 z k by_ ht hi' hz0 hz1 hz2 hzc hpos u n xs hu2 ⟨wr.heap.size, 0, none⟩ 1 1 news (by omega)
    (fun j x hj => by
      rw [Addr.add_lit, Nat.zero_add, World.cell?_alloc_at _ _ _ _ (by simp)]
      simpa using hj) hone (by unfold maxLen; omega) (by omega) hsz
  refine ⟨v', w', h1, h2, ((Below.refl B wr).alloc hB _).trans (below_of_grown h3 hsz hu2 (Nat.le_refl _)), fun j c t' fr hj hne => ?_⟩
  have hjl : j < wr.heap.size := (Array.getElem?_eq_some_iff.1 hj).1
  have hj2 : (wr.alloc (.cells news.toArray e)).heap[j]? = some (.cells c t' fr) := block_keep (below1 wr _) hj
  have hno : u.ownBlock ≠ some j := fun q => by
    rcases hu2.2 with ⟨rfl, _⟩ | ⟨g, cap, cur, rfl, _, hh, _⟩
    · cases q
    · have : g = j := by simpa [Value.ownBlock] using q
      subst this
      rw [hj2] at hh
      cases hh
      exact hne rfl
  rw [h3.block j (by simp; omega) (fun q => hno q.symm)]
  exact hj2

def funCells (f : FunD) (pv : Value) : List Value := [strV f.name, pv, intV f.ret]
def stmtCells (s : StmtD) (pv : Value) : List Value := [strV s.kind, intV s.x, intV s.y, pv]
/-- The program behind Read's pointer, in memory of its own. -/
structure St (w : World) (B pb : Nat) (P : ProgD) (v1 v2 v3 : Value) (ps qs : List Value) : Prop where
  low : B ≤ pb
  blk : w.heap[pb]? = some (.cells #[v1, v2, v3] 26 (0, 0))
  o1 : w.ownsRow B 9 1 v1 P.vars.length (P.vars.map strV)
  l2 : ps.length = P.funs.length
  o2 : w.ownsRow B 60 3 v2 P.funs.length (List.zipWith funCells P.funs ps).flatten
  i2 : ∀ j, j < P.funs.length → w.ownsRow B 3 1 (ps.getD j default) (P.funs.getD j default).params.length ((P.funs.getD j default).params.map intV)
  l3 : qs.length = P.stmts.length
  o3 : w.ownsRow B 45 4 v3 P.stmts.length (List.zipWith stmtCells P.stmts qs).flatten
  i3 : ∀ j, j < P.stmts.length → w.ownsRow B 3 1 (qs.getD j default) (P.stmts.getD j default).args.length ((P.stmts.getD j default).args.map intV)
theorem St.below {w w' : World} {B pb : Nat} {P : ProgD} {v1 v2 v3 : Value} {ps qs : List Value} (h : St w B pb P v1 v2 v3 ps qs) (hb : Below w.heap.size w w') : St w' B pb P v1 v2 v3 ps qs :=
  ⟨h.low, block_keep hb h.blk, owns_below h.o1 hb, h.l2, owns_below h.o2 hb, fun j hj => owns_below (h.i2 j hj) hb, h.l3, owns_below h.o3 hb, fun j hj => owns_below (h.i3 j hj) hb⟩
theorem flatten_at {α : Type} (L : List (List α)) (m : Nat) (h : ∀ l ∈ L, l.length = m) : ∀ (j i : Nat) (l : List α), L[j]? = some l → i < m → L.flatten[j * m + i]? = l[i]? := by
  induction L with
  | nil => intro j i l hl; simp at hl
  | cons x r ih =>
    intro j i l hl hi
    have hx : x.length = m := h x (List.mem_cons_self ..)
    cases j with
    | zero =>
      simp at hl
      subst hl
      rw [List.flatten_cons, Nat.zero_mul, Nat.zero_add, List.getElem?_append_left (by omega)]
    | succ j =>
      have hl' : r[j]? = some l := by simpa using hl
      rw [List.flatten_cons, List.getElem?_append_right (by rw [hx, Nat.succ_mul]; omega), hx]
      have : (j + 1) * m + i - m = j * m + i := by rw [Nat.succ_mul]; omega
      rw [this]
      exact ih (fun y hy => h y (List.mem_cons_of_mem _ hy)) j i l hl' hi
theorem zip_at {α β γ : Type} [Inhabited α] [Inhabited β] (f : α → β → γ) (l : List α) (m : List β) (hl : m.length = l.length) (j : Nat) (hj : j < l.length) : (List.zipWith f l m)[j]? = some (f (l.getD j default) (m.getD j default)) := by
  have hj2 : j < m.length := by omega
  simp [List.getElem?_zipWith, List.getD, hj, hj2]
theorem St.isProg {w : World} {B pb : Nat} {P : ProgD} {v1 v2 v3 : Value} {ps qs : List Value} (h : St w B pb P v1 v2 v3 ps qs) : IsProg w v1 v2 v3 P := by
  refine ⟨isStrs_of_owns h.o1, ?_, ?_⟩
  · rcases h.o2.2 with ⟨hv, h0⟩ | ⟨g, cap, cur, hv, _, _, hcap, _⟩
    · exact ⟨none, 0, by rw [hv, h0], by omega, fun j hj => absurd hj (by omega)⟩
    · refine ⟨_, cap, hv, hcap, fun j hj => ⟨g, 0, rfl, ps.getD j default, ?_, ?_, isCap_of_owns (h.i2 j hj), ?_⟩⟩
      all_goals
        have hz := zip_at funCells P.funs ps h.l2 j hj
        have hlen : ∀ l ∈ List.zipWith funCells P.funs ps, l.length = 3 := fun l hl => by
          obtain ⟨i, hi, rfl⟩ := List.mem_iff_getElem.1 hl
          simp [funCells]
      · have := h.o2.cells (show v2.ownBlock = some g by rw [hv]; rfl) (j * 3 + 0) _ (by rw [flatten_at _ 3 hlen j 0 _ hz (by decide)]; rfl)
        rw [Addr.add_lit] at this
        simpa [strV, intV] using this
      · have := h.o2.cells (show v2.ownBlock = some g by rw [hv]; rfl) (j * 3 + 1) _ (by rw [flatten_at _ 3 hlen j 1 _ hz (by decide)]; rfl)
        rw [Addr.add_lit] at this
        simpa [strV, intV] using this
      · have := h.o2.cells (show v2.ownBlock = some g by rw [hv]; rfl) (j * 3 + 2) _ (by rw [flatten_at _ 3 hlen j 2 _ hz (by decide)]; rfl)
        rw [Addr.add_lit] at this
        simpa [strV, intV] using this
  · rcases h.o3.2 with ⟨hv, h0⟩ | ⟨g, cap, cur, hv, _, _, hcap, _⟩
    · exact ⟨none, 0, by rw [hv, h0], by omega, fun j hj => absurd hj (by omega)⟩
    · refine ⟨_, cap, hv, hcap, fun j hj => ⟨g, 0, rfl, qs.getD j default, ?_, ?_, ?_, ?_, isCap_of_owns (h.i3 j hj)⟩⟩
      all_goals
        have hz := zip_at stmtCells P.stmts qs h.l3 j hj
        have hlen : ∀ l ∈ List.zipWith stmtCells P.stmts qs, l.length = 4 := fun l hl => by
          obtain ⟨i, hi, rfl⟩ := List.mem_iff_getElem.1 hl
          simp [stmtCells]
      · have := h.o3.cells (show v3.ownBlock = some g by rw [hv]; rfl) (j * 4 + 0) _ (by rw [flatten_at _ 4 hlen j 0 _ hz (by decide)]; rfl)
        rw [Addr.add_lit] at this
        simpa [strV, intV] using this
      · have := h.o3.cells (show v3.ownBlock = some g by rw [hv]; rfl) (j * 4 + 1) _ (by rw [flatten_at _ 4 hlen j 1 _ hz (by decide)]; rfl)
        rw [Addr.add_lit] at this
        simpa [strV, intV] using this
      · have := h.o3.cells (show v3.ownBlock = some g by rw [hv]; rfl) (j * 4 + 2) _ (by rw [flatten_at _ 4 hlen j 2 _ hz (by decide)]; rfl)
        rw [Addr.add_lit] at this
        simpa [strV, intV] using this
      · have := h.o3.cells (show v3.ownBlock = some g by rw [hv]; rfl) (j * 4 + 3) _ (by rw [flatten_at _ 4 hlen j 3 _ hz (by decide)]; rfl)
        rw [Addr.add_lit] at this
        simpa [strV, intV] using this

theorem step_append_run {P : Program} {ops : Array Oper} {o : Oper} {a : Act} {w : World} {K : Act → World → Prop} {Q : Exit → Act → World → Prop} {E : Prop} (hg : o.guard = none) (s x : Operand) (t tn : TypeId)
    (ho : o.op = .call { callee := .builtin .append, args := #[s, x], argTypes := #[t, tn] }) (vs vx : Value) (hs : a.eval s = vs) (hx : a.eval x = vx)
    (v' : Value) (w' : World) (hr : (Builtin.append_ #[t, tn] o.type #[vs, vx]).run P w = .ok v' w') (h : K (a.put o.dst v') w') : if Region.wanted o (yielded ops a.tmps) = true then Oper.wp P o a w K Q else E := by
  have hw : Region.wanted o (yielded ops a.tmps) = true := by simp [Region.wanted, hg]
  rw [if_pos hw]
  exact Lib.wp_append_run w s x t tn ho vs vx hs hx v' w' hr h
theorem step_calls {P : Program} {ops : Array Oper} {o : Oper} {a : Act} {w : World} {K : Act → World → Prop} {Q : Exit → Act → World → Prop} {E : Prop} (hg : o.guard = none) (f : FuncId) (args : Array Value)
    (hex : (execOp a.eval o).run P w = .ok (.enter f args) w) (R : Ending → World → Prop) (hc : Calls P f args w R) (h : ∀ e w', R e w' → ∃ v, e = .returned v ∧ K (a.put o.dst v) w') : if Region.wanted o (yielded ops a.tmps) = true then Oper.wp P o a w K Q else E := by
  have hw : Region.wanted o (yielded ops a.tmps) = true := by simp [Region.wanted, hg]
  rw [if_pos hw]
  unfold Oper.wp
  rw [hex, Oper.upon_enter]
  refine hc.mono fun e w' hr => ?_
  obtain ⟨v, rfl, hk⟩ := h e w' hr
  exact hk
theorem St.size {w : World} {B pb : Nat} {P : ProgD} {v1 v2 v3 : Value} {ps qs : List Value} (h : St w B pb P v1 v2 v3 ps qs) : B ≤ w.heap.size := Nat.le_trans h.low (Nat.le_of_lt (Array.getElem?_eq_some_iff.1 h.blk).1)
theorem St.cells {w : World} {B pb : Nat} {P : ProgD} {v1 v2 v3 : Value} {ps qs : List Value} (h : St w B pb P v1 v2 v3 ps qs) : w.cell? ⟨pb, 0, none⟩ = some v1 ∧ w.cell? ⟨pb, 1, none⟩ = some v2 ∧ w.cell? ⟨pb, 2, none⟩ = some v3 := by
  refine ⟨?_, ?_, ?_⟩
  · rw [Lib.cell_of_heap h.blk]; rfl
  · rw [Lib.cell_of_heap h.blk]; rfl
  · rw [Lib.cell_of_heap h.blk]; rfl
theorem St.frz {w : World} {B pb : Nat} {P : ProgD} {v1 v2 v3 : Value} {ps qs : List Value} (h : St w B pb P v1 v2 v3 ps qs) (i : Nat) : w.frozen? ⟨pb, i, none⟩ = false := Lib.frozen_of_heap h.blk i
theorem set_block (w : World) (pb i : Nat) (cs : Array Value) (T : TypeId) (fr : Nat × Nat) (h : w.heap[pb]? = some (.cells cs T fr)) (x : Value) : (w.setCell ⟨pb, i, none⟩ x).heap[pb]? = some (.cells (cs.setIfInBounds i x) T fr) := by
  simp [World.setCell, Array.getElem?_modify, h]

/-- A variable more. -/
theorem St.addVar {w : World} {B pb : Nat} {P : ProgD} {v1 v2 v3 : Value} {ps qs : List Value} (h : St w B pb P v1 v2 v3 ps qs) (hl : P.vars.length ≤ 1000000) (s : Bs) :
    ∃ v' w', (Builtin.append_ #[22, 22] 22 #[v1, .slice (some ⟨w.heap.size, 0, none⟩) 1 1]).run Tryz.prog (w.alloc (.cells #[.string (S s)] 9)) = .ok v' w' ∧
      w'.cell? ⟨pb, 0, none⟩ = some v1 ∧ w'.frozen? ⟨pb, 0, none⟩ = false ∧ (∃ a n c, v' = .slice a n c) ∧ St (w'.setCell ⟨pb, 0, none⟩ v') B pb { P with vars := P.vars ++ [s] } v' v2 v3 ps qs ∧ Below B w (w'.setCell ⟨pb, 0, none⟩ v') := by
  obtain ⟨v', w', h1, h2, h3, h4⟩ := append_one w B v1 P.vars.length 1 16 22 9 (.string ⟨#[]⟩) (P.vars.map strV) [strV s] h.o1 h.size Tryz.underlying22 Tryz.infoString (by decide) rfl rfl (fun x hx => by rw [List.mem_singleton.1 hx]; rfl) hl 22 (by decide)
  have hblk : w'.heap[pb]? = some (.cells #[v1, v2, v3] 26 (0, 0)) := h4 _ _ _ _ h.blk (by decide)
  have hset := kept_setCell (i := 0) hblk v'
  refine ⟨v', w', h1, by rw [Lib.cell_of_heap hblk]; rfl, Lib.frozen_of_heap hblk 0, ?_, ?_, (h3.setCell h.low _)⟩
  · rcases h2.2 with ⟨e, _⟩ | ⟨g, cap, cur, e, _⟩
    · exact ⟨_, _, _, e⟩
    · exact ⟨_, _, _, e⟩
  · refine ⟨h.low, by rw [set_block _ _ _ _ _ _ hblk]; rfl, ?_, h.l2, owns_kept (owns_kept h.o2 h4 (by decide)) hset (by decide), fun j hj => owns_kept (owns_kept (h.i2 j hj) h4 (by decide)) hset (by decide), h.l3, owns_kept (owns_kept h.o3 h4 (by decide)) hset (by decide), fun j hj => owns_kept (owns_kept (h.i3 j hj) h4 (by decide)) hset (by decide)⟩
    have := owns_kept h2 hset (by decide)
    simpa using this
theorem owns_form {w : World} {B : Nat} {e : TypeId} {k n : Nat} {v : Value} {xs : List Value} (h : w.ownsRow B e k v n xs) : ∃ a c, v = .slice a n c := by
  rcases h.2 with ⟨rfl, rfl⟩ | ⟨g, cap, cur, rfl, _⟩
  · exact ⟨_, _, rfl⟩
  · exact ⟨_, _, rfl⟩

theorem Tryz.infoFun : (Tryz.prog.info? 60).map (fun i => (i.zero, i.size, i.bytes)) = some (some (.agg #[.string ⟨#[]⟩, .slice none 0 0, .int .i64 0]), 3, 48) := by kernel_rfl
theorem Tryz.infoStmt : (Tryz.prog.info? 45).map (fun i => (i.zero, i.size, i.bytes)) = some (some (.agg #[.string ⟨#[]⟩, .int .i64 0, .int .i64 0, .slice none 0 0]), 4, 56) := by kernel_rfl
theorem zip_snoc {α β γ : Type} (f : α → β → List γ) (l : List α) (m : List β) (hl : m.length = l.length) (x : α) (y : β) : (List.zipWith f (l ++ [x]) (m ++ [y])).flatten = (List.zipWith f l m).flatten ++ f x y := by
  rw [List.zipWith_append hl.symm]
  simp
theorem getD_snoc_left {α : Type} (l : List α) (x d : α) (j : Nat) (h : j < l.length) : (l ++ [x]).getD j d = l.getD j d := by
  simp [List.getD, List.getElem?_append_left h]
theorem getD_snoc_last {α : Type} (l : List α) (x d : α) (j : Nat) (h : j = l.length) : (l ++ [x]).getD j d = x := by
  subst h; simp [List.getD]

theorem St.addFun {w : World} {B pb : Nat} {P : ProgD} {v1 v2 v3 : Value} {ps qs : List Value} (h : St w B pb P v1 v2 v3 ps qs) (hl : P.funs.length ≤ 1000000) (f : FunD) (pv : Value) (hp : w.ownsRow B 3 1 pv f.params.length (f.params.map intV)) :
    ∃ v' w', (Builtin.append_ #[23, 23] 23 #[v2, .slice (some ⟨w.heap.size, 0, none⟩) 1 1]).run Tryz.prog (w.alloc (.cells #[.string (S f.name), pv, .int .i64 f.ret] 60)) = .ok v' w' ∧
      w'.cell? ⟨pb, 1, none⟩ = some v2 ∧ w'.frozen? ⟨pb, 1, none⟩ = false ∧ (∃ a n c, v' = .slice a n c) ∧ St (w'.setCell ⟨pb, 1, none⟩ v') B pb { P with funs := P.funs ++ [f] } v1 v' v3 (ps ++ [pv]) qs ∧ Below B w (w'.setCell ⟨pb, 1, none⟩ v') := by
  obtain ⟨v', w', h1, h2, h3, h4⟩ := append_one w B v2 P.funs.length 3 48 23 60 _ _ (funCells f pv) h.o2 h.size Tryz.underlying23 Tryz.infoFun (by decide) rfl rfl (fun x hx => by
    obtain ⟨_, _, rfl⟩ := owns_form hp
    rcases List.mem_cons.1 hx with rfl | hx
    · rfl
    rcases List.mem_cons.1 hx with rfl | hx
    · rfl
    · rw [List.mem_singleton.1 hx]; rfl) hl 23 (by decide)
  have hblk : w'.heap[pb]? = some (.cells #[v1, v2, v3] 26 (0, 0)) := h4 _ _ _ _ h.blk (by decide)
  have hset := kept_setCell (i := 1) hblk v'
  refine ⟨v', w', h1, by rw [Lib.cell_of_heap hblk]; rfl, Lib.frozen_of_heap hblk 1, ?_, ?_, (h3.setCell h.low _)⟩
  · obtain ⟨_, _, e⟩ := owns_form h2
    exact ⟨_, _, _, e⟩
  · refine ⟨h.low, by rw [set_block _ _ _ _ _ _ hblk]; rfl, owns_kept (owns_kept h.o1 h4 (by decide)) hset (by decide), by simp [h.l2], ?_, ?_, h.l3, owns_kept (owns_kept h.o3 h4 (by decide)) hset (by decide), fun j hj => owns_kept (owns_kept (h.i3 j hj) h4 (by decide)) hset (by decide)⟩
    · have := owns_kept h2 hset (by decide)
      rw [← zip_snoc funCells P.funs ps h.l2 f pv] at this
      simpa using this
    · intro j hj
      have hj' : j < P.funs.length + 1 := by simpa using hj
      by_cases e : j < P.funs.length
      · show World.ownsRow _ B 3 1 ((ps ++ [pv]).getD j default) ((P.funs ++ [f]).getD j default).params.length (((P.funs ++ [f]).getD j default).params.map intV)
        rw [getD_snoc_left ps pv default j (by rw [h.l2]; exact e), getD_snoc_left P.funs f default j e]
        exact owns_kept (owns_kept (h.i2 j e) h4 (by decide)) hset (by decide)
      · show World.ownsRow _ B 3 1 ((ps ++ [pv]).getD j default) ((P.funs ++ [f]).getD j default).params.length (((P.funs ++ [f]).getD j default).params.map intV)
        rw [getD_snoc_last ps pv default j (by rw [h.l2]; omega), getD_snoc_last P.funs f default j (by omega)]
        exact owns_kept (owns_kept hp h4 (by decide)) hset (by decide)

theorem St.addStmt {w : World} {B pb : Nat} {P : ProgD} {v1 v2 v3 : Value} {ps qs : List Value} (h : St w B pb P v1 v2 v3 ps qs) (hl : P.stmts.length ≤ 1000000) (f : StmtD) (pv : Value) (hp : w.ownsRow B 3 1 pv f.args.length (f.args.map intV)) :
    ∃ v' w', (Builtin.append_ #[24, 24] 24 #[v3, .slice (some ⟨w.heap.size, 0, none⟩) 1 1]).run Tryz.prog (w.alloc (.cells #[.string (S f.kind), .int .i64 f.x, .int .i64 f.y, pv] 45)) = .ok v' w' ∧
      w'.cell? ⟨pb, 2, none⟩ = some v3 ∧ w'.frozen? ⟨pb, 2, none⟩ = false ∧ (∃ a n c, v' = .slice a n c) ∧ St (w'.setCell ⟨pb, 2, none⟩ v') B pb { P with stmts := P.stmts ++ [f] } v1 v2 v' ps (qs ++ [pv]) ∧ Below B w (w'.setCell ⟨pb, 2, none⟩ v') := by
  obtain ⟨v', w', h1, h2, h3, h4⟩ := append_one w B v3 P.stmts.length 4 56 24 45 _ _ (stmtCells f pv) h.o3 h.size Tryz.underlying24 Tryz.infoStmt (by decide) rfl rfl (fun x hx => by
    obtain ⟨_, _, rfl⟩ := owns_form hp
    rcases List.mem_cons.1 hx with rfl | hx
    · rfl
    rcases List.mem_cons.1 hx with rfl | hx
    · rfl
    rcases List.mem_cons.1 hx with rfl | hx
    · rfl
    · rw [List.mem_singleton.1 hx]; rfl) hl 24 (by decide)
  have hblk : w'.heap[pb]? = some (.cells #[v1, v2, v3] 26 (0, 0)) := h4 _ _ _ _ h.blk (by decide)
  have hset := kept_setCell (i := 2) hblk v'
  refine ⟨v', w', h1, by rw [Lib.cell_of_heap hblk]; rfl, Lib.frozen_of_heap hblk 2, ?_, ?_, (h3.setCell h.low _)⟩
  · obtain ⟨_, _, e⟩ := owns_form h2
    exact ⟨_, _, _, e⟩
  · refine ⟨h.low, by rw [set_block _ _ _ _ _ _ hblk]; rfl, owns_kept (owns_kept h.o1 h4 (by decide)) hset (by decide), h.l2, owns_kept (owns_kept h.o2 h4 (by decide)) hset (by decide), fun j hj => owns_kept (owns_kept (h.i2 j hj) h4 (by decide)) hset (by decide), by simp [h.l3], ?_, ?_⟩
    · have := owns_kept h2 hset (by decide)
      rw [← zip_snoc stmtCells P.stmts qs h.l3 f pv] at this
      simpa using this
    · intro j hj
      have hj' : j < P.stmts.length + 1 := by simpa using hj
      by_cases e : j < P.stmts.length
      · show World.ownsRow _ B 3 1 ((qs ++ [pv]).getD j default) ((P.stmts ++ [f]).getD j default).args.length (((P.stmts ++ [f]).getD j default).args.map intV)
        rw [getD_snoc_left qs pv default j (by rw [h.l3]; exact e), getD_snoc_left P.stmts f default j e]
        exact owns_kept (owns_kept (h.i3 j e) h4 (by decide)) hset (by decide)
      · show World.ownsRow _ B 3 1 ((qs ++ [pv]).getD j default) ((P.stmts ++ [f]).getD j default).args.length (((P.stmts ++ [f]).getD j default).args.map intV)
        rw [getD_snoc_last qs pv default j (by rw [h.l3]; omega), getD_snoc_last P.stmts f default j (by omega)]
        exact owns_kept (owns_kept hp h4 (by decide)) hset (by decide)
theorem owns_mono {w : World} {B B' : Nat} {e : TypeId} {k : Nat} {v : Value} {n : Nat} {xs : List Value} (h : w.ownsRow B e k v n xs) (hb : B' ≤ B) : w.ownsRow B' e k v n xs := by
  refine ⟨h.1, ?_⟩
  rcases h.2 with h2 | ⟨g, cap, cur, hv, hg, r⟩
  · exact Or.inl h2
  · exact Or.inr ⟨g, cap, cur, hv, by omega, r⟩

theorem st_new (w : World) (B : Nat) (hB : B ≤ w.heap.size) : St (w.alloc (.cells #[.slice none 0 0, .slice none 0 0, .slice none 0 0] 26)) B w.heap.size noProg (.slice none 0 0) (.slice none 0 0) (.slice none 0 0) [] [] :=
  ⟨hB, heap_new w _, World.ownsRow_nil _ _ _ _, rfl, World.ownsRow_nil _ _ _ _, fun _ hj => absurd hj (Nat.not_lt_zero _), rfl, World.ownsRow_nil _ _ _ _, fun _ hj => absurd hj (Nat.not_lt_zero _)⟩

theorem other_cell {w : World} {b c i j : Nat} {x v : Value} (h : w.cell? ⟨b, j, none⟩ = some v) (hne : b ≠ c) : (w.setCell ⟨c, i, none⟩ x).cell? ⟨b, j, none⟩ = some v := by
  have : (w.setCell ⟨c, i, none⟩ x).heap[b]? = w.heap[b]? := by
    simp only [World.setCell, Array.getElem?_modify]
    rw [if_neg (fun q => hne q.symm)]
  simp only [World.cell?] at h ⊢
  rw [this]; exact h
theorem new_cell (W : World) (n i : Nat) (cs : Array Value) (T : TypeId) (v : Value) (h : W.heap.size = n) (hv : cs[i]? = some v) : (W.alloc (.cells cs T)).cell? ⟨n, i, none⟩ = some v := by
  subst h
  rw [Lib.cell_of_heap (heap_new W _)]; exact hv
theorem res_cells {w : World} {r : Nat} {a b c : Value} {T : TypeId} (h : w.heap[r]? = some (.cells #[a, b, c] T (0, 0))) (x0 x1 x2 : Value) :
    (((w.setCell ⟨r, 0, none⟩ x0).setCell ⟨r, 1, none⟩ x1).setCell ⟨r, 2, none⟩ x2).cell? ⟨r, 0, none⟩ = some x0 ∧ (((w.setCell ⟨r, 0, none⟩ x0).setCell ⟨r, 1, none⟩ x1).setCell ⟨r, 2, none⟩ x2).cell? ⟨r, 1, none⟩ = some x1 ∧ (((w.setCell ⟨r, 0, none⟩ x0).setCell ⟨r, 1, none⟩ x1).setCell ⟨r, 2, none⟩ x2).cell? ⟨r, 2, none⟩ = some x2 := by
  have s3 := set_block _ r 2 _ _ _ (set_block _ r 1 _ _ _ (set_block _ r 0 _ _ _ h x0) x1) x2
  refine ⟨?_, ?_, ?_⟩
  · rw [Lib.cell_of_heap s3]; rfl
  · rw [Lib.cell_of_heap s3]; rfl
  · rw [Lib.cell_of_heap s3]; rfl
theorem St.set1 {w : World} {B pb : Nat} {P : ProgD} {v1 v2 v3 : Value} {ps qs : List Value} (h : St w B pb P v1 v2 v3 ps qs) {r : Nat} {cs : Array Value} (hr : w.heap[r]? = some (.cells cs 26 (0, 0))) (hne : pb ≠ r) (i : Nat) (x : Value) : St (w.setCell ⟨r, i, none⟩ x) B pb P v1 v2 v3 ps qs := by
  have hk := kept_setCell (i := i) hr x
  have hb : (w.setCell ⟨r, i, none⟩ x).heap[pb]? = w.heap[pb]? := by
    simp only [World.setCell, Array.getElem?_modify]
    rw [if_neg (fun q => hne q.symm)]
  exact ⟨h.low, by rw [hb]; exact h.blk, owns_kept h.o1 hk (by decide), h.l2, owns_kept h.o2 hk (by decide), fun j hj => owns_kept (h.i2 j hj) hk (by decide), h.l3, owns_kept h.o3 hk (by decide), fun j hj => owns_kept (h.i3 j hj) hk (by decide)⟩
theorem St.set3 {w : World} {B pb : Nat} {P : ProgD} {v1 v2 v3 : Value} {ps qs : List Value} (h : St w B pb P v1 v2 v3 ps qs) {r : Nat} {cs : Array Value} (hr : w.heap[r]? = some (.cells cs 26 (0, 0))) (hne : pb ≠ r) (x0 x1 x2 : Value) : St (((w.setCell ⟨r, 0, none⟩ x0).setCell ⟨r, 1, none⟩ x1).setCell ⟨r, 2, none⟩ x2) B pb P v1 v2 v3 ps qs :=
  ((h.set1 hr hne 0 x0).set1 (set_block _ _ _ _ _ _ hr x0) hne 1 x1).set1 (set_block _ _ _ _ _ _ (set_block _ _ _ _ _ _ hr x0) x1) hne 2 x2

end Go.Proofs.YtglonlpfnllocaaGreatDoor

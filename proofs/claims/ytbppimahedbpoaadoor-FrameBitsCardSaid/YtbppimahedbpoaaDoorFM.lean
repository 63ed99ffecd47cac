/-
  Memory of one's own, for a seat without programs: rows, blocks, what is kept.
-/
import Derived.Test.YtbppimahedbpoaaDoorBase
import Derived.Lib.Strings
import Derived.Lib.SlicesS
import Derived.Lib.OwnBridge
import Derived.Lib.RowBridge
import Derived.Lib.AppendZeros
import Derived.Sort.Grow
import Derived.Deep.RegionLaw
import Derived.Deep.AppendLies
import Derived.Deep.OwnRows
import Derived.Deep.RegionHeld3
import Derived.Deep.Cut
import Derived.Maps.AppendAt
namespace Go.Proofs.YtbppimahedbpoaaDoor
open Go.RowKit Go.Extern.Stop Go.Stop Go.Extern Go.Sort

abbrev Bs := List UInt8
def S (l : Bs) : ByteArray := ⟨l.toArray⟩
theorem S_data (l : Bs) : (S l).data.toList = l := by simp [S]
theorem S_toList (l : Bs) : (S l).toList = l := by rw [ByteArray.toList_eq]; exact S_data l
theorem S_size (l : Bs) : (S l).size = l.length := by rw [Lib.size_eq, S_data]
theorem S_of (s : ByteArray) : S s.data.toList = s := Lib.mk_data s
theorem S_inj {a b : Bs} (h : S a = S b) : a = b := by rw [← S_data a, h, S_data]
theorem S_append (a b : Bs) : S a ++ S b = S (a ++ b) := by
  apply ByteArray.ext
  simp [S]

def IsCap (w : World) (v : Value) (zs : List Int) : Prop := IsInts w v zs ∧ ∃ a c, v = .slice a zs.length c ∧ zs.length ≤ c
theorem isInts_form {w : World} {v : Value} {zs : List Int} (h : IsInts w v zs) : ∃ a c, v = .slice a zs.length c := by
  rcases h with ⟨rfl, a, c, rfl⟩ | ⟨_, b, o, c, rfl, _⟩
  · exact ⟨a, c, rfl⟩
  · exact ⟨_, c, rfl⟩
theorem isInts_at {w : World} {a : Option Addr} {n c : Nat} {zs : List Int} (h : IsInts w (.slice a n c) zs) (j : Nat) (hj : j < zs.length) : ∃ b o, a = some ⟨b, o, none⟩ ∧ w.cell? ⟨b, o + j, none⟩ = some (.int .i64 (zs.getD j 0)) := by
  rcases h with ⟨rfl, a, c, hv⟩ | ⟨_, b, o, c, hv, hc⟩
  · exact absurd hj (Nat.not_lt_zero _)
  · exact ⟨b, o, (Value.slice.inj hv).1, hc j hj⟩

theorem owns_below {w w' : World} {B : Nat} {e : TypeId} {k : Nat} {v : Value} {n : Nat} {xs : List Value} (h : w.ownsRow B e k v n xs) (hb : Below w.heap.size w w') : w'.ownsRow B e k v n xs := by
  refine ⟨h.1, ?_⟩
  rcases h.2 with h2 | ⟨g, cap, cur, hv, hg, hh, r⟩
  · exact Or.inl h2
  · have hl : g < w.heap.size := (Array.getElem?_eq_some_iff.1 hh).1
    exact Or.inr ⟨g, cap, cur, hv, hg, by rw [hb.block g hl]; exact hh, r⟩
theorem below_of_grown {B : Nat} {w w' : World} {v : Value} {e : TypeId} {k : Nat} (hg : w.grownBy w' v.ownBlock) (hB : B ≤ w.heap.size) {base n : Nat} {xs : List Value} (ho : w.ownsRow base e k v n xs) (hb : B ≤ base) : Below B w w' :=
  (Below.refl B w).grown hg hB (fun k hk => by
    rcases ho.2 with ⟨rfl, _⟩ | ⟨g, cap, cur, rfl, hbg, _⟩
    · cases hk
    · have : g = k := by simpa [Value.ownBlock] using hk
      omega)
theorem info_parts {t : TypeId} {z : Option Value} {a b : Nat} (h : (Tryd.prog.info? t).map (fun i => (i.zero, i.size, i.bytes)) = some (z, a, b)) : ∃ i, Tryd.prog.info? t = some i ∧ i.zero = z ∧ i.size = a ∧ i.bytes = b := by
  obtain ⟨i, hi, e⟩ := Option.map_eq_some_iff.1 h
  cases e
  exact ⟨i, hi, rfl, rfl, rfl⟩
theorem Tryd.infoInt : (Tryd.prog.info? 3).map (fun i => (i.zero, i.size, i.bytes)) = some (some (.int .i64 0), 1, 8) := by kernel_rfl
def intV (z : Int) : Value := .int .i64 z
theorem isCap_of_owns {w : World} {base n : Nat} {v : Value} {zs : List Int} (h : w.ownsRow base 3 1 v n (zs.map intV)) : IsCap w v zs := by
  have hn : n = zs.length := by have := h.1; simp at this; omega
  rcases h.2 with ⟨rfl, h0⟩ | ⟨g, cap, cur, rfl, _, _, hcap, _⟩
  · have : zs = [] := List.eq_nil_of_length_eq_zero (by omega)
    subst this
    exact ⟨IsInts.nil _ _ _, none, 0, rfl, Nat.le_refl _⟩
  · subst hn
    refine ⟨isInts_of_cells rfl fun j hj => ?_, _, cap, rfl, hcap⟩
    have := h.cells (g := g) rfl j (intV (zs.getD j 0)) (by simp [List.getD, hj])
    rw [Addr.add_lit] at this
    exact this
theorem heap_new (w : World) (o : Obj) : (w.alloc o).heap[w.heap.size]? = some o := by
  show (w.heap.push o)[w.heap.size]? = some o
  simp
theorem frozen_of_block {w : World} {b : Nat} {cs : Array Value} {T : TypeId} (h : w.heap[b]? = some (.cells cs T (0, 0))) (j : Nat) : w.frozen? ⟨b, j, none⟩ = false := Lib.frozen_of_heap h j
theorem block_keep {w w' : World} {b : Nat} {o : Obj} (hb : Below w.heap.size w w') (h : w.heap[b]? = some o) : w'.heap[b]? = some o := by
  rw [hb.block b (Array.getElem?_eq_some_iff.1 h).1]; exact h

def Kept (T : TypeId) (w w' : World) : Prop := ∀ (k : Nat) (c : Array Value) (t : TypeId) (fr : Nat × Nat), w.heap[k]? = some (.cells c t fr) → t ≠ T → w'.heap[k]? = some (.cells c t fr)
theorem owns_kept {w w' : World} {T : TypeId} {B : Nat} {e : TypeId} {k : Nat} {v : Value} {n : Nat} {xs : List Value} (h : w.ownsRow B e k v n xs) (hk : Kept T w w') (hne : e ≠ T) : w'.ownsRow B e k v n xs := by
  refine ⟨h.1, ?_⟩
  rcases h.2 with h2 | ⟨g, cap, cur, hv, hg, hh, r⟩
  · exact Or.inl h2
  · exact Or.inr ⟨g, cap, cur, hv, hg, hk g cur e (0, 0) hh hne, r⟩
theorem kept_below {w w' : World} (T : TypeId) (hb : Below w.heap.size w w') : Kept T w w' := fun _ _ _ _ h _ => block_keep hb h
theorem Kept.trans {w w1 w2 : World} {T : TypeId} (h1 : Kept T w w1) (h2 : Kept T w1 w2) : Kept T w w2 := fun k c t fr h hne => h2 k c t fr (h1 k c t fr h hne) hne
theorem kept_setCell {w : World} {T : TypeId} {b i : Nat} {cs : Array Value} {fr : Nat × Nat} (hb : w.heap[b]? = some (.cells cs T fr)) (x : Value) : Kept T w (w.setCell ⟨b, i, none⟩ x) := fun k c t fr' h hne => by
  have hkb : k ≠ b := fun q => by
    rw [q, hb] at h
    cases h
    exact hne rfl
  simp only [World.setCell, Array.getElem?_modify]
  rw [if_neg (fun q => hkb q.symm)]
  exact h

theorem step_append_run {P : Program} {ops : Array Oper} {o : Oper} {a : Act} {w : World} {K : Act → World → Prop} {Q : Exit → Act → World → Prop} {E : Prop} (hg : o.guard = none) (s x : Operand) (t tn : TypeId)
    (ho : o.op = .call { callee := .builtin .append, args := #[s, x], argTypes := #[t, tn] }) (vs vx : Value) (hs : a.eval s = vs) (hx : a.eval x = vx)
    (v' : Value) (w' : World) (hr : (Builtin.append_ #[t, tn] o.type #[vs, vx]).run P w = .ok v' w') (h : K (a.put o.dst v') w') : if Region.wanted o (yielded ops a.tmps) = true then Oper.wp P o a w K Q else E := by
  have hw : Region.wanted o (yielded ops a.tmps) = true := by simp [Region.wanted, hg]
  rw [if_pos hw]
  exact Lib.wp_append_run w s x t tn ho vs vx hs hx v' w' hr h
theorem step_calls {P : Program} {ops : Array Oper} {o : Oper} {a : Act} {w : World} {K : Act → World → Prop} {Q : Exit → Act → World → Prop} {E : Prop} (hg : o.guard = none) (f : FuncId) (args : Array Value)
    (hex : (execOp a.eval o).run P w = .ok (.enter f args) w) (R : Ending → World → Prop) (hc : Calls P f args w R) (h : ∀ e w', R e w' → ∃ v, e = .returned v ∧ K (a.put o.dst v) w') : if Region.wanted o (yielded ops a.tmps) = true then Oper.wp P o a w K Q else E := by
  have hw : Region.wanted o (yielded ops a.tmps) = true := by simp [Region.wanted, hg]
  rw [if_pos hw]
  unfold Oper.wp
  rw [hex, Oper.upon_enter]
  refine hc.mono fun e w' hr => ?_
  obtain ⟨v, rfl, hk⟩ := h e w' hr
  exact hk
theorem set_block (w : World) (pb i : Nat) (cs : Array Value) (T : TypeId) (fr : Nat × Nat) (h : w.heap[pb]? = some (.cells cs T fr)) (x : Value) : (w.setCell ⟨pb, i, none⟩ x).heap[pb]? = some (.cells (cs.setIfInBounds i x) T fr) := by
  simp [World.setCell, Array.getElem?_modify, h]

theorem owns_form {w : World} {B : Nat} {e : TypeId} {k n : Nat} {v : Value} {xs : List Value} (h : w.ownsRow B e k v n xs) : ∃ a c, v = .slice a n c := by
  rcases h.2 with ⟨rfl, rfl⟩ | ⟨g, cap, cur, rfl, _⟩
  · exact ⟨_, _, rfl⟩
  · exact ⟨_, _, rfl⟩

theorem getD_snoc_left {α : Type} (l : List α) (x d : α) (j : Nat) (h : j < l.length) : (l ++ [x]).getD j d = l.getD j d := by
  simp [List.getD, List.getElem?_append_left h]
theorem getD_snoc_last {α : Type} (l : List α) (x d : α) (j : Nat) (h : j = l.length) : (l ++ [x]).getD j d = x := by
  subst h; simp [List.getD]

theorem owns_mono {w : World} {B B' : Nat} {e : TypeId} {k : Nat} {v : Value} {n : Nat} {xs : List Value} (h : w.ownsRow B e k v n xs) (hb : B' ≤ B) : w.ownsRow B' e k v n xs := by
  refine ⟨h.1, ?_⟩
  rcases h.2 with h2 | ⟨g, cap, cur, hv, hg, r⟩
  · exact Or.inl h2
  · exact Or.inr ⟨g, cap, cur, hv, by omega, r⟩

theorem other_cell {w : World} {b c i j : Nat} {x v : Value} (h : w.cell? ⟨b, j, none⟩ = some v) (hne : b ≠ c) : (w.setCell ⟨c, i, none⟩ x).cell? ⟨b, j, none⟩ = some v := by
  have : (w.setCell ⟨c, i, none⟩ x).heap[b]? = w.heap[b]? := by
    simp only [World.setCell, Array.getElem?_modify]
    rw [if_neg (fun q => hne q.symm)]
  simp only [World.cell?] at h ⊢
  rw [this]; exact h
theorem new_cell (W : World) (n i : Nat) (cs : Array Value) (T : TypeId) (v : Value) (h : W.heap.size = n) (hv : cs[i]? = some v) : (W.alloc (.cells cs T)).cell? ⟨n, i, none⟩ = some v := by
  subst h
  rw [Lib.cell_of_heap (heap_new W _)]; exact hv
theorem append_int (wr : World) (B : Nat) (u : Value) (ss : List Int) (hu : wr.ownsRow B 3 1 u ss.length (ss.map intV)) (hB : B ≤ wr.heap.size) (hbd : ss.length ≤ 1000000) (s : Int) (ty : TypeId) :
    ∃ v' w', (Builtin.append_ #[22, 22] ty #[u, .slice (some ⟨wr.heap.size, 0, none⟩) 1 1]).run Tryd.prog (wr.alloc (.cells #[.int .i64 s] 3)) = .ok v' w' ∧
      w'.ownsRow B 3 1 v' (ss ++ [s]).length ((ss ++ [s]).map intV) ∧ Below B wr w' := by
  obtain ⟨i0, hi, hz0, hz1, hz2⟩ := info_parts Tryd.infoInt
  have hu2 := hu.alloc (.cells #[.int .i64 s] 3)
  have hsz : B ≤ (wr.alloc (.cells #[.int .i64 s] 3)).heap.size := by simp; omega
  obtain ⟨v', w', h1, h2, h3, _⟩ := run_append_own (P := Tryd.prog) (wr.alloc (.cells #[.int .i64 s] 3)) B 22 ty 3 i0 (.int .i64 0) 1 8 Tryd.underlying22 hi hz0 hz1 hz2 rfl (by decide) u ss.length (ss.map intV) hu2 ⟨wr.heap.size, 0, none⟩ 1 1 [intV s] (by simp)
    (fun j x hj => by
      match j, hj with
      | 0, hj =>
        simp at hj; subst hj
        have : (⟨wr.heap.size, 0, none⟩ : Addr).add 0 = ⟨wr.heap.size, 0, none⟩ := by simp [Addr.add]
        rw [this]; simp [intV])
    (fun x hx => by rw [List.mem_singleton.1 hx]; rfl) (by unfold maxLen; omega) (by omega) hsz
  refine ⟨v', w', h1, by simpa using h2, ((Below.refl B wr).alloc hB _).trans (below_of_grown h3 hsz hu2 (Nat.le_refl _))⟩

def KeepBut (w w1 : World) (ob : Option Nat) : Prop := ∀ (b : Nat) (o : Obj), w.heap[b]? = some o → ob ≠ some b → w1.heap[b]? = some o
theorem KeepBut.of_below {w w1 : World} (h : Below w.heap.size w w1) (ob : Option Nat) : KeepBut w w1 ob := fun _ _ q _ => block_keep h q
theorem KeepBut.of_grown {w w1 : World} {ob : Option Nat} (h : w.grownBy w1 ob) : KeepBut w w1 ob := fun b o q hne => by
  have hlt : b < w.heap.size := (Array.getElem?_eq_some_iff.1 q).1
  rw [h.block b hlt (fun e => hne e.symm)]
  exact q
theorem KeepBut.trans {w w1 w2 : World} {ob : Option Nat} (h1 : KeepBut w w1 ob) (h2 : KeepBut w1 w2 ob) : KeepBut w w2 ob := fun b o q hne => h2 b o (h1 b o q hne) hne
theorem ownBlock_lt {w : World} {B : Nat} {e : TypeId} {k n : Nat} {v : Value} {xs : List Value} (h : w.ownsRow B e k v n xs) {g : Nat} (hg : v.ownBlock = some g) : g < w.heap.size ∧ ∃ cs, w.heap[g]? = some (.cells cs e (0, 0)) := by
  rcases h.2 with ⟨rfl, _⟩ | ⟨g', cap, cur, rfl, _, hh, _⟩
  · cases hg
  · have : g' = g := by simpa [Value.ownBlock] using hg
    subst this
    exact ⟨(Array.getElem?_eq_some_iff.1 hh).1, cur, hh⟩
theorem owns_keepBut {w w1 : World} {B : Nat} {e : TypeId} {k n : Nat} {v : Value} {xs : List Value} {ob : Option Nat} (h : w.ownsRow B e k v n xs) (hk : KeepBut w w1 ob) (hne : v.ownBlock = none ∨ v.ownBlock ≠ ob) : w1.ownsRow B e k v n xs := by
  refine ⟨h.1, ?_⟩
  rcases h.2 with q | ⟨g, cap, cur, rfl, hb, hh, hr⟩
  · exact Or.inl q
  · refine Or.inr ⟨g, cap, cur, rfl, hb, hk g _ hh (fun e => ?_), hr⟩
    rcases hne with q | q
    · cases q
    · exact q e.symm
theorem append_at1 (wr : World) (B : Nat) (u : Value) (n k by_ : Nat) (t e : TypeId) (z : Value) (xs news : List Value) (hu : wr.ownsRow B e k u n xs) (hB : B ≤ wr.heap.size)
    (ht : Tryd.prog.underlying t = some (.slice e)) (hi : (Tryd.prog.info? e).map (fun i => (i.zero, i.size, i.bytes)) = some (some z, k, by_)) (hk2 : by_ ≤ 1000) (hzc : z.cells.size = k)
    (hn : news.length = k) (hone : ∀ x ∈ news, x.oneCell' = true) (hbd : n ≤ 1000000) (ty : TypeId) (hpos : 0 < k) :
    ∃ v' w', (Builtin.append_ #[t, t] ty #[u, .slice (some ⟨wr.heap.size, 0, none⟩) 1 1]).run Tryd.prog (wr.alloc (.cells news.toArray e)) = .ok v' w' ∧
      w'.ownsRow B e k v' (n + 1) (xs ++ news) ∧ Below B wr w' ∧ KeepBut wr w' u.ownBlock ∧ (v'.ownBlock = u.ownBlock ∨ ∀ g', v'.ownBlock = some g' → wr.heap.size ≤ g') := by
  obtain ⟨i0, hi', hz0, hz1, hz2⟩ := info_parts hi
  have hu2 := hu.alloc (.cells news.toArray e)
  have hsz : B ≤ (wr.alloc (.cells news.toArray e)).heap.size := by simp; omega
  have hmul : (n + 1) * by_ ≤ 1000001 * 1000 := Nat.mul_le_mul (by omega) hk2
  obtain ⟨v', w', h1, h2, h3, _, h5⟩ := run_append_own_at (P := Tryd.prog) (w := wr.alloc (.cells news.toArray e)) B t ty e i0 z k by_ ht hi' hz0 hz1 hz2 hzc hpos u n xs hu2 ⟨wr.heap.size, 0, none⟩ 1 1 news (by omega)
    (fun j x hj => by
      rw [Addr.add_lit, Nat.zero_add, World.cell?_alloc_at _ _ _ _ (by simp)]
      simpa using hj) hone (by unfold maxLen; omega) (by omega) hsz
  refine ⟨v', w', h1, h2, ((Below.refl B wr).alloc hB _).trans (below_of_grown h3 hsz hu2 (Nat.le_refl _)), (KeepBut.of_below ((Below.refl _ wr).alloc (Nat.le_refl _) _) _).trans (KeepBut.of_grown h3), ?_⟩
  rcases h5 with q | q
  · exact Or.inl q
  · refine Or.inr fun g' hg => ?_
    rw [q] at hg
    injection hg with hg
    have : (wr.alloc (.cells news.toArray e)).heap.size = wr.heap.size + 1 := by simp
    omega
theorem below_alV {w0 w : World} (h : Below w0.heap.size w0 w) (o : Obj) : Below w0.heap.size w0 (w.alloc o) := h.alloc h.size o
/-- Where the six errors of package api that frames may have lie. -/
structure Errs6 (w : World) (a : Nat → Addr) : Prop where
  c0 : w.cell? ⟨4, 0, none⟩ = some (.iface 106 (.pointer (some (a 0))))
  c1 : w.cell? ⟨1, 0, none⟩ = some (.iface 106 (.pointer (some (a 1))))
  c2 : w.cell? ⟨2, 0, none⟩ = some (.iface 106 (.pointer (some (a 2))))
  c3 : w.cell? ⟨0, 0, none⟩ = some (.iface 106 (.pointer (some (a 3))))
  c7 : w.cell? ⟨3, 0, none⟩ = some (.iface 106 (.pointer (some (a 7))))
  c10 : w.cell? ⟨5, 0, none⟩ = some (.iface 106 (.pointer (some (a 10))))
theorem Errs6.below {w w' : World} {a : Nat → Addr} (h : Errs6 w a) (hb : Below w.heap.size w w') : Errs6 w' a := ⟨cell_keep hb h.c0, cell_keep hb h.c1, cell_keep hb h.c2, cell_keep hb h.c3, cell_keep hb h.c7, cell_keep hb h.c10⟩
theorem Errs.six {w : World} {a : Nat → Addr} (h : Errs w a) : Errs6 w a := ⟨h.c0, h.c1, h.c2, h.c3, h.c7, h.c10⟩
end Go.Proofs.YtbppimahedbpoaaDoor

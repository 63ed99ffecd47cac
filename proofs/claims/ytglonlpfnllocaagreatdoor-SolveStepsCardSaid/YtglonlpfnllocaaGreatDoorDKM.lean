/-
  A row of rows of numbers, all of one's own and apart.
-/
import Derived.Test.YtglonlpfnllocaaGreatDoorPMemM
import Derived.Test.YtglonlpfnllocaaGreatDoorXCM
import Derived.Test.YtglonlpfnllocaaGreatDoorCM0M
import Derived.Test.YtglonlpfnllocaaGreatDoorXTM
import Derived.Deep.AppendLies
namespace Go.Proofs.YtglonlpfnllocaaGreatDoor
open Go.RowKit Go.Extern.Stop Go.Stop Go.Extern

/-- All blocks are kept, but one. -/
def KeepBut (w w1 : World) (ob : Option Nat) : Prop := ∀ (b : Nat) (o : Obj), w.heap[b]? = some o → ob ≠ some b → w1.heap[b]? = some o
theorem KeepBut.of_below {w w1 : World} (h : Below w.heap.size w w1) (ob : Option Nat) : KeepBut w w1 ob := fun _ _ q _ => block_keep h q
theorem KeepBut.of_grown {w w1 : World} {ob : Option Nat} (h : w.grownBy w1 ob) : KeepBut w w1 ob := fun b o q hne => by
  have hlt : b < w.heap.size := (Array.getElem?_eq_some_iff.1 q).1
  rw [h.block b hlt (fun e => hne e.symm)]
  exact q
theorem KeepBut.trans {w w1 w2 : World} {ob : Option Nat} (h1 : KeepBut w w1 ob) (h2 : KeepBut w1 w2 ob) : KeepBut w w2 ob := fun b o q hne => h2 b o (h1 b o q hne) hne
theorem ownBlock_lt {w : World} {B : Nat} {e : TypeId} {k n : Nat} {v : Value} {xs : List Value} (h : w.ownsRow B e k v n xs) {g : Nat} (hg : v.ownBlock = some g) : g < w.heap.size ∧ ∃ cs, w.heap[g]? = some (.cells cs e (0, 0)) := by
  rcases h.2 with ⟨rfl, _⟩ | ⟨g', cap, cur, rfl, _, hh, _⟩
  · cases hg
  · have : g' = g := by simpa [Value.ownBlock] using hg
    subst this
    exact ⟨(Array.getElem?_eq_some_iff.1 hh).1, cur, hh⟩
theorem owns_keepBut {w w1 : World} {B : Nat} {e : TypeId} {k n : Nat} {v : Value} {xs : List Value} {ob : Option Nat} (h : w.ownsRow B e k v n xs) (hk : KeepBut w w1 ob) (hne : v.ownBlock = none ∨ v.ownBlock ≠ ob) : w1.ownsRow B e k v n xs := by
  refine ⟨h.1, ?_⟩
  rcases h.2 with q | ⟨g, cap, cur, rfl, hb, hh, hr⟩
  · exact Or.inl q
  · refine Or.inr ⟨g, cap, cur, rfl, hb, hk g _ hh (fun e => ?_), hr⟩
    rcases hne with q | q
    · cases q
    · exact q e.symm
/-- Two rows that do not lie in one place. -/
def ApartR (u o : Value) : Prop := o.ownBlock = none ∨ o.ownBlock ≠ u.ownBlock
theorem ApartR.symm {u o : Value} (h : ApartR u o) : ApartR o u := by
  rcases h with h | h
  · cases hu : u.ownBlock with
    | none => exact Or.inl hu
    | some k => right; rw [h, hu]; exact fun e => by cases e
  · exact Or.inr fun e => h e.symm
structure Rows2 (w : World) (B g : Nat) (zss : List (List Int)) (us : List Value) : Prop where
  low : B ≤ g
  lu : us.length = zss.length
  blk : w.heap[g]? = some (.cells us.toArray TSI (0, 0))
  own : ∀ j, j < zss.length → w.ownsRow B 3 1 (us.getD j .nilIface) (zss.getD j []).length ((zss.getD j []).map intV)
  apart : ∀ i j, i < zss.length → j < zss.length → i ≠ j → ApartR (us.getD i .nilIface) (us.getD j .nilIface)
theorem Rows2.below {w w' : World} {B g : Nat} {zss : List (List Int)} {us : List Value} (h : Rows2 w B g zss us) (hb : Below w.heap.size w w') : Rows2 w' B g zss us :=
  ⟨h.low, h.lu, block_keep hb h.blk, fun j hj => owns_below (h.own j hj) hb, h.apart⟩
theorem Rows2.lt {w : World} {B g : Nat} {zss : List (List Int)} {us : List Value} (h : Rows2 w B g zss us) : g < w.heap.size := (Array.getElem?_eq_some_iff.1 h.blk).1
theorem Rows2.cell {w : World} {B g : Nat} {zss : List (List Int)} {us : List Value} (h : Rows2 w B g zss us) (j : Nat) (hj : j < zss.length) : w.cell? ⟨g, j, none⟩ = some (us.getD j .nilIface) := by
  rw [Lib.cell_of_heap h.blk]
  have : j < us.length := by rw [h.lu]; exact hj
  simp [List.getD, this]
theorem Rows2.form {w : World} {B g : Nat} {zss : List (List Int)} {us : List Value} (h : Rows2 w B g zss us) (j : Nat) (hj : j < zss.length) : ∃ a c, us.getD j .nilIface = .slice a (zss.getD j []).length c := owns_form (h.own j hj)
theorem Rows2.frz {w : World} {B g : Nat} {zss : List (List Int)} {us : List Value} (h : Rows2 w B g zss us) (j : Nat) : w.frozen? ⟨g, j, none⟩ = false := Lib.frozen_of_heap h.blk j
/-- No row lies where the row of rows lies. -/
theorem Rows2.ne {w : World} {B g : Nat} {zss : List (List Int)} {us : List Value} (h : Rows2 w B g zss us) (j : Nat) (hj : j < zss.length) : (us.getD j .nilIface).ownBlock ≠ some g := fun q => by
  obtain ⟨_, cs, hh⟩ := ownBlock_lt (h.own j hj) q
  rw [h.blk] at hh
  injection hh with hh
  injection hh with _ h3 _
  exact absurd h3 (by decide)
theorem Rows2.isSets {w : World} {B g : Nat} {zss : List (List Int)} {us : List Value} (h : Rows2 w B g zss us) (c : Nat) : IsSets w (.slice (some ⟨g, 0, none⟩) zss.length c) zss :=
  ⟨_, c, rfl, fun j hj => ⟨g, 0, us.getD j .nilIface, rfl, by rw [Nat.zero_add]; exact h.cell j hj, (isCap_of_owns (by
    obtain ⟨a, c', e⟩ := h.form j hj
    have := h.own j hj
    rw [e] at this ⊢
    exact this)).1⟩⟩
/-- One row is turned into another one. -/
theorem Rows2.put {w w1 : World} {B g : Nat} {zss : List (List Int)} {us : List Value} (h : Rows2 w B g zss us) (k : Nat) (hk : k < zss.length) (v' : Value) (zs : List Int) (hkeep : KeepBut w w1 (us.getD k .nilIface).ownBlock)
    (hv : w1.ownsRow B 3 1 v' zs.length (zs.map intV)) (hob : v'.ownBlock = (us.getD k .nilIface).ownBlock ∨ ∀ g', v'.ownBlock = some g' → w.heap.size ≤ g') : Rows2 (w1.setCell ⟨g, k, none⟩ v') B g (zss.set k zs) (us.set k v') := by
  have hb1 : w1.heap[g]? = some (.cells us.toArray TSI (0, 0)) := hkeep g _ h.blk (h.ne k hk)
  have hku : k < us.length := by rw [h.lu]; exact hk
  have hset := kept_setCell (i := k) hb1 v'
  refine ⟨h.low, by rw [List.length_set, List.length_set]; exact h.lu, ?_, fun j hj => ?_, fun i j hi hj hij => ?_⟩
  · rw [set_block _ _ _ _ _ _ hb1]
    simp
  · rw [List.length_set] at hj
    by_cases e : j = k
    · subst e
      rw [show (zss.set j zs).getD j [] = zs by simp [List.getD, hk], show (us.set j v').getD j .nilIface = v' by simp [List.getD, hku]]
      exact owns_kept hv hset (by decide)
    · rw [getD_set_otherE _ _ _ _ _ (fun q => e q.symm), getD_set_otherE _ _ _ _ _ (fun q => e q.symm)]
      exact owns_kept (owns_keepBut (h.own j hj) hkeep (h.apart k j hk hj (fun q => e q.symm))) hset (by decide)
  · rw [List.length_set] at hi hj
    have key : ∀ j, j < zss.length → j ≠ k → ApartR v' (us.getD j .nilIface) := fun j hj hne => by
      rcases hob with q | q
      · have := h.apart k j hk hj (fun e => hne e.symm)
        unfold ApartR at this ⊢
        rw [q]; exact this
      · cases e1 : (us.getD j .nilIface).ownBlock with
        | none => exact Or.inl e1
        | some b =>
          right
          intro e2
          have h1 := q b (by rw [← e2, e1])
          have h2 := (ownBlock_lt (h.own j hj) e1).1
          omega
    by_cases e1 : i = k
    · subst e1
      rw [show (us.set i v').getD i .nilIface = v' by simp [List.getD, hku], getD_set_otherE _ _ _ _ _ hij]
      exact key j hj (fun q => hij q.symm)
    · by_cases e2 : j = k
      · subst e2
        rw [show (us.set j v').getD j .nilIface = v' by simp [List.getD, hku], getD_set_otherE _ _ _ _ _ (fun q => hij q.symm)]
        exact (key i hi hij).symm
      · rw [getD_set_otherE _ _ _ _ _ (fun q => e1 q.symm), getD_set_otherE _ _ _ _ _ (fun q => e2 q.symm)]
        exact h.apart i j hi hj hij
end Go.Proofs.YtglonlpfnllocaaGreatDoor

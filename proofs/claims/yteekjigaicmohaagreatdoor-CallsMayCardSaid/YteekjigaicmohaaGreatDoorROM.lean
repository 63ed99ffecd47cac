/-
  A state in memory, where Do's answer is stored.
-/
import Derived.Test.YteekjigaicmohaaGreatDoorRMM
namespace Go.Proofs.YteekjigaicmohaaGreatDoor
open Go.RowKit Go.Extern.Stop Go.Stop Go.Extern

theorem isCap_take {w : World} {sa : Option Addr} {m sc : Nat} {zs : List Int} (h : IsCap w (.slice sa m sc) zs) (k : Nat) (hk : k ≤ zs.length) : IsCap w (.slice sa k sc) (zs.take k) := by
  obtain ⟨hi, a, c, e, hc⟩ := h
  cases e
  have hl : (zs.take k).length = k := by simp; omega
  refine ⟨?_, sa, sc, by rw [hl], by rw [hl]; omega⟩
  rcases hi with ⟨rfl, a, c, e⟩ | ⟨hne, b, o, c, e, hq⟩
  · have : k = 0 := by simpa using hk
    subst this
    exact Or.inl ⟨by simp, _, _, rfl⟩
  · cases e
    by_cases hk0 : k = 0
    · subst hk0
      exact Or.inl ⟨by simp, _, _, rfl⟩
    · refine Or.inr ⟨fun q => hk0 (by rw [← hl, q]; rfl), b, o, _, by rw [hl], fun j hj => ?_⟩
      rw [hl] at hj
      have : (zs.take k).getD j 0 = zs.getD j 0 := by simp only [List.getD]; rw [List.getElem?_take_of_lt hj]
      rw [this]
      exact hq j (by omega)
abbrev zSt : Obj := .cells #[.slice none 0 0, .slice none 0 0, .slice none 0 0] 75
theorem box3_over {w : World} {r : Nat} (h : w.heap[r]? = some zSt) (x0 x1 x2 : Value) : Box3 (((w.setCell ⟨r, 0, none⟩ x0).setCell ⟨r, 1, none⟩ x1).setCell ⟨r, 2, none⟩ x2) r x0 x1 x2 := by
  obtain ⟨q0, q1, q2⟩ := res_cells h x0 x1 x2
  exact ⟨q0, q1, q2⟩
theorem over_post {w : World} {B : Nat} {P : ProgD} {zs : List Int} {a1 : Option Addr} {m1 c1 : Nat} {a2 : Option Addr} {m2 c2 : Nat} {a3 : Option Addr} {m3 c3 : Nat} {ev : Value} (h : DoPost w B P zs a1 m1 c1 a2 m2 c2 a3 m3 c3 ev) {b : Nat} {x0 x1 x2 : Value} (hb : b < B) : DoPost (((w.setCell ⟨b, 0, none⟩ x0).setCell ⟨b, 1, none⟩ x1).setCell ⟨b, 2, none⟩ x2) B P zs a1 m1 c1 a2 m2 c2 a3 m3 c3 ev := ((h.set hb).set hb).set hb
theorem keep2 {w0 w : World} {p0 p1 : Addr} {v0 v1 : Value} (k0 : w0.cell? p0 = some v0) (k1 : w0.cell? p1 = some v1) (hb : Below w0.heap.size w0 w) : Below w0.heap.size w0 w ∧ w.cell? p0 = some v0 ∧ w.cell? p1 = some v1 := ⟨hb, cell_keep hb k0, cell_keep hb k1⟩
theorem lt_block {w : World} {b : Nat} {o : Obj} (h : w.heap[b]? = some o) : b < w.heap.size := (Array.getElem?_eq_some_iff.1 h).1
theorem isInts_owns {w : World} {B n : Nat} {v : Value} {zs : List Int} (h : w.ownsRow B 3 1 v n (zs.map intV)) : IsInts w v zs := (isCap_of_owns h).1
end Go.Proofs.YteekjigaicmohaaGreatDoor

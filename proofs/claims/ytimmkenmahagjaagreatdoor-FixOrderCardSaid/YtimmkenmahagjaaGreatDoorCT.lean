/-
  Package cons: rows of edges; slices.IndexFunc and slices.DeleteFunc at edges, by contracts.
-/
import Derived.Test.YtimmkenmahagjaaGreatDoorCA
import Derived.Test.YtimmkenmahagjaaGreatDoorPZ8
import Derived.Lib.SliceRun
namespace Go.Proofs.YtimmkenmahagjaaGreatDoor
open Go.RowKit Go.Extern.Stop Go.Stop Go.Extern

/-- A row of edges that may be written. -/
structure RowE (w : World) (g : Nat) (xs : List Pair) : Prop where
  pos : ∀ j, j < xs.length * 2 → w.cell? ⟨g, j, none⟩ = (ecells xs)[j]? ∧ w.frozen? ⟨g, j, none⟩ = false
theorem frozen_set (w : World) (p q : Addr) (x : Value) : (w.setCell p x).frozen? q = w.frozen? q := by
  unfold World.frozen? World.setCell
  simp only [Array.getElem?_modify]
  by_cases e : p.block = q.block
  · rw [if_pos e]
    cases w.heap[q.block]? with
    | none => rfl
    | some o => cases o <;> rfl
  · rw [if_neg e]
abbrev setE (w : World) (g i : Nat) (p : Pair) : World := (w.setCell ⟨g, i * 2, none⟩ (.int .i64 p.1)).setCell ⟨g, i * 2 + 1, none⟩ (.int .i64 p.2)
theorem RowE.lt {w : World} {g : Nat} {xs : List Pair} (h : RowE w g xs) (hx : 0 < xs.length) : g < w.heap.size := by
  have := (h.pos 0 (by omega)).1
  have h0 := (ecells_at xs 0 hx).1
  rw [Nat.zero_mul] at h0
  rw [h0] at this
  exact lt_of_cell this
theorem RowE.pair {w : World} {g : Nat} {xs : List Pair} (h : RowE w g xs) (j : Nat) (hj : j < xs.length) : w.cell? ⟨g, j * 2, none⟩ = some (.int .i64 (xs.getD j default).1) ∧ w.cell? ⟨g, j * 2 + 1, none⟩ = some (.int .i64 (xs.getD j default).2) ∧ w.frozen? ⟨g, j * 2, none⟩ = false ∧ w.frozen? ⟨g, j * 2 + 1, none⟩ = false := by
  obtain ⟨h1, h2⟩ := h.pos (j * 2) (by omega)
  obtain ⟨h3, h4⟩ := h.pos (j * 2 + 1) (by omega)
  obtain ⟨e1, e2⟩ := ecells_at xs j hj
  exact ⟨by rw [h1, e1], by rw [h3, e2], h2, h4⟩
theorem RowE.below {w w' : World} {g : Nat} {xs : List Pair} (h : RowE w g xs) (hb : Below w.heap.size w w') : RowE w' g xs := by
  refine ⟨fun j hj => ?_⟩
  obtain ⟨h1, h2⟩ := h.pos j hj
  have hl : j < (ecells xs).length := by rw [ecells_len]; exact hj
  rw [List.getElem?_eq_getElem hl] at h1 ⊢
  have hg := lt_of_cell h1
  refine ⟨cell_keep hb h1, ?_⟩
  rw [← h2]
  unfold World.frozen?
  rw [hb.block g hg]
theorem RowE.drewN {w : World} {g : Nat} {xs : List Pair} (h : RowE w g xs) (n : Nat) : RowE (w.drewN n) g xs := ⟨h.pos⟩
theorem RowE.set {w : World} {g : Nat} {xs : List Pair} (h : RowE w g xs) (i : Nat) (hi : i < xs.length) (p : Pair) : RowE (setE w g i p) g (xs.set i p) := by
  refine ⟨fun j hj => ?_⟩
  rw [List.length_set] at hj
  obtain ⟨h1, h2⟩ := h.pos j hj
  refine ⟨?_, by rw [frozen_set, frozen_set]; exact h2⟩
  rw [← ecells_set]
  obtain ⟨e1, e2⟩ := h.pair i hi
  by_cases q1 : j = i * 2 + 1
  · subst q1
    have hc : (w.setCell ⟨g, i * 2, none⟩ (.int .i64 p.1)).cell? ⟨g, i * 2 + 1, none⟩ = some (.int .i64 (xs.getD i default).2) := by
      rw [World.cell?_setCell_other _ _ _ _ (fun e => by injection e; omega)]; exact e2.1
    rw [World.cell?_setCell_same _ _ _ hc, List.getElem?_set_self (by rw [List.length_set, ecells_len]; exact hj)]
  · rw [World.cell?_setCell_other _ _ _ _ (fun e => by injection e; omega), List.getElem?_set_ne (by omega)]
    by_cases q2 : j = i * 2
    · subst q2
      rw [World.cell?_setCell_same _ _ _ e1, List.getElem?_set_self (by rw [ecells_len]; exact hj)]
    · rw [World.cell?_setCell_other _ _ _ _ (fun e => by injection e; omega), List.getElem?_set_ne (by omega)]
      exact h1
theorem ecells_append (xs ys : List Pair) : ecells (xs ++ ys) = ecells xs ++ ecells ys := by unfold ecells; simp
theorem RowE.take {w : World} {g : Nat} {xs : List Pair} (h : RowE w g xs) (k : Nat) : RowE w g (xs.take k) := by
  refine ⟨fun j hj => ?_⟩
  have hl : (xs.take k).length ≤ xs.length := by simp; omega
  obtain ⟨h1, h2⟩ := h.pos j (by omega)
  refine ⟨?_, h2⟩
  have : ecells xs = ecells (xs.take k) ++ ecells (xs.drop k) := by rw [← ecells_append, List.take_append_drop]
  rw [h1, this, List.getElem?_append_left (by rw [ecells_len]; exact hj)]
/-- Cells behind a row are written. -/
theorem RowE.setCells {w : World} {g : Nat} {xs : List Pair} (h : RowE w g xs) (vs : List Value) : ∀ o, xs.length * 2 ≤ o → RowE (w.setCells g o vs) g xs := by
  induction vs generalizing w with
  | nil => intro o _; exact h
  | cons v r ih =>
    intro o ho
    have h1 : RowE (w.setCell ⟨g, o, none⟩ v) g xs := ⟨fun j hj => by
      obtain ⟨h1, h2⟩ := h.pos j hj
      refine ⟨?_, by rw [frozen_set]; exact h2⟩
      rw [World.cell?_setCell_other _ _ _ _ (fun e => by injection e; omega)]
      exact h1⟩
    exact ih h1 (o + 1) (by omega)
theorem below_setCells {B : Nat} {w0 w : World} {g : Nat} (h : Below B w0 w) (hg : B ≤ g) (vs : List Value) : ∀ o, Below B w0 (w.setCells g o vs) := by
  induction vs generalizing w with
  | nil => intro o; exact h
  | cons v r ih => intro o; exact ih (h.setCell hg _) (o + 1)
theorem RowE.of_owns {w : World} {B : Nat} {u : Value} {es : List Pair} (h : w.ownsRow B TE 2 u es.length (ecells es)) (hn : 0 < es.length) : ∃ g cap, u = .slice (some ⟨g, 0, none⟩) es.length cap ∧ es.length ≤ cap ∧ B ≤ g ∧ RowE w g es := by
  rcases h.2 with ⟨q, e⟩ | ⟨g, cap, cur, hv, hg, hh, hcap, hmax, hsz, hcur⟩
  · omega
  · refine ⟨g, cap, hv, hcap, hg, ⟨fun j hj => ⟨?_, Lib.frozen_of_heap hh j⟩⟩⟩
    rw [Lib.cell_of_heap hh, ← hcur, List.getElem?_take_of_lt hj]
    simp

def selfB (p : Pair) : Bool := p.1 == p.2
theorem tidy1_any (p : Pair) (w : World) : Calls Tryz.prog 113 #[.agg #[.int .i64 p.1, .int .i64 p.2]] w fun e w' => e = .returned (.bool (selfB p)) ∧ Below w.heap.size w w' := by
  obtain ⟨D, hD⟩ : ∃ D, D = selfB p := ⟨_, rfl⟩
  have hd : (p.1 == p.2) = D := hD.symm
  rw [← hD]
  clear hD
  go_enter Tryz.func113, Tryz.ntmps113
  go_wp2_with fail
  go_ret
  exact ⟨by first | rfl | (rw [← hd]; rfl), below1 w _⟩

set_option maxHeartbeats 4000000 in
theorem indexE_any (es : List Pair) (w : World) (g cap : Nat) (hn : es.length ≤ 1000000) (h : RowE w g es) :
    Calls Tryz.prog 84 #[.slice (some ⟨g, 0, none⟩) es.length cap, .func (.func 113) #[] #[]] w fun e w' => ((e = .returned (.int .i64 (-1)) ∧ ∀ j, j < es.length → selfB (es.getD j default) = false) ∨ ∃ k : Nat, k < es.length ∧ e = .returned (.int .i64 (k : Int)) ∧ selfB (es.getD k default) = true ∧ ∀ j, j < k → selfB (es.getD j default) = false) ∧ Below w.heap.size w w' := by
  have H : Hid (RowE w g es) := h
  obtain ⟨n, hnn⟩ : ∃ n, n = es.length := ⟨_, rfl⟩
  rw [← hnn] at hn ⊢
  have HN : Hid (n = es.length) := hnn
  clear h hnn
  go_enter Tryz.func84, Tryz.ntmps84
  go_wp2_with fail
  go_loopw [8] (fun t wr => ∃ k : Nat, k ≤ n ∧ t = .int .i64 k ∧ (∀ j, j < k → selfB (es.getD j default) = false) ∧ Below w.heap.size w wr) (fun t _ => (n - intOf t).toNat)
  case atStart => exact ⟨0, Nat.zero_le _, rfl, fun j hj => absurd hj (Nat.not_lt_zero _), Below.refl _ _⟩
  case round =>
    obtain ⟨k, hk, rfl, hall, hwr⟩ := hrel
    by_cases hlt : k < n
    · obtain ⟨e0, e1, -, -⟩ := (H.out.below hwr).pair k (by rw [← HN.out]; exact hlt)
      have hki : (k : Int) < n := by omega
      have HK : Hid (Calls Tryz.prog 113 #[.agg #[.int .i64 (es.getD k default).1, .int .i64 (es.getD k default).2]] wr fun e w' => e = .returned (.bool (selfB (es.getD k default))) ∧ Below wr.heap.size wr w') := tidy1_any _ wr
      obtain ⟨x, hx⟩ : ∃ x, x = (es.getD k default).1 := ⟨_, rfl⟩
      obtain ⟨y, hy⟩ : ∃ y, y = (es.getD k default).2 := ⟨_, rfl⟩
      rw [← hx] at e0 HK
      rw [← hy] at e1 HK
      have HA : Hid (∀ j, j < k → selfB (es.getD j default) = false) := hall
      obtain ⟨D, hD⟩ : ∃ D, D = selfB (es.getD k default) := ⟨_, rfl⟩
      rw [← hD] at HK
      have HD : Hid (D = selfB (es.getD k default)) := hD
      clear hx hy hall hD
      go_wp2_with fail
      refine HK.out.mono ?_
      rintro e w2 ⟨rfl, hB2⟩
      cases D with
      | true =>
        go_wp2_with fail
        go_ret
        exact ⟨Or.inr ⟨k, hlt, rfl, HD.out.symm, HA.out⟩, hwr.trans (hB2.mono hwr.size)⟩
      | false =>
        go_wp2_with fail
        go_roundw
        case rel =>
          refine ⟨k + 1, hlt, by go_num, fun j hj => ?_, hwr.trans (hB2.mono hwr.size)⟩
          by_cases e : j = k
          · rw [e]; exact HD.out.symm
          · exact HA.out j (by omega)
        case measure => simp [intOf]; omega
    · have hkn : k = n := by omega
      subst hkn
      have HA : Hid (∀ j, j < k → selfB (es.getD j default) = false) := hall
      clear hall
      go_wp2_with fail
      go_ret
      exact ⟨Or.inl ⟨rfl, HA.out⟩, hwr⟩
end Go.Proofs.YtimmkenmahagjaaGreatDoor

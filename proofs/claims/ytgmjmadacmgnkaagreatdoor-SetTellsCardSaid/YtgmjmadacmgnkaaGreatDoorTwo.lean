/-
  Two rows of numbers of one's own, side by side: one number more behind one of them.
-/
import Derived.Test.YtgmjmadacmgnkaaGreatDoorSetE
namespace Go.Proofs.YtgmjmadacmgnkaaGreatDoor
open Go.RowKit Go.Extern.Stop Go.Stop Go.Extern

/-- Where a row lies behind one number more: where it lay, or in new memory. -/
theorem ints_block (w : World) (base : Nat) (v : Value) (n : Nat) (xs : List Value) (hown : w.ownsRow base 3 1 v n xs) (ad : Addr) (c : Nat) (z : Int) (hc : w.cell? ad = some (.int .i64 z))
    (hbd : n ≤ 1000000) (ty : TypeId) (v' : Value) (w' : World) (hr : (Builtin.append_ #[22, 22] ty #[v, .slice (some ad) 1 c]).run Tryz.prog w = .ok v' w') :
    v'.ownBlock = v.ownBlock ∨ v'.ownBlock = some w.heap.size := by
  obtain ⟨i0, hi, hz0, hz1, hz2⟩ := info_parts Tryz.infoInt
  have hl : [Value.int .i64 z].length = 1 * i0.size := by rw [hz1]; rfl
  have hnews : ∀ j u, [Value.int .i64 z][j]? = some u → w.cell? (ad.add j) = some u := fun j u hj => by
    match j, hj with
    | 0, hj =>
      simp at hj; subst hj
      have : ad.add 0 = ad := by simp [Addr.add]
      rw [this]; exact hc
  have h1 : ∀ u ∈ [Value.int .i64 z], u.oneCell' = true := fun u hu => by rw [List.mem_singleton.1 hu]; rfl
  rcases hown.2 with ⟨rfl, rfl⟩ | ⟨g, cap, cur, rfl, hbg, hg, hnc, hcm, hcs, htake⟩
  · have h := run_append_nil (P := Tryz.prog) w 22 ty 3 i0 (.int .i64 0) Tryz.underlying22 hi hz0 ad 1 c [.int .i64 z] hl hnews (by omega) (by omega) (by rw [hz2]; omega)
    rw [h] at hr
    cases hr
    exact Or.inr rfl
  · by_cases hroom : n + 1 ≤ cap
    · have hfit : n * i0.size + [Value.int .i64 z].length ≤ cur.size := by rw [hcs, hz1]; show n * 1 + 1 ≤ cap * 1; omega
      have h := run_append_room (P := Tryz.prog) w 22 ty 3 i0 Tryz.underlying22 hi g n cap cur hg ad 1 c [.int .i64 z] hl hnews h1 hroom hfit
      rw [h] at hr
      cases hr
      exact Or.inl rfl
    · have holds : ∀ j u, xs[j]? = some u → w.cell? ((⟨g, 0, none⟩ : Addr).add j) = some u := hown.cells (g := g) rfl
      have h := run_append_grow (P := Tryz.prog) w 22 ty 3 i0 (.int .i64 0) Tryz.underlying22 hi hz0 ⟨g, 0, none⟩ n cap xs (by rw [hz1]; exact hown.1) holds ad 1 c [.int .i64 z] hl hnews (by omega) (by omega) (growslice_fits (by omega) (by rw [hz2]; omega))
      rw [h] at hr
      cases hr
      exact Or.inr rfl

/-- Two rows that do not lie in one place. -/
def Apart (u o : Value) : Prop := o.ownBlock = none ∨ o.ownBlock ≠ u.ownBlock
theorem Apart.symm {u o : Value} (h : Apart u o) : Apart o u := by
  rcases h with h | h
  · cases hu : u.ownBlock with
    | none => exact Or.inl hu
    | some k => right; rw [h, hu]; exact fun e => by cases e
  · exact Or.inr fun e => h e.symm

theorem two_append (wr : World) (B : Nat) (u o : Value) (xs ys : List Int) (hu : wr.ownsRow B 3 1 u xs.length (xs.map (Value.int .i64))) (ho : wr.ownsRow B 3 1 o ys.length (ys.map (Value.int .i64))) (hap : Apart u o)
    (hB : B ≤ wr.heap.size) (hbd : xs.length ≤ 1000000) (z : Int) (ty : TypeId) :
    ∃ v' w', (Builtin.append_ #[22, 22] ty #[u, .slice (some ⟨wr.heap.size, 0, none⟩) 1 1]).run Tryz.prog (wr.alloc (.cells #[.int .i64 z] 3)) = .ok v' w' ∧
      w'.ownsRow B 3 1 v' (xs ++ [z]).length ((xs ++ [z]).map (Value.int .i64)) ∧ w'.ownsRow B 3 1 o ys.length (ys.map (Value.int .i64)) ∧ Apart v' o ∧ Below B wr w' := by
  have hu2 := hu.alloc (.cells #[.int .i64 z] 3)
  have ho2 := ho.alloc (.cells #[.int .i64 z] 3)
  have hcell : (wr.alloc (.cells #[.int .i64 z] 3)).cell? ⟨wr.heap.size, 0, none⟩ = some (.int .i64 z) := by simp
  have hsz : B ≤ (wr.alloc (.cells #[.int .i64 z] 3)).heap.size := by simp; omega
  obtain ⟨v', w', hr, h2, hg⟩ := run_append_ints (wr.alloc (.cells #[.int .i64 z] 3)) B u _ _ hu2 (.slice (some ⟨wr.heap.size, 0, none⟩) 1 1) [z] (isInts_of_cells rfl (fun j hj => by
    obtain rfl : j = 0 := by simpa using hj
    simp)) (by simp; omega) hsz ty
  have hblk := ints_block _ B u xs.length _ hu2 ⟨wr.heap.size, 0, none⟩ 1 z hcell hbd ty v' w' hr
  refine ⟨v', w', hr, by simpa using h2, ho2.kept hg hap, ?_, ((Below.refl B wr).alloc hB _).trans (below_of_grown hg hsz hu2 (Nat.le_refl _))⟩
  rcases hblk with e | e
  · unfold Apart
    rw [e]; exact hap
  · rcases ho.2 with ⟨rfl, _⟩ | ⟨g, cap, cur, rfl, _, hg2, _⟩
    · exact Or.inl rfl
    · right
      rw [e]
      intro e2
      have e3 : g = (wr.alloc (.cells #[.int .i64 z] 3)).heap.size := by simpa [Value.ownBlock] using e2
      have hlt : g < wr.heap.size := by
        rcases Nat.lt_or_ge g wr.heap.size with h | h
        · exact h
        · rw [Array.getElem?_eq_none h] at hg2; cases hg2
      simp at e3
      omega
end Go.Proofs.YtgmjmadacmgnkaaGreatDoor

/-
  Package cons: tidy, by a contract.
-/
import Derived.Test.YtimmkenmahagjaaGreatDoorCP
import Derived.Test.YtimmkenmahagjaaGreatDoorCS0
namespace Go.Proofs.YtimmkenmahagjaaGreatDoor
open Go.RowKit Go.Extern.Stop Go.Stop Go.Extern

/-- A []Edge that reads as es. -/
def IsPairs (w : World) (v : Value) (es : List Pair) : Prop :=
  ∃ a c, v = .slice a es.length c ∧ ∀ j, j < es.length → ∃ g, a = some ⟨g, 0, none⟩ ∧ w.cell? ⟨g, j * 2, none⟩ = some (.int .i64 (es.getD j default).1) ∧ w.cell? ⟨g, j * 2 + 1, none⟩ = some (.int .i64 (es.getD j default).2)
theorem IsPairs.below {w w' : World} {v : Value} {es : List Pair} (h : IsPairs w v es) (hb : Below w.heap.size w w') : IsPairs w' v es := by
  obtain ⟨a, c, e, q⟩ := h
  refine ⟨a, c, e, fun j hj => ?_⟩
  obtain ⟨g, h1, h2, h3⟩ := q j hj
  exact ⟨g, h1, cell_keep hb h2, cell_keep hb h3⟩
/-- The edges that lead somewhere, each once, in order. -/
structure EdgeSet (es es' : List Pair) : Prop where
  up : es'.Pairwise ltE
  mem : ∀ p, p ∈ es' ↔ p ∈ es ∧ p.1 ≠ p.2
theorem ltE_total (p q : Pair) : ltE p q ∨ p = q ∨ ltE q p := by
  obtain ⟨a, b⟩ := p; obtain ⟨c, d⟩ := q
  unfold ltE
  simp only [Prod.mk.injEq]
  omega
theorem ltE_irrefl (p : Pair) : ¬ ltE p p := by unfold ltE; omega
theorem ltE_trans {p q r : Pair} (h1 : ltE p q) (h2 : ltE q r) : ltE p r := by unfold ltE at *; omega
theorem ddE_spec (es : List Pair) (hs : SortedE es) (m : Nat) (hm : m ≤ es.length) : (ddE es m).Pairwise ltE ∧ ∀ p, p ∈ ddE es m ↔ p ∈ es.take m := by
  induction m with
  | zero => simp [ddE]
  | succ m ih =>
    obtain ⟨i1, i2⟩ := ih (by omega)
    have hml : m < es.length := by omega
    rw [take_snoc es default m hml]
    unfold ddE
    by_cases hc : m = 0 ∨ es.getD m default ≠ es.getD (m - 1) default
    · rw [if_pos hc]
      refine ⟨?_, fun p => by rw [List.mem_append, List.mem_append, i2]⟩
      rw [List.pairwise_append]
      refine ⟨i1, List.pairwise_singleton _ _, fun p hp q hq => ?_⟩
      rw [List.mem_singleton.1 hq]
      obtain ⟨i, hi, rfl⟩ := List.mem_iff_getElem.1 ((i2 p).1 hp)
      have him : i < m := by simp at hi; omega
      have hpe : (es.take m)[i] = es.getD i default := by simp [List.getD, show i < es.length by omega]
      rw [hpe]
      have h1 := hs i m him hml
      rcases ltE_total (es.getD i default) (es.getD m default) with q | q | q
      · exact q
      · exfalso
        rcases hc with e | e
        · omega
        · have h2 : i ≠ m - 1 := fun e' => e (by rw [← e']; exact q.symm)
          have h3 := hs i (m - 1) (by omega) (by omega)
          have h4 := hs (m - 1) m (by omega) hml
          rw [q] at h3
          rcases ltE_total (es.getD m default) (es.getD (m - 1) default) with r | r | r
          · exact h4 r
          · exact e r
          · exact h3 r
      · exact absurd q h1
    · rw [if_neg hc, List.append_nil]
      refine ⟨i1, fun p => ?_⟩
      rw [i2, List.mem_append, List.mem_singleton]
      refine ⟨Or.inl, fun h => ?_⟩
      rcases h with h | h
      · exact h
      · have h0 : m ≠ 0 := fun e => hc (Or.inl e)
        have he : es.getD m default = es.getD (m - 1) default := by
          apply Classical.byContradiction
          intro q
          exact hc (Or.inr q)
        rw [h, he]
        rw [show es.getD (m - 1) default = (es.take m)[m - 1]'(by simp; omega) by simp [List.getD, show m - 1 < es.length by omega]]
        exact List.getElem_mem _
theorem edgeSet_of {es es2 : List Pair} (hp : es2.Perm (keepE es)) (hs : SortedE es2) : EdgeSet es (ddE es2 es2.length) := by
  obtain ⟨h1, h2⟩ := ddE_spec es2 hs es2.length (Nat.le_refl _)
  refine ⟨h1, fun p => ?_⟩
  rw [h2, List.take_length, hp.mem_iff]
  unfold keepE selfB
  rw [List.mem_filter]
  simp
theorem indexE_nil (a : Option Addr) (cap : Nat) (fv : Value) (w : World) : Calls Tryz.prog 84 #[.slice a 0 cap, fv] w fun e w' => e = .returned (.int .i64 (-1)) ∧ w' = w := by
  go_enter Tryz.func84, Tryz.ntmps84
  go_wp2_with fail
  go_loopw [8] (fun t wr => t = .int .i64 0 ∧ wr = w) (fun _ _ => 0)
  case atStart => exact ⟨rfl, rfl⟩
  case round =>
    obtain ⟨rfl, hwr⟩ := hrel
    obtain rfl := hwr.symm
    go_wp2_with fail
    go_ret
    exact ⟨rfl, rfl⟩
theorem deleteE_nil (a : Option Addr) (cap : Nat) (fv : Value) (w : World) : Calls Tryz.prog 112 #[.slice a 0 cap, fv] w fun e w' => e = .returned (.slice a 0 cap) ∧ w' = w := by
  go_enter Tryz.func112, Tryz.ntmps112
  go_wp2_with fail
  refine (indexE_nil a cap fv w).mono ?_
  rintro e w1 ⟨rfl, hw1⟩
  obtain rfl := hw1.symm
  go_wp2_with fail
  go_ret
  exact ⟨rfl, rfl⟩
theorem compactE_nil (a : Option Addr) (cap : Nat) (w : World) : Calls Tryz.prog 118 #[.slice a 0 cap] w fun e w' => e = .returned (.slice a 0 cap) ∧ w' = w := by
  go_enter Tryz.func118, Tryz.ntmps118
  go_wp2_with fail
  go_ret
  exact ⟨rfl, rfl⟩
set_option maxHeartbeats 4000000 in
theorem tidy_any (es : List Pair) (u : Value) (w : World) (B : Nat) (hn : es.length ≤ 1000000) (h : w.ownsRow B TE 2 u es.length (ecells es)) :
    Calls Tryz.prog 81 #[u] w fun e w' => ∃ v es', e = .returned v ∧ IsPairs w' v es' ∧ EdgeSet es es' ∧ Below B w w' := by
  by_cases h0 : es.length = 0
  · obtain ⟨a, c, rfl⟩ := owns_form h
    have hes : es = [] := List.eq_nil_of_length_eq_zero h0
    rw [h0]
    have HX : Hid (es = []) := hes
    clear h hes h0
    go_enter Tryz.func81, Tryz.ntmps81
    go_wp2_with fail
    refine (deleteE_nil a c _ w).mono ?_
    rintro e w1 ⟨rfl, hw1⟩
    obtain rfl := hw1.symm
    go_wp2_with fail
    refine (sortE_none a c _ w).mono ?_
    rintro e w2 ⟨rfl, hw2⟩
    obtain rfl := hw2.symm
    go_wp2_with fail
    refine (compactE_nil a c w).mono ?_
    rintro e w3 ⟨rfl, hw3⟩
    obtain rfl := hw3.symm
    go_wp2_with fail
    go_ret
    refine ⟨_, [], rfl, ⟨a, c, rfl, fun j hj => absurd hj (Nat.not_lt_zero _)⟩, ⟨List.Pairwise.nil, fun p => ?_⟩, Below.refl _ _⟩
    rw [HX.out]; simp
  · obtain ⟨g, cap, rfl, hcap, hB, hR⟩ := RowE.of_owns h (by omega)
    have hg := hR.lt (by omega)
    have KD := deleteE_any es w B g cap hn hcap hB hg hR
    obtain ⟨n, hnn⟩ : ∃ n, n = es.length := ⟨_, rfl⟩
    have hkl := keepE_len es
    rw [← hnn] at hn hcap KD hkl ⊢
    have HD : Hid _ := KD
    clear h h0 hR KD hnn
    go_enter Tryz.func81, Tryz.ntmps81
    go_wp2_with fail
    refine Calls.mono HD.out ?_
    rintro e w1 ⟨rfl, hR1, hB1⟩
    have hg1 : g < w1.heap.size := Nat.lt_of_lt_of_le hg hB1.size
    have KS : Hid _ := sortE_any (keepE es) w1 B g cap (by omega) hB hg1 hR1
    obtain ⟨m, hm⟩ : ∃ m, m = (keepE es).length := ⟨_, rfl⟩
    rw [← hm] at KS ⊢
    have HM : Hid (m = (keepE es).length ∧ m ≤ n) := ⟨hm, by omega⟩
    clear hR1 hm hkl HD
    go_wp2_with fail
    refine Calls.mono KS.out ?_
    rintro e w2 ⟨rfl, es2, hp, hs2, hR2, hB2, hz2⟩
    have hlen2 : es2.length = m := by rw [hp.length_eq, HM.out.1]
    have hmn := HM.out.2
    have hg2 : g < w2.heap.size := by omega
    have KC : Hid _ := compactE_any es2 w2 B g cap (by omega) (by omega) hB hg2 hR2
    rw [hlen2] at KC
    have HE : Hid (EdgeSet es (ddE es2 m)) := by
      have := edgeSet_of hp hs2
      rw [hlen2] at this
      exact this
    have HBB : Hid (Below B w w2) := hB1.trans hB2
    clear hR2 hp hs2 hlen2 KS hB1 hB2 hmn
    go_wp2_with fail
    refine Calls.mono KC.out ?_
    rintro e w3 ⟨rfl, hR3, hB3⟩
    have HR3 : Hid (RowE w3 g (ddE es2 m)) := hR3
    clear hR3 KC
    go_wp2_with fail
    go_ret
    refine ⟨_, ddE es2 m, rfl, ⟨some ⟨g, 0, none⟩, cap, rfl, fun j hj => ⟨g, rfl, ?_⟩⟩, HE.out, HBB.out.trans hB3⟩
    obtain ⟨r0, r1, -, -⟩ := HR3.out.pair j hj
    exact ⟨r0, r1⟩
end Go.Proofs.YtimmkenmahagjaaGreatDoor

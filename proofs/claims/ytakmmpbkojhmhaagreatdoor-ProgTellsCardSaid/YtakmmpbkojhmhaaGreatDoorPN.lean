/-
  Package prog: Text, by a contract.
-/
import Derived.Test.YtakmmpbkojhmhaaGreatDoorPM2
namespace Go.Proofs.YtakmmpbkojhmhaaGreatDoor
open Go.RowKit Go.Extern.Stop Go.Stop Go.Extern

theorem right_params {P : ProgD} (h : checkE P = none) : ∀ f ∈ P.funs, f.params.length ≤ 3 := by
  unfold checkE at h
  by_cases hf : fullB P = true
  · rw [if_pos hf] at h; cases h
  rw [if_neg hf] at h
  cases hn : namesE P.vars (fnames P) with
  | some e => rw [hn] at h; cases h
  | none =>
    rw [hn] at h
    cases hu : funsE P with
    | some e => rw [hu] at h; cases h
    | none =>
      unfold funsE at hu
      split at hu
      · cases hu
      rename_i h1
      simp only [Bool.not_eq_true', Bool.not_eq_false] at h1
      intro f hf
      have := List.all_eq_true.1 h1 f hf
      simpa using this
theorem right_sizes {P : ProgD} (h : checkE P = none) : P.vars.length ≤ 40 ∧ P.funs.length ≤ 6 ∧ P.stmts.length ≤ 80 := by
  unfold checkE at h
  by_cases hf : fullB P = true
  · rw [if_pos hf] at h; cases h
  · unfold fullB at hf
    simp only [Bool.or_eq_true, decide_eq_true_eq, not_or] at hf
    omega
theorem lineVar_le {P : ProgD} (h : Right P) (v : Bs) (hv : v ∈ P.vars) : (lineVar v).length ≤ 100 := by
  have := (isNm_parts (List.all_eq_true.1 h.vn v hv)).2.2.2.2.2.2.1
  unfold lineVar
  simp only [List.length_append, List.length_cons, List.length_nil]
  omega
theorem namesT_le {P : ProgD} (h : Right P) (l : List Int) (hl : l.all (varB P) = true) (h3 : l.length ≤ 3) : (namesT P l).length ≤ 32 := by
  have := h.short l hl
  unfold namesT
  simp only [List.length_append, List.length_cons, List.length_nil]
  omega
theorem lineFun_le {P : ProgD} (h : Right P) (f : FunD) (hf : f ∈ P.funs) (h3 : f.params.length ≤ 3) : (lineFun P f).length ≤ 100 := by
  have h1 := (isNm_parts (List.all_eq_true.1 h.fn f.name (List.mem_map.2 ⟨f, hf, rfl⟩))).2.2.2.2.2.2.1
  obtain ⟨hp, hr⟩ := h.fp f hf
  have h2 := namesT_le h f.params hp h3
  have h4 := (isNm_parts (h.name hr)).2.2.2.2.2.2.1
  unfold lineFun
  simp only [List.length_append, List.length_cons, List.length_nil]
  omega
theorem lineStmt_le {P : ProgD} (h : Right P) (s : StmtD) (hs : stmtE P s = none) : (lineStmt P s).length ≤ 100 := by
  obtain ⟨hk, hx, hy, ha, h3, h0, hz⟩ := stmt_parts hs
  obtain ⟨k, x, y, args⟩ := s
  have h1 := (isNm_parts (h.name (k := x) hx)).2.2.2.2.2.2.1
  rcases kinds_cases hk with rfl | rfl | rfl | rfl | rfl | rfl | rfl
  · have h2 := (isNm_parts (h.name (k := y) hy)).2.2.2.2.2.2.1
    show (nameOf P x ++ [32, 61, 32, 38] ++ nameOf P y).length ≤ 100
    simp only [List.length_append, List.length_cons, List.length_nil]; omega
  · have h2 := (isNm_parts (h.name (k := y) hy)).2.2.2.2.2.2.1
    show (nameOf P x ++ [32, 61, 32] ++ nameOf P y).length ≤ 100
    simp only [List.length_append, List.length_cons, List.length_nil]; omega
  · have h2 := (isNm_parts (h.name (k := y) hy)).2.2.2.2.2.2.1
    show (nameOf P x ++ [32, 61, 32, 42] ++ nameOf P y).length ≤ 100
    simp only [List.length_append, List.length_cons, List.length_nil]; omega
  · have h2 := (isNm_parts (h.name (k := y) hy)).2.2.2.2.2.2.1
    show ([42] ++ nameOf P x ++ [32, 61, 32] ++ nameOf P y).length ≤ 100
    simp only [List.length_append, List.length_cons, List.length_nil]; omega
  · show (nameOf P x ++ [32, 61, 32, 110, 101, 119]).length ≤ 100
    simp only [List.length_append, List.length_cons, List.length_nil]; omega
  · have h2 := (isNm_parts (h.fname (k := y) hy)).2.2.2.2.2.2.1
    show (nameOf P x ++ [32, 61, 32, 102, 110, 32] ++ funOf P y).length ≤ 100
    simp only [List.length_append, List.length_cons, List.length_nil]; omega
  · have h2 := (isNm_parts (h.name (k := y) hy)).2.2.2.2.2.2.1
    have h4 := namesT_le h args ha (h3 rfl)
    show (nameOf P x ++ [32, 61, 32, 99, 97, 108, 108, 32] ++ nameOf P y ++ namesT P args).length ≤ 100
    simp only [List.length_append, List.length_cons, List.length_nil]; omega

theorem map_take {α : Type} (f : α → Bs) (l : List α) (d : α) (k : Nat) (h : k < l.length) : (l.take (k + 1)).map f = (l.take k).map f ++ [f (l.getD k d)] := by
  rw [List.take_succ_eq_append_getElem h, List.map_append]
  simp [List.getD, h]
theorem ended_take {α : Type} (f : α → Bs) (l : List α) (d : α) (k : Nat) (h : k < l.length) (pre : Bs) : pre ++ ended ((l.take (k + 1)).map f) = (pre ++ ended ((l.take k).map f)) ++ (f (l.getD k d) ++ [10]) := by
  rw [map_take f l d k h, ended_snoc, List.append_assoc]
theorem ended_small {α : Type} (f : α → Bs) (l : List α) (k : Nat) (hl : l.length ≤ 1000) (h : ∀ x ∈ l, (f x).length ≤ 100) : (ended ((l.take k).map f)).length ≤ 101000 := by
  have h1 := ended_le ((l.take k).map f) 100 (fun y hy => by
    obtain ⟨x, hx, rfl⟩ := List.mem_map.1 hy
    exact h x (List.mem_of_mem_take hx))
  rw [List.length_map] at h1
  have h2 := List.length_take_le k l
  have h3 : (l.take k).length * (100 + 1) ≤ 1000 * 101 := Nat.mul_le_mul (by have := List.length_take_le' k l; omega) (by omega)
  omega
end Go.Proofs.YtakmmpbkojhmhaaGreatDoor

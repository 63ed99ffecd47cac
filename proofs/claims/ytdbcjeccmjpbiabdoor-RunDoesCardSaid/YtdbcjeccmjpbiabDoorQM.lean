/-
  Check of plain programs, test by test.
-/
import Derived.Test.YtdbcjeccmjpbiabDoorPD
namespace Go.Proofs.YtdbcjeccmjpbiabDoor
open Go.RowKit Go.Extern.Stop Go.Stop Go.Extern

def codeE : ErrD → Int
  | none => 0
  | some x => (x.1 : Int) + 1
def placeE : ErrD → Int
  | none => -1
  | some x => x.2

theorem dup_cons_take {α : Type} [BEq α] [LawfulBEq α] (l : List α) (m : Nat) (h : dup (l.take m) = true) : dup l = true := by
  induction l generalizing m with
  | nil => simp [dup] at h
  | cons x r ih =>
    cases m with
    | zero => simp [dup] at h
    | succ m =>
      rw [List.take_succ_cons] at h
      unfold dup at h ⊢
      rcases Bool.or_eq_true_iff.1 h with h1 | h1
      · have : r.contains x = true := List.contains_iff_mem.2 (List.mem_of_mem_take (List.contains_iff_mem.1 h1))
        rw [this]; rfl
      · rw [ih m h1, Bool.or_true]
theorem dup_take_step {α : Type} [BEq α] [LawfulBEq α] (l : List α) (d : α) (i : Nat) (hi : i < l.length) (h : dup (l.take i) = false) (hc : (l.take i).contains (l.getD i d) = false) : dup (l.take (i + 1)) = false := by
  have : l.take (i + 1) = l.take i ++ [l.getD i d] := by rw [List.take_add_one]; simp [List.getD, hi]
  rw [this, dup_snoc, h, hc]; rfl
theorem dup_of_eq {α : Type} [BEq α] [LawfulBEq α] (l : List α) (d : α) (k i : Nat) (hk : k < i) (hi : i < l.length) (h : l.getD k d = l.getD i d) : dup l = true := by
  refine dup_cons_take l (i + 1) ?_
  have : l.take (i + 1) = l.take i ++ [l.getD i d] := by rw [List.take_add_one]; simp [List.getD, hi]
  rw [this, dup_snoc]
  have hm : l.getD i d ∈ l.take i := by
    rw [← h]
    refine List.mem_iff_getElem.2 ⟨k, by simp; omega, ?_⟩
    simp [List.getD, show k < l.length by omega]
  rw [List.contains_iff_mem.2 hm, Bool.or_true]
theorem contains_take_step {α : Type} [BEq α] [LawfulBEq α] (l : List α) (d x : α) (k : Nat) (hk : k < l.length) (h : (l.take k).contains x = false) (hne : ¬ l.getD k d = x) : (l.take (k + 1)).contains x = false := by
  have : l.take (k + 1) = l.take k ++ [l.getD k d] := by rw [List.take_add_one]; simp [List.getD, hk]
  rw [this, List.contains_append, h, Bool.false_or]
  cases hc : [l.getD k d].contains x with
  | false => rfl
  | true => exact absurd (List.mem_singleton.1 (List.contains_iff_mem.1 hc)).symm hne

theorem chk_full {P : ProgD} (h : fullB P = true) : checkE P = some (7, -1) := by unfold checkE; rw [if_pos h]
theorem chk_name {P : ProgD} (h : fullB P = false) (h2 : P.vars.all isNm = false ∨ (fnames P).all isNm = false) : checkE P = some (4, -1) := by
  unfold checkE
  rw [if_neg (by rw [h]; exact Bool.false_ne_true)]
  have : namesE P.vars (fnames P) = some 4 := by
    unfold namesE
    rw [if_pos]
    rcases h2 with h2 | h2
    · rw [h2]; rfl
    · rw [h2]; simp
  rw [this]
theorem chk_dup {P : ProgD} (h : fullB P = false) (h1 : P.vars.all isNm = true) (h2 : (fnames P).all isNm = true) (h3 : dup P.vars = true ∨ dup (fnames P) = true) : checkE P = some (6, -1) := by
  unfold checkE
  rw [if_neg (by rw [h]; exact Bool.false_ne_true)]
  have : namesE P.vars (fnames P) = some 6 := by
    unfold namesE
    rw [if_neg (by rw [h1, h2]; simp), if_pos]
    rcases h3 with h3 | h3
    · rw [h3]; rfl
    · rw [h3]; simp
  rw [this]
/-- What is well with the names. -/
structure NamesOk (P : ProgD) : Prop where
  full : fullB P = false
  vs : P.vars.all isNm = true
  fs : (fnames P).all isNm = true
  dv : dup P.vars = false
  df : dup (fnames P) = false
theorem NamesOk.check {P : ProgD} (h : NamesOk P) : checkE P = match funsE P with | some e => some (e, -1) | none => stmtsE P 0 P.stmts := by
  unfold checkE
  rw [if_neg (by rw [h.full]; exact Bool.false_ne_true)]
  have : namesE P.vars (fnames P) = none := by
    unfold namesE
    rw [if_neg (by rw [h.vs, h.fs]; simp), if_neg (by rw [h.dv, h.df]; simp)]
  rw [this]
  rfl
theorem chk_args {P : ProgD} (h : NamesOk P) (h1 : P.funs.all (fun f => decide (f.params.length ≤ 3)) = false) : checkE P = some (8, -1) := by
  rw [h.check]
  have : funsE P = some 8 := by unfold funsE; rw [if_pos (by rw [h1]; rfl)]
  rw [this]
theorem chk_bound {P : ProgD} (h : NamesOk P) (h1 : P.funs.all (fun f => decide (f.params.length ≤ 3)) = true) (h2 : P.funs.all (fun f => f.params.all (varB P) && varB P f.ret) = false) : checkE P = some (1, -1) := by
  rw [h.check]
  have : funsE P = some 1 := by unfold funsE; rw [if_neg (by rw [h1]; exact Bool.false_ne_true), if_pos (by rw [h2]; rfl)]
  rw [this]
theorem chk_dup2 {P : ProgD} (h : NamesOk P) (h1 : P.funs.all (fun f => decide (f.params.length ≤ 3)) = true) (h2 : P.funs.all (fun f => f.params.all (varB P) && varB P f.ret) = true) (h3 : P.funs.all (fun f => !dup f.params) = false) : checkE P = some (6, -1) := by
  rw [h.check]
  have : funsE P = some 6 := by unfold funsE; rw [if_neg (by rw [h1]; exact Bool.false_ne_true), if_neg (by rw [h2]; exact Bool.false_ne_true), if_pos (by rw [h3]; rfl)]
  rw [this]
theorem chk_stmts {P : ProgD} (h : NamesOk P) (h1 : P.funs.all (fun f => decide (f.params.length ≤ 3)) = true) (h2 : P.funs.all (fun f => f.params.all (varB P) && varB P f.ret) = true) (h3 : P.funs.all (fun f => !dup f.params) = true) : checkE P = stmtsE P 0 P.stmts := by
  rw [h.check]
  have : funsE P = none := by unfold funsE; rw [if_neg (by rw [h1]; exact Bool.false_ne_true), if_neg (by rw [h2]; exact Bool.false_ne_true), if_neg (by rw [h3]; exact Bool.false_ne_true)]
  rw [this]
theorem stmtsE_at (P : ProgD) (l : List StmtD) (b i e : Nat) (hi : i < l.length) (h : ∀ j, j < i → stmtE P (l.getD j default) = none) (he : stmtE P (l.getD i default) = some e) : stmtsE P b l = some (e, ((b + i : Nat) : Int)) := by
  induction l generalizing b i with
  | nil => simp at hi
  | cons s r ih =>
    cases i with
    | zero =>
      have : stmtE P s = some e := by simpa [List.getD] using he
      unfold stmtsE
      rw [this]; rfl
    | succ i =>
      have h0 : stmtE P s = none := by simpa [List.getD] using h 0 (by omega)
      unfold stmtsE
      rw [h0]
      have := ih (b + 1) i (by simpa using hi) (fun j hj => by simpa [List.getD] using h (j + 1) (by omega)) (by simpa [List.getD] using he)
      rw [this, show b + 1 + i = b + (i + 1) by omega]
theorem stmtsE_all (P : ProgD) (l : List StmtD) (b : Nat) (h : ∀ j, j < l.length → stmtE P (l.getD j default) = none) : stmtsE P b l = none := by
  induction l generalizing b with
  | nil => rfl
  | cons s r ih =>
    have h0 : stmtE P s = none := by simpa [List.getD] using h 0 (by simp)
    unfold stmtsE
    rw [h0]
    exact ih (b + 1) (fun j hj => by simpa [List.getD] using h (j + 1) (by simpa using hj))
theorem fnames_at (P : ProgD) (k : Nat) (h : k < P.funs.length) : (fnames P).getD k [] = (P.funs.getD k default).name := by
  unfold fnames
  simp [List.getD, h]
theorem fnames_len (P : ProgD) : (fnames P).length = P.funs.length := by unfold fnames; simp
end Go.Proofs.YtdbcjeccmjpbiabDoor

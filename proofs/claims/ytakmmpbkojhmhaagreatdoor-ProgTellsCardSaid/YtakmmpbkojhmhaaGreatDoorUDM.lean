/-
  How the document reads a line, as plain data; it is how the program reads it.
-/
import Derived.Test.YtakmmpbkojhmhaaGreatDoorXAM
import Derived.Test.YtakmmpbkojhmhaaGreatDoorXQM
namespace Go.Proofs.YtakmmpbkojhmhaaGreatDoor
open Go.RowKit

def kv4 : Bs := [118, 97, 114, 32]
def kf3 : Bs := [102, 110, 32]
def kc5 : Bs := [99, 97, 108, 108, 32]
/-- Which part of a program a line is of. -/
def lineAt (l : Bs) : Int := if Lib.hasPrefix l kv4 then 0 else if Lib.hasPrefix l kf3 then 1 else 2
def partOf (P : ProgD) : Int := if P.stmts.isEmpty then (if P.funs.isEmpty then 0 else 1) else 2
def resE (P Q : ProgD) (e : Int) : ProgD × Option Nat := if e = 0 then (Q, none) else if e = 1 then (P, some 0) else (P, some 5)
def varEr (n : Bs) : Int := if isNm n then 0 else 1
def varQ (P : ProgD) (n : Bs) : ProgD := { P with vars := P.vars ++ [n] }
def funEr (P : ProgD) (r : Bs) : Int :=
  if !listF r || !isNm (listN r) || (listB r).isEmpty then 1 else if !((listB r).headD 0 == 32) then 1 else lookE P.vars (listL r ++ [(listB r).drop 1])
def funQ (P : ProgD) (r : Bs) : ProgD := { P with funs := P.funs ++ [⟨listN r, (listL r).map (idx P.vars), idx P.vars ((listB r).drop 1)⟩] }
def sentK (x y : Bs) : Bs :=
  if Lib.hasPrefix x [42] then kStore else if y == kNew then kNew else if Lib.hasPrefix y [38] then kAddr else if Lib.hasPrefix y [42] then kLoad
  else if Lib.hasPrefix y kf3 then kFun else if Lib.hasPrefix y kc5 then kCall else kCopy
/-- The names that are looked up, in order (none: it is no statement). -/
def sentN (x y : Bs) : Option (List Bs) :=
  if Lib.hasPrefix x [42] then some [x.drop 1, y] else if y == kNew then some [x] else if Lib.hasPrefix y [38] then some [x, y.drop 1] else if Lib.hasPrefix y [42] then some [x, y.drop 1]
  else if Lib.hasPrefix y kf3 then (if isNm (y.drop 3) then some [x] else none)
  else if Lib.hasPrefix y kc5 then (if listF (y.drop 5) && (listB (y.drop 5)).isEmpty then some (x :: listN (y.drop 5) :: listL (y.drop 5)) else none)
  else some [x, y]
def funY (P : ProgD) (y : Bs) : Int := idx (fnames P) (y.drop 3)
def stmtEr (P : ProgD) (l : Bs) : Int :=
  if !(Lib.cut l eqs).2.2 then 1 else match sentN (Lib.cut l eqs).1 (Lib.cut l eqs).2.1 with
    | none => 1
    | some ns => if lookE P.vars ns = 0 then (if sentK (Lib.cut l eqs).1 (Lib.cut l eqs).2.1 == kFun && funY P (Lib.cut l eqs).2.1 == -1 then 6 else 0) else lookE P.vars ns
def stmtOf (P : ProgD) (x y : Bs) : StmtD :=
  if sentK x y == kFun then ⟨kFun, idx P.vars x, funY P y, []⟩ else ⟨sentK x y, (((sentN x y).getD []).map (idx P.vars)).headD 0, (((sentN x y).getD []).map (idx P.vars)).getD 1 0, (((sentN x y).getD []).map (idx P.vars)).drop 2⟩
def stmtQ (P : ProgD) (l : Bs) : ProgD := { P with stmts := P.stmts ++ [stmtOf P (Lib.cut l eqs).1 (Lib.cut l eqs).2.1] }
def lineEr (P : ProgD) (l : Bs) : Int := if Lib.hasPrefix l kv4 then varEr (l.drop 4) else if Lib.hasPrefix l kf3 then funEr P (l.drop 3) else stmtEr P l
def lineQ (P : ProgD) (l : Bs) : ProgD := if Lib.hasPrefix l kv4 then varQ P (l.drop 4) else if Lib.hasPrefix l kf3 then funQ P (l.drop 3) else stmtQ P l

theorem trim_true {s p : Bs} (h : Lib.hasPrefix s p = true) : Lib.trimPrefix s p = s.drop p.length := by
  unfold Lib.trimPrefix
  rw [h]; rfl
theorem lookE_cases (vs l : List Bs) : lookE vs l = 0 ∨ lookE vs l = 1 ∨ lookE vs l = 6 := by
  unfold lookE
  split
  · exact Or.inr (Or.inl rfl)
  · split
    · exact Or.inr (Or.inr rfl)
    · exact Or.inl rfl
theorem pre_head_is (b : Bs) (c : UInt8) : Lib.hasPrefix b [c] = (!b.isEmpty && (b.headD 0 == c)) := by
  cases b with
  | nil => rfl
  | cons x r =>
    show (c == x && true) = (x == c)
    rw [Bool.and_true, Bool.eq_iff_iff, beq_iff_eq, beq_iff_eq]
    exact eq_comm
theorem contains_app (a b : List Int) (x : Int) : (a ++ b).contains x = (a.contains x || b.contains x) := by
  rw [Bool.eq_iff_iff, Bool.or_eq_true, List.contains_iff_mem, List.contains_iff_mem, List.contains_iff_mem, List.mem_append]
theorem pre_apart {s : Bs} {a b : UInt8} {p q : Bs} (h : Lib.hasPrefix s (a :: p) = true) (hne : (b == a) = false) : Lib.hasPrefix s (b :: q) = false := by
  cases s with
  | nil => rfl
  | cons x r =>
    have h1 : (a == x && p.isPrefixOf r) = true := h
    have hx : a = x := beq_iff_eq.1 (Bool.and_eq_true _ _ ▸ h1).1
    show (b == x && q.isPrefixOf r) = false
    rw [← hx, hne]; rfl
theorem listOk_is (r : Bs) : listOk r = (listF r && isNm (listN r) && (listL r).all isNm) := rfl
theorem var_agree (P : ProgD) (n : Bs) : readVarD P n = if (0 : Int) < partOf P then (P, some 0) else resE P (varQ P n) (varEr n) := by
  unfold readVarD partOf varEr
  cases h1 : P.stmts.isEmpty <;> cases h2 : P.funs.isEmpty <;> cases h3 : isNm n <;> simp [resE, varQ]
theorem fun_agree (P : ProgD) (r : Bs) : readFunD P r = if (1 : Int) < partOf P then (P, some 0) else resE P (funQ P r) (funEr P r) := by
  unfold readFunD partOf funEr
  rw [pre_head_is, listOk_is]
  by_cases hb : Lib.hasPrefix (listB r) [32] = true
  · have hb' := hb
    rw [pre_head_is] at hb'
    rw [trim_true hb]
    simp only [Bool.and_eq_true, Bool.not_eq_true'] at hb'
    rw [hb'.1, hb'.2]
    have hl : ([32] : Bs).length = 1 := rfl
    rw [hl]
    unfold lookE funQ
    rw [List.all_append, List.map_append, contains_app]
    obtain ⟨z, hz⟩ : ∃ z, z = idx P.vars ((listB r).drop 1) := ⟨_, rfl⟩
    rw [List.map_singleton, ← hz]
    have hzc : ([z].contains (-1)) = (z == -1) := by
      show ((-1 : Int) == z || false) = (z == -1)
      rw [Bool.or_false, Bool.eq_iff_iff, beq_iff_eq, beq_iff_eq]; exact eq_comm
    have hal : ([(listB r).drop 1].all isNm) = isNm ((listB r).drop 1) := by
      show (isNm ((listB r).drop 1) && true) = _
      rw [Bool.and_true]
    rw [hzc, hal]
    cases h1 : P.stmts.isEmpty <;> cases h2 : P.funs.isEmpty <;> cases h3 : listF r <;> cases h4 : isNm (listN r) <;> cases h5 : (listL r).all isNm <;> cases h6 : isNm ((listB r).drop 1) <;> cases h7 : ((listL r).map (idx P.vars)).contains (-1) <;> cases h8 : (z == -1) <;> simp [resE]
  · have hb' := hb
    rw [pre_head_is] at hb'
    have : (!(listB r).isEmpty && ((listB r).headD 0 == 32)) = false := by simpa using hb'
    rw [this]
    cases h1 : (listB r).isEmpty with
    | true => cases h2 : P.stmts.isEmpty <;> cases h3 : P.funs.isEmpty <;> simp [resE]
    | false =>
      rw [h1] at this
      have h9 : ((listB r).headD 0 == 32) = false := by simpa using this
      rw [h9]
      cases h2 : P.stmts.isEmpty <;> cases h3 : P.funs.isEmpty <;> simp [resE]
theorem cut_none {l s : Bs} (h : (Lib.cut l s).2.2 = false) : Lib.cut l s = (l, [], false) := by
  unfold Lib.cut at h ⊢
  split at h
  · cases h
  · rw [if_neg (by assumption)]
theorem idx_ge (vs : List Bs) (x : Bs) : -1 ≤ idx vs x := by
  have key : ∀ (l : List Bs) (i : Nat), -1 ≤ idxFrom i l x := by
    intro l
    induction l with
    | nil => intro i; exact Int.le_refl _
    | cons z r ih =>
      intro i
      unfold idxFrom
      split
      · omega
      · exact ih (i + 1)
  exact key vs 0
theorem all1 (x : Bs) : [x].all isNm = isNm x := by
  show (isNm x && true) = _
  rw [Bool.and_true]
theorem all2 (x y : Bs) : [x, y].all isNm = (isNm x && isNm y) := by
  show (isNm x && (isNm y && true)) = _
  rw [Bool.and_true]
theorem has1 (x : Int) : [x].contains (-1) = (x == -1) := by
  show ((-1 : Int) == x || false) = (x == -1)
  rw [Bool.or_false, Bool.eq_iff_iff, beq_iff_eq, beq_iff_eq]; exact eq_comm
theorem hasC (x : Int) (l : List Int) : (x :: l).contains (-1) = (x == -1 || l.contains (-1)) := by
  show ((-1 : Int) == x || _) = _
  congr 1
  rw [Bool.eq_iff_iff, beq_iff_eq, beq_iff_eq]; exact eq_comm
theorem stmt_agree (P : ProgD) (l : Bs) : readStmtD P l = resE P (stmtQ P l) (stmtEr P l) := by
  unfold readStmtD stmtEr stmtQ parseD
  cases hf : (Lib.cut l eqs).2.2 with
  | false =>
    rw [cut_none hf]
    have h1 : isNm [] = false := rfl
    have h2 : (rightD []).2 = false := rfl
    cases h3 : Lib.hasPrefix l [42] <;> simp [h1, h2, resE]
  | true =>
    obtain ⟨x, hx⟩ : ∃ x, x = (Lib.cut l eqs).1 := ⟨_, rfl⟩
    obtain ⟨y, hy⟩ : ∃ y, y = (Lib.cut l eqs).2.1 := ⟨_, rfl⟩
    rw [← hx, ← hy]
    unfold stmtOf sentN sentK
    cases g1 : Lib.hasPrefix x [42] with
    | true =>
      rw [trim_true g1]
      have hl : ([42] : Bs).length = 1 := rfl
      rw [hl]
      have e1 : (kStore == kNew) = false := rfl
      have e2 : (kStore == kFun) = false := rfl
      simp only [sentS, sentY, e1, e2, lookE, all2, List.map_cons, List.map_nil, hasC, if_true, Bool.false_eq_true, if_false]
      cases a1 : isNm (x.drop 1) <;> cases a2 : isNm y <;> cases a3 : (idx P.vars (x.drop 1) == -1) <;> cases a4 : (idx P.vars y == -1) <;> simp [resE]
    | false =>
      unfold rightD
      cases g2 : (y == kNew) with
      | true =>
        have e1 : (kNew == kNew) = true := rfl
        have e2 : (kNew == kFun) = false := rfl
        simp only [sentS, sentY, e1, e2, lookE, all1, List.map_cons, List.map_nil, has1, if_true, Bool.false_eq_true, if_false, Bool.true_and, Option.getD_some]
        cases a1 : isNm x <;> cases a3 : (idx P.vars x == -1) <;> simp [resE]
      | false =>
        cases g3 : Lib.hasPrefix y [38] with
        | true =>
          have n1 : Lib.hasPrefix y [99, 97, 108, 108, 32] = false := pre_apart g3 rfl
          rw [trim_true g3, n1]
          have hl : ([38] : Bs).length = 1 := rfl
          rw [hl]
          have e1 : (kAddr == kNew) = false := rfl
          have e2 : (kAddr == kFun) = false := rfl
          simp only [sentS, sentY, e1, e2, lookE, all2, List.map_cons, List.map_nil, hasC, if_true, Bool.false_eq_true, if_false, Option.getD_some]
          cases a1 : isNm x <;> cases a2 : isNm (y.drop 1) <;> cases a3 : (idx P.vars x == -1) <;> cases a4 : (idx P.vars (y.drop 1) == -1) <;> simp [resE]
        | false =>
          cases g4 : Lib.hasPrefix y [42] with
          | true =>
            have n1 : Lib.hasPrefix y [99, 97, 108, 108, 32] = false := pre_apart g4 rfl
            rw [trim_true g4, n1]
            have hl : ([42] : Bs).length = 1 := rfl
            rw [hl]
            have e1 : (kLoad == kNew) = false := rfl
            have e2 : (kLoad == kFun) = false := rfl
            simp only [sentS, sentY, e1, e2, lookE, all2, List.map_cons, List.map_nil, hasC, if_true, Bool.false_eq_true, if_false, Option.getD_some]
            cases a1 : isNm x <;> cases a2 : isNm (y.drop 1) <;> cases a3 : (idx P.vars x == -1) <;> cases a4 : (idx P.vars (y.drop 1) == -1) <;> simp [resE]
          | false =>
            cases g5 : Lib.hasPrefix y kf3 with
            | true =>
              have n1 : Lib.hasPrefix y [99, 97, 108, 108, 32] = false := pre_apart g5 rfl
              have g5' : Lib.hasPrefix y [102, 110, 32] = true := g5
              rw [n1, g5', trim_true g5']
              have hl : ([102, 110, 32] : Bs).length = 3 := rfl
              rw [hl]
              have e1 : (kFun == kNew) = false := rfl
              have e2 : (kFun == kFun) = true := rfl
              simp only [sentS, sentY, e1, e2, lookE, funY, List.map_nil, if_true, Bool.false_eq_true, if_false]
              cases a2 : isNm (y.drop 3) with
              | false => cases a1 : isNm x <;> simp [resE]
              | true =>
                simp only [if_true, all1, List.map_cons, List.map_nil, has1]
                cases a1 : isNm x <;> cases a3 : (idx P.vars x == -1) <;> cases a4 : (idx (fnames P) (y.drop 3) == -1) <;> simp [resE]
            | false =>
              have g5' : Lib.hasPrefix y [102, 110, 32] = false := g5
              cases g6 : Lib.hasPrefix y kc5 with
              | true =>
                have g6' : Lib.hasPrefix y [99, 97, 108, 108, 32] = true := g6
                rw [g6', trim_true g6']
                have hl : ([99, 97, 108, 108, 32] : Bs).length = 5 := rfl
                rw [hl]
                obtain ⟨r, hr⟩ : ∃ r, r = y.drop 5 := ⟨_, rfl⟩
                rw [← hr]
                have e1 : (kCall == kNew) = false := rfl
                have e2 : (kCall == kFun) = false := rfl
                simp only [sentS, sentY, e1, e2, listOk_is, if_true, Bool.false_eq_true, if_false]
                cases a5 : listF r <;> cases a6 : (listB r).isEmpty
                · simp [resE]
                · simp [resE]
                · simp [resE]
                · have hall : (x :: listN r :: listL r).all isNm = (isNm x && (isNm (listN r) && (listL r).all isNm)) := rfl
                  simp only [lookE, Bool.true_and, Bool.and_true, if_true, hall, List.map_cons, hasC, Option.getD_some]
                  cases a1 : isNm x <;> cases a2 : isNm (listN r) <;> cases a7 : (listL r).all isNm <;> cases a3 : (idx P.vars x == -1) <;> cases a4 : (idx P.vars (listN r) == -1) <;> cases a8 : ((listL r).map (idx P.vars)).contains (-1) <;> simp [resE]
              | false =>
                have g6' : Lib.hasPrefix y [99, 97, 108, 108, 32] = false := g6
                rw [g5', g6']
                have e1 : (kCopy == kNew) = false := rfl
                have e2 : (kCopy == kFun) = false := rfl
                simp only [sentS, sentY, e1, e2, lookE, all2, List.map_cons, List.map_nil, hasC, Bool.false_eq_true, if_false, Option.getD_some]
                cases a1 : isNm x <;> cases a2 : isNm y <;> cases a3 : (idx P.vars x == -1) <;> cases a4 : (idx P.vars y == -1) <;> simp [resE]
theorem line_agree (P : ProgD) (l : Bs) : readLineD P l = if lineAt l < partOf P then (P, some 0) else resE P (lineQ P l) (lineEr P l) := by
  unfold readLineD lineAt lineQ lineEr
  cases g1 : Lib.hasPrefix l kv4 with
  | true =>
    have g1' : Lib.hasPrefix l [118, 97, 114, 32] = true := g1
    rw [g1', trim_true g1', if_pos rfl, if_pos rfl, if_pos rfl, if_pos rfl, var_agree]
    rfl
  | false =>
    have g1' : Lib.hasPrefix l [118, 97, 114, 32] = false := g1
    rw [g1']
    cases g2 : Lib.hasPrefix l kf3 with
    | true =>
      have g2' : Lib.hasPrefix l [102, 110, 32] = true := g2
      rw [g2', trim_true g2']
      simp only [Bool.false_eq_true, if_false, if_true]
      rw [fun_agree]
      rfl
    | false =>
      have g2' : Lib.hasPrefix l [102, 110, 32] = false := g2
      rw [g2']
      simp only [Bool.false_eq_true, if_false]
      rw [stmt_agree, if_neg]
      unfold partOf
      split
      · split <;> decide
      · decide
end Go.Proofs.YtakmmpbkojhmhaaGreatDoor

/-
  Programs as plain data: names, their check, their text, and how a text is read. No program of Go in this text.
-/
import Derived.Lib.Split
import Derived.Lib.SplitLaws
import Derived.Lib.Join
import Derived.Lib.Strings
import Derived.Lib.SlicesS
namespace Go.Proofs.YtglonlpfnllocaaGreatDoor
open Go

abbrev Bs := List UInt8
/-- A function of a program. -/
structure FunD where
  name : Bs
  params : List Int
  ret : Int
  deriving Inhabited
/-- A statement of a program. -/
structure StmtD where
  kind : Bs
  x : Int
  y : Int
  args : List Int
  deriving Inhabited
/-- A program. -/
structure ProgD where
  vars : List Bs
  funs : List FunD
  stmts : List StmtD
def noProg : ProgD := ⟨[], [], []⟩

def kVar : Bs := [118, 97, 114]
def kFn : Bs := [102, 110]
def kNew : Bs := [110, 101, 119]
def kCall : Bs := [99, 97, 108, 108]
def kAddr : Bs := [97, 100, 100, 114]
def kCopy : Bs := [99, 111, 112, 121]
def kLoad : Bs := [108, 111, 97, 100]
def kStore : Bs := [115, 116, 111, 114, 101]
def kFun : Bs := [102, 117, 110]

def isLet (c : UInt8) : Bool := decide (97 ≤ c.toNat) && decide (c.toNat ≤ 122)
def isDig (c : UInt8) : Bool := decide (48 ≤ c.toNat) && decide (c.toNat ≤ 57)
def isNm (l : Bs) : Bool := !l.isEmpty && decide (l.length ≤ 8) && isLet (l.headD 0) && l.all (fun c => isLet c || isDig c) && !(l == kVar) && !(l == kFn) && !(l == kNew) && !(l == kCall)

/-- One of a list is there twice. -/
def dup {α : Type} [BEq α] : List α → Bool
  | [] => false
  | x :: r => r.contains x || dup r
def varB (P : ProgD) (k : Int) : Bool := decide (0 ≤ k) && decide (k < (P.vars.length : Int))
def funB (P : ProgD) (k : Int) : Bool := decide (0 ≤ k) && decide (k < (P.funs.length : Int))

/-- An error: which of the eleven, and where (-1: nowhere). -/
abbrev ErrD := Option (Nat × Int)

def yB (P : ProgD) (s : StmtD) : Bool := if s.kind == kFun then funB P s.y else if s.kind == kNew then true else varB P s.y
def kinds : List Bs := [kAddr, kCopy, kLoad, kStore, kNew, kFun, kCall]
def stmtE (P : ProgD) (s : StmtD) : Option Nat :=
  if !kinds.contains s.kind then some 3
  else if !varB P s.x || !yB P s || !s.args.all (varB P) then some 1
  else if s.kind == kCall && decide (3 < s.args.length) then some 8
  else if (!(s.kind == kCall) && !s.args.isEmpty) || (s.kind == kNew && !(s.y == 0)) then some 2
  else none
def stmtsE (P : ProgD) (k : Nat) : List StmtD → ErrD
  | [] => none
  | s :: r => match stmtE P s with
    | some e => some (e, (k : Int))
    | none => stmtsE P (k + 1) r
def namesE (vs fs : List Bs) : Option Nat := if !vs.all isNm || !fs.all isNm then some 4 else if dup vs || dup fs then some 6 else none
def funsE (P : ProgD) : Option Nat :=
  if !P.funs.all (fun f => decide (f.params.length ≤ 3)) then some 8
  else if !P.funs.all (fun f => f.params.all (varB P) && varB P f.ret) then some 1
  else if !P.funs.all (fun f => !dup f.params) then some 6
  else none
def fullB (P : ProgD) : Bool := decide (40 < P.vars.length) || decide (6 < P.funs.length) || decide (80 < P.stmts.length)
def fnames (P : ProgD) : List Bs := P.funs.map (·.name)
/-- Check. -/
def checkE (P : ProgD) : ErrD :=
  if fullB P then some (7, -1)
  else match namesE P.vars (fnames P) with
    | some e => some (e, -1)
    | none => match funsE P with
      | some e => some (e, -1)
      | none => stmtsE P 0 P.stmts

/-- The first object behind the variables and the places of these statements. -/
def places (P : ProgD) (k : Nat) : Nat := P.vars.length + ((P.stmts.take k).filter (fun s => s.kind == kNew)).length

def nameOf (P : ProgD) (k : Int) : Bs := P.vars.getD k.toNat []
def funOf (P : ProgD) (k : Int) : Bs := (fnames P).getD k.toNat []
def sep : Bs := [44, 32]
def namesT (P : ProgD) (l : List Int) : Bs := [40] ++ Lib.join (l.map (nameOf P)) sep ++ [41]
def lineVar (v : Bs) : Bs := [118, 97, 114, 32] ++ v
def lineFun (P : ProgD) (f : FunD) : Bs := [102, 110, 32] ++ f.name ++ namesT P f.params ++ [32] ++ nameOf P f.ret
def eqs : Bs := [32, 61, 32]
def lineStmt (P : ProgD) (s : StmtD) : Bs :=
  if s.kind == kAddr then nameOf P s.x ++ [32, 61, 32, 38] ++ nameOf P s.y
  else if s.kind == kLoad then nameOf P s.x ++ [32, 61, 32, 42] ++ nameOf P s.y
  else if s.kind == kStore then [42] ++ nameOf P s.x ++ [32, 61, 32] ++ nameOf P s.y
  else if s.kind == kNew then nameOf P s.x ++ [32, 61, 32, 110, 101, 119]
  else if s.kind == kFun then nameOf P s.x ++ [32, 61, 32, 102, 110, 32] ++ funOf P s.y
  else if s.kind == kCall then nameOf P s.x ++ [32, 61, 32, 99, 97, 108, 108, 32] ++ nameOf P s.y ++ namesT P s.args
  else nameOf P s.x ++ [32, 61, 32] ++ nameOf P s.y
def ended (ls : List Bs) : Bs := (ls.map (· ++ [10])).flatten
def textP (P : ProgD) : Bs := ended (P.vars.map lineVar) ++ ended (P.funs.map (lineFun P)) ++ ended (P.stmts.map (lineStmt P))

/-- The first place of a text in a list. -/
def idxFrom (i : Nat) : List Bs → Bs → Int
  | [], _ => -1
  | z :: r, x => if z = x then (i : Int) else idxFrom (i + 1) r x
def idx (l : List Bs) (x : Bs) : Int := idxFrom 0 l x

/-- What cutList tells: the name, the names in brackets, what is behind, is it one. -/
def listN (s : Bs) : Bs := (Lib.cut s [40]).1
def listI (s : Bs) : Bs := (Lib.cut (Lib.cut s [40]).2.1 [41]).1
def listL (s : Bs) : List Bs := if (listI s).isEmpty then [] else Lib.split (listI s) sep
def listB (s : Bs) : Bs := (Lib.cut (Lib.cut s [40]).2.1 [41]).2.1
def listOk (s : Bs) : Bool := (Lib.cut s [40]).2.2 && (Lib.cut (Lib.cut s [40]).2.1 [41]).2.2 && isNm (listN s) && (listL s).all isNm

/-- A statement whose names are not looked for yet. -/
structure SentD where
  kind : Bs
  x : Bs
  y : Bs
  args : List Bs
def rightD (r : Bs) : SentD × Bool :=
  if r == kNew then (⟨kNew, [], [], []⟩, true)
  else if Lib.hasPrefix r [99, 97, 108, 108, 32] then
    (⟨kCall, [], listN (Lib.trimPrefix r [99, 97, 108, 108, 32]), listL (Lib.trimPrefix r [99, 97, 108, 108, 32])⟩, listOk (Lib.trimPrefix r [99, 97, 108, 108, 32]) && (listB (Lib.trimPrefix r [99, 97, 108, 108, 32])).isEmpty)
  else if Lib.hasPrefix r [38] then (⟨kAddr, [], Lib.trimPrefix r [38], []⟩, isNm (Lib.trimPrefix r [38]))
  else if Lib.hasPrefix r [42] then (⟨kLoad, [], Lib.trimPrefix r [42], []⟩, isNm (Lib.trimPrefix r [42]))
  else if Lib.hasPrefix r [102, 110, 32] then (⟨kFun, [], Lib.trimPrefix r [102, 110, 32], []⟩, isNm (Lib.trimPrefix r [102, 110, 32]))
  else (⟨kCopy, [], r, []⟩, isNm r)
def parseD (line : Bs) : SentD × Bool :=
  if Lib.hasPrefix (Lib.cut line eqs).1 [42] then
    (⟨kStore, Lib.trimPrefix (Lib.cut line eqs).1 [42], (Lib.cut line eqs).2.1, []⟩, isNm (Lib.trimPrefix (Lib.cut line eqs).1 [42]) && isNm (Lib.cut line eqs).2.1)
  else ({ (rightD (Lib.cut line eqs).2.1).1 with x := (Lib.cut line eqs).1 }, (rightD (Lib.cut line eqs).2.1).2 && isNm (Lib.cut line eqs).1)

def readVarD (P : ProgD) (name : Bs) : ProgD × Option Nat :=
  if !isNm name || !P.funs.isEmpty || !P.stmts.isEmpty then (P, some 0) else ({ P with vars := P.vars ++ [name] }, none)
def readFunD (P : ProgD) (rest : Bs) : ProgD × Option Nat :=
  if !listOk rest || !Lib.hasPrefix (listB rest) [32] || !isNm (Lib.trimPrefix (listB rest) [32]) || !P.stmts.isEmpty then (P, some 0)
  else if ((listL rest).map (idx P.vars)).contains (-1) || idx P.vars (Lib.trimPrefix (listB rest) [32]) == -1 then (P, some 5)
  else ({ P with funs := P.funs ++ [⟨listN rest, (listL rest).map (idx P.vars), idx P.vars (Lib.trimPrefix (listB rest) [32])⟩] }, none)
def sentY (P : ProgD) (w : SentD) : Int := if w.kind == kNew then 0 else if w.kind == kFun then idx (fnames P) w.y else idx P.vars w.y
def sentS (P : ProgD) (w : SentD) : StmtD := ⟨w.kind, idx P.vars w.x, sentY P w, w.args.map (idx P.vars)⟩
def readStmtD (P : ProgD) (line : Bs) : ProgD × Option Nat :=
  if !(parseD line).2 then (P, some 0)
  else if (sentS P (parseD line).1).x == -1 || (sentS P (parseD line).1).y == -1 || (sentS P (parseD line).1).args.contains (-1) then (P, some 5)
  else ({ P with stmts := P.stmts ++ [sentS P (parseD line).1] }, none)
def readLineD (P : ProgD) (line : Bs) : ProgD × Option Nat :=
  if Lib.hasPrefix line [118, 97, 114, 32] then readVarD P (Lib.trimPrefix line [118, 97, 114, 32])
  else if Lib.hasPrefix line [102, 110, 32] then readFunD P (Lib.trimPrefix line [102, 110, 32])
  else readStmtD P line

/-- The lines of a text that end, and what is behind them. -/
def linesOf : Bs → List Bs × Bs
  | [] => ([], [])
  | c :: r => if c = 10 then ([] :: (linesOf r).1, (linesOf r).2) else match (linesOf r).1 with
    | [] => ([], c :: (linesOf r).2)
    | l :: ls => ((c :: l) :: ls, (linesOf r).2)
def goLines (P : ProgD) (k : Nat) (rest : Bs) : List Bs → ProgD × ErrD
  | [] => if rest.isEmpty then (P, none) else (P, some (0, (k : Int)))
  | l :: ls => match (readLineD P l).2 with
    | some e => ((readLineD P l).1, some (e, (k : Int)))
    | none => goLines (readLineD P l).1 (k + 1) rest ls
def linesD (P : ProgD) (k : Nat) (s : Bs) : ProgD × ErrD := goLines P k (linesOf s).2 (linesOf s).1
def bareE (e : ErrD) : ErrD := e.map fun x => (x.1, -1)
/-- Read. -/
def readD (s : Bs) : ProgD × ErrD :=
  if 4000 < s.length then (noProg, some (1, -1))
  else match (linesD noProg 0 s).2 with
    | some e => (noProg, some e)
    | none => match checkE (linesD noProg 0 s).1 with
      | some e => (noProg, bareE (some e))
      | none => ((linesD noProg 0 s).1, none)
end Go.Proofs.YtglonlpfnllocaaGreatDoor

/-
  A program is read as it was written: plain facts about texts. No program of Go in this text.
-/
namespace Go.Proofs.YtglonlpfnllocaaGreatDoor
open Go

theorem pre_self (p s : Bs) : Lib.hasPrefix (p ++ s) p = true := List.isPrefixOf_iff_prefix.2 (List.prefix_append _ _)
theorem trim_self (p s : Bs) : Lib.trimPrefix (p ++ s) p = s := by
  unfold Lib.trimPrefix
  rw [pre_self]; simp
theorem pre_false {p s : Bs} (h : ∀ r, s ≠ p ++ r) : Lib.hasPrefix s p = false := by
  cases e : Lib.hasPrefix s p with
  | false => rfl
  | true =>
    obtain ⟨r, hr⟩ := List.isPrefixOf_iff_prefix.1 e
    exact absurd hr.symm (h r)
theorem trim_false {p s : Bs} (h : Lib.hasPrefix s p = false) : Lib.trimPrefix s p = s := by
  unfold Lib.trimPrefix
  rw [h]; rfl

theorem occ_here (a sb b : Bs) : Lib.occAt (a ++ sb ++ b) sb a.length = true := by
  unfold Lib.occAt
  rw [List.append_assoc, List.drop_left]
  exact List.isPrefixOf_iff_prefix.2 (List.prefix_append _ _)
theorem occ_not (c : UInt8) (t a b : Bs) (h : c ∉ a) (j : Nat) (hj : j < a.length) : Lib.occAt (a ++ b) (c :: t) j = false := by
  cases e : Lib.occAt (a ++ b) (c :: t) j with
  | false => rfl
  | true =>
    have := Lib.occAt_head (s := a ++ b) (sub := c :: t) (i := j) rfl e
    rw [List.getElem?_append_left hj] at this
    exact absurd (List.mem_of_getElem? this) h
theorem index_at (c : UInt8) (t a b : Bs) (h : c ∉ a) : Lib.index (a ++ (c :: t) ++ b) (c :: t) = a.length := by
  refine Lib.index_first (by simp) (occ_here a (c :: t) b) (fun j hj => ?_)
  rw [List.append_assoc]
  exact occ_not c t a _ h j hj
theorem index_no (c : UInt8) (t a : Bs) (h : c ∉ a) : Lib.index a (c :: t) = -1 := by
  refine Lib.index_none (fun j hj => ?_)
  cases e : Lib.occAt a (c :: t) j with
  | false => rfl
  | true => exact absurd (List.mem_of_getElem? (Lib.occAt_head (s := a) (sub := c :: t) (i := j) rfl e)) h
theorem cut_at (c : UInt8) (t a b : Bs) (h : c ∉ a) : Lib.cut (a ++ (c :: t) ++ b) (c :: t) = (a, b, true) := by
  unfold Lib.cut
  rw [index_at c t a b h, if_pos (by omega)]
  have h1 : (a ++ (c :: t) ++ b).take ((a.length : Int)).toNat = a := by
    rw [Int.toNat_natCast, List.append_assoc, List.take_left]
  have h2 : (a ++ (c :: t) ++ b).drop (((a.length : Int)).toNat + (c :: t).length) = b := by
    rw [Int.toNat_natCast, show a.length + (c :: t).length = (a ++ (c :: t)).length by simp, List.drop_left]
  rw [h1, h2]
theorem cut_no (c : UInt8) (t a : Bs) (h : c ∉ a) : Lib.cut a (c :: t) = (a, [], false) := by
  unfold Lib.cut
  rw [index_no c t a h, if_neg (by omega)]

/-- A byte's first place. -/
theorem split_first (c : UInt8) (s : Bs) : c ∉ s ∨ ∃ a b, s = a ++ c :: b ∧ c ∉ a := by
  induction s with
  | nil => left; simp
  | cons x r ih =>
    by_cases hx : x = c
    · right; exact ⟨[], r, by rw [hx]; rfl, by simp⟩
    · rcases ih with h | ⟨a, b, rfl, h⟩
      · left; intro e; rcases List.mem_cons.1 e with g | g
        · exact hx g.symm
        · exact h g
      · right
        refine ⟨x :: a, b, rfl, ?_⟩
        intro e; rcases List.mem_cons.1 e with g | g
        · exact hx g.symm
        · exact h g

theorem linesOf_no (s : Bs) (h : (10 : UInt8) ∉ s) : linesOf s = ([], s) := by
  induction s with
  | nil => rfl
  | cons x r ih =>
    have hx : x ≠ 10 := fun e => h (by rw [e]; exact List.mem_cons_self ..)
    have := ih (fun e => h (List.mem_cons_of_mem _ e))
    rw [linesOf, if_neg hx, this]
theorem linesOf_at (a b : Bs) (h : (10 : UInt8) ∉ a) : linesOf (a ++ 10 :: b) = (a :: (linesOf b).1, (linesOf b).2) := by
  induction a with
  | nil => rw [List.nil_append, linesOf, if_pos rfl]
  | cons x r ih =>
    have hx : x ≠ 10 := fun e => h (by rw [e]; exact List.mem_cons_self ..)
    have := ih (fun e => h (List.mem_cons_of_mem _ e))
    rw [List.cons_append, linesOf, if_neg hx, this]
theorem linesOf_ended (ls : List Bs) (s : Bs) (h : ∀ l ∈ ls, (10 : UInt8) ∉ l) : linesOf (ended ls ++ s) = (ls ++ (linesOf s).1, (linesOf s).2) := by
  induction ls with
  | nil => rfl
  | cons l r ih =>
    have h1 := ih (fun x hx => h x (List.mem_cons_of_mem _ hx))
    have h2 : ended (l :: r) ++ s = l ++ 10 :: (ended r ++ s) := by simp [ended]
    rw [h2, linesOf_at l _ (h l (List.mem_cons_self ..)), h1]
    rfl

/-- A name's letters. -/
def nmC (c : UInt8) : Bool := isLet c || isDig c
theorem isNm_parts {l : Bs} (h : isNm l = true) : l ≠ [] ∧ (∀ c ∈ l, nmC c = true) ∧ l ≠ kVar ∧ l ≠ kFn ∧ l ≠ kNew ∧ l ≠ kCall ∧ l.length ≤ 8 ∧ isLet (l.headD 0) = true := by
  unfold isNm at h
  simp only [Bool.and_eq_true, Bool.not_eq_true', decide_eq_true_eq, List.all_eq_true] at h
  obtain ⟨⟨⟨⟨⟨⟨⟨h1, h2⟩, h3⟩, h4⟩, h5⟩, h6⟩, h7⟩, h8⟩ := h
  refine ⟨fun e => by rw [e] at h1; exact absurd h1 (by decide), h4, ?_, ?_, ?_, ?_, h2, h3⟩
  · exact fun e => by rw [e] at h5; exact absurd h5 (by decide)
  · exact fun e => by rw [e] at h6; exact absurd h6 (by decide)
  · exact fun e => by rw [e] at h7; exact absurd h7 (by decide)
  · exact fun e => by rw [e] at h8; exact absurd h8 (by decide)
theorem isNm_not {l : Bs} (h : isNm l = true) (c : UInt8) (hc : nmC c = false) : c ∉ l := fun e => by
  have := (isNm_parts h).2.1 c e
  rw [hc] at this; cases this
theorem isNm_nil : isNm [] = false := rfl

theorem first_eq (c : UInt8) (p x r q : Bs) (hp : c ∉ p) (hx : c ∉ x) (h : x ++ c :: r = p ++ c :: q) : p = x := by
  induction p generalizing x with
  | nil =>
    cases x with
    | nil => rfl
    | cons a x =>
      have : a = c := (List.cons.inj h).1
      exact absurd (by rw [this]; exact List.mem_cons_self ..) hx
  | cons b p ih =>
    cases x with
    | nil =>
      have : c = b := (List.cons.inj h).1
      exact absurd (by rw [this]; exact List.mem_cons_self ..) hp
    | cons a x =>
      obtain ⟨h1, h2⟩ := List.cons.inj h
      rw [h1, ih x (fun e => hp (List.mem_cons_of_mem _ e)) (fun e => hx (List.mem_cons_of_mem _ e)) h2]

/-- A line that begins with a name and a blank is none of var and fn. -/
theorem line_var {x r : Bs} (h : isNm x = true) : Lib.hasPrefix (x ++ 32 :: r) [118, 97, 114, 32] = false := by
  refine pre_false (fun q e => ?_)
  have := first_eq 32 kVar x r q (by decide) (isNm_not h 32 (by decide)) (by rw [e]; rfl)
  exact (isNm_parts h).2.2.1 this.symm
theorem line_fn {x r : Bs} (h : isNm x = true) : Lib.hasPrefix (x ++ 32 :: r) [102, 110, 32] = false := by
  refine pre_false (fun q e => ?_)
  have := first_eq 32 kFn x r q (by decide) (isNm_not h 32 (by decide)) (by rw [e]; rfl)
  exact (isNm_parts h).2.2.2.1 this.symm
theorem pre_head {x : Bs} (h : isNm x = true) (c : UInt8) (hc : nmC c = false) (r t : Bs) : Lib.hasPrefix (x ++ r) (c :: t) = false := by
  refine pre_false (fun q e => ?_)
  cases x with
  | nil => cases h
  | cons a x =>
    have ha : a = c := (List.cons.inj e).1
    exact isNm_not h c hc (by rw [ha]; exact List.mem_cons_self ..)
theorem pre_name {x : Bs} (h : isNm x = true) (p : Bs) (c : UInt8) (hc : nmC c = false) (hp : c ∈ p) : Lib.hasPrefix x p = false := by
  refine pre_false (fun q e => ?_)
  exact isNm_not h c hc (by rw [e]; exact List.mem_append_left _ hp)

theorem idxFrom_at (i : Nat) (l : List Bs) (k : Nat) (hk : k < l.length) (hd : dup l = false) : idxFrom i l (l.getD k []) = ((i + k : Nat) : Int) := by
  induction l generalizing i k with
  | nil => exact absurd hk (Nat.not_lt_zero _)
  | cons z r ih =>
    unfold dup at hd
    rw [Bool.or_eq_false_iff] at hd
    cases k with
    | zero => simp [idxFrom]
    | succ k =>
      have hk' : k < r.length := by simpa using hk
      have hne : z ≠ r.getD k [] := fun e => by
        have : r.contains z = true := by
          rw [List.contains_iff_mem, e]
          simp [List.getD, hk']
        rw [hd.1] at this; cases this
      have h2 : (z :: r).getD (k + 1) [] = r.getD k [] := by simp [List.getD]
      rw [h2, idxFrom, if_neg hne, ih (i + 1) k hk' hd.2]
      congr 1; omega
theorem idx_at (l : List Bs) (k : Int) (h0 : 0 ≤ k) (hk : k < l.length) (hd : dup l = false) : idx l (l.getD k.toNat []) = k := by
  unfold idx
  rw [idxFrom_at 0 l k.toNat (by omega) hd]
  omega

theorem all_at {α : Type} {p : α → Bool} {l : List α} (h : l.all p = true) (k : Nat) (d : α) (hk : k < l.length) : p (l.getD k d) = true := by
  have := List.all_eq_true.1 h l[k] (List.getElem_mem hk)
  simpa [List.getD, hk] using this

/-- What a right program is. -/
structure Right (P : ProgD) : Prop where
  vn : P.vars.all isNm = true
  fn : (fnames P).all isNm = true
  vd : dup P.vars = false
  fd : dup (fnames P) = false
  fp : ∀ f ∈ P.funs, f.params.all (varB P) = true ∧ varB P f.ret = true
  st : ∀ s ∈ P.stmts, stmtE P s = none
theorem stmtsE_none (P : ProgD) : ∀ (l : List StmtD) (k : Nat), stmtsE P k l = none → ∀ s ∈ l, stmtE P s = none
  | [], _, _, s, hs => by cases hs
  | t :: r, k, h, s, hs => by
    unfold stmtsE at h
    cases e : stmtE P t with
    | some x => rw [e] at h; cases h
    | none =>
      rw [e] at h
      rcases List.mem_cons.1 hs with g | g
      · rw [g]; exact e
      · exact stmtsE_none P r (k + 1) h s g
theorem right_of {P : ProgD} (h : checkE P = none) : Right P := by
  unfold checkE at h
  by_cases hf : fullB P = true
  · rw [if_pos hf] at h; cases h
  rw [if_neg hf] at h
  cases hn : namesE P.vars (fnames P) with
  | some e => rw [hn] at h; cases h
  | none =>
    rw [hn] at h
    cases hu : funsE P with
    | some e => rw [hu] at h; cases h
    | none =>
      rw [hu] at h
      unfold namesE at hn
      split at hn
      · cases hn
      rename_i h1
      split at hn
      · cases hn
      rename_i h2
      unfold funsE at hu
      split at hu
      · cases hu
      split at hu
      · cases hu
      rename_i h3
      simp only [Bool.or_eq_true, Bool.not_eq_true', not_or, Bool.not_eq_false, Bool.not_eq_true] at h1 h2 h3
      refine ⟨h1.1, h1.2, h2.1, h2.2, fun f hf => ?_, stmtsE_none P _ 0 h⟩
      have := List.all_eq_true.1 h3 f hf
      rwa [Bool.and_eq_true] at this
theorem varB_parts {P : ProgD} {k : Int} (h : varB P k = true) : 0 ≤ k ∧ k < (P.vars.length : Int) := by
  unfold varB at h
  simpa using h
theorem funB_parts {P : ProgD} {k : Int} (h : funB P k = true) : 0 ≤ k ∧ k < (P.funs.length : Int) := by
  unfold funB at h
  simpa using h
theorem Right.name {P : ProgD} (h : Right P) {k : Int} (hk : varB P k = true) : isNm (nameOf P k) = true := by
  have := varB_parts hk
  exact all_at h.vn k.toNat [] (by omega)
theorem Right.idx {P : ProgD} (h : Right P) {k : Int} (hk : varB P k = true) : idx P.vars (nameOf P k) = k := by
  have := varB_parts hk
  exact idx_at _ k this.1 this.2 h.vd
theorem Right.fname {P : ProgD} (h : Right P) {k : Int} (hk : funB P k = true) : isNm (funOf P k) = true := by
  have := funB_parts hk
  exact all_at h.fn k.toNat [] (by unfold fnames; rw [List.length_map]; omega)
theorem Right.fidx {P : ProgD} (h : Right P) {k : Int} (hk : funB P k = true) : Go.Proofs.YtglonlpfnllocaaGreatDoor.idx (fnames P) (funOf P k) = k := by
  have := funB_parts hk
  exact idx_at _ k this.1 (by unfold fnames; rw [List.length_map]; exact this.2) h.fd

/-- The names in brackets, cut again. -/
theorem join_split (x : Bs) (r : List Bs) (h : ∀ y ∈ x :: r, (44 : UInt8) ∉ y) : Lib.split (Lib.join (x :: r) sep) sep = x :: r := by
  have key : ∀ (r : List Bs) (x : Bs), (∀ y ∈ x :: r, (44 : UInt8) ∉ y) → Lib.count (x ++ Lib.joinTail sep r) sep = r.length ∧ Lib.splitK sep 0 r.length (x ++ Lib.joinTail sep r) = x :: r := by
    intro r
    induction r with
    | nil =>
      intro x h
      have h1 : Lib.index (x ++ Lib.joinTail sep []) sep = -1 := by
        have : x ++ Lib.joinTail sep [] = x := by simp [Lib.joinTail]
        rw [this]; exact index_no 44 [32] x (h x (List.mem_cons_self ..))
      refine ⟨Lib.count_miss h1, ?_⟩
      show [x ++ Lib.joinTail sep []] = [x]
      simp [Lib.joinTail]
    | cons y r ih =>
      intro x h
      have h0 : x ++ Lib.joinTail sep (y :: r) = x ++ sep ++ (y ++ Lib.joinTail sep r) := by simp [Lib.joinTail]
      have h1 : Lib.index (x ++ Lib.joinTail sep (y :: r)) sep = (x.length : Int) := by
        rw [h0]; exact index_at 44 [32] x _ (h x (List.mem_cons_self ..))
      obtain ⟨i1, i2⟩ := ih y (fun z hz => h z (List.mem_cons_of_mem _ hz))
      have h2 : (x ++ Lib.joinTail sep (y :: r)).drop (x.length + sep.length) = y ++ Lib.joinTail sep r := by
        rw [h0, show x.length + sep.length = (x ++ sep).length by simp, List.drop_left]
      have h3 : (x ++ Lib.joinTail sep (y :: r)).take x.length = x := by
        rw [h0, List.append_assoc, List.take_left]
      constructor
      · rw [Lib.count_hit (by decide) h1, h2, i1, List.length_cons]; omega
      · rw [List.length_cons, Lib.splitK, if_neg (by rw [h1, beq_iff_eq]; omega), h1, Int.toNat_natCast, Nat.add_zero, h2, h3, i2]
  obtain ⟨h1, h2⟩ := key r x h
  rw [Lib.join_cons]
  unfold Lib.split
  rw [h1, h2]

theorem join_no (c : UInt8) (ls : List Bs) (hc : c ≠ 44) (hc2 : c ≠ 32) (h : ∀ y ∈ ls, c ∉ y) : c ∉ Lib.join ls sep := by
  cases ls with
  | nil => simp [Lib.join_nil]
  | cons x r =>
    rw [Lib.join_cons]
    intro e
    rcases List.mem_append.1 e with g | g
    · exact h x (List.mem_cons_self ..) g
    · unfold Lib.joinTail at g
      obtain ⟨l, hl, hcl⟩ := List.mem_flatten.1 g
      obtain ⟨y, hy, rfl⟩ := List.mem_map.1 hl
      rcases List.mem_append.1 hcl with q | q
      · have : c = 44 ∨ c = 32 := by simpa [sep] using q
        rcases this with t | t
        · exact hc t
        · exact hc2 t
      · exact h y (List.mem_cons_of_mem _ hy) q
theorem join_ne (x : Bs) (r : List Bs) (h : x ≠ []) : Lib.join (x :: r) sep ≠ [] := by
  rw [Lib.join_cons]
  intro e
  exact h (List.append_eq_nil_iff.1 e).1

/-- The text of a list of names: its parts. -/
theorem list_parts {P : ProgD} (hR : Right P) (n : Bs) (hn : isNm n = true) (l : List Int) (hl : l.all (varB P) = true) (b : Bs) :
    listN (n ++ namesT P l ++ b) = n ∧ listL (n ++ namesT P l ++ b) = l.map (nameOf P) ∧ listB (n ++ namesT P l ++ b) = b ∧ listOk (n ++ namesT P l ++ b) = true := by
  have hall : ∀ y ∈ l.map (nameOf P), isNm y = true := fun y hy => by
    obtain ⟨k, hk, rfl⟩ := List.mem_map.1 hy
    exact hR.name (List.all_eq_true.1 hl k hk)
  have e0 : n ++ namesT P l ++ b = n ++ [40] ++ (Lib.join (l.map (nameOf P)) sep ++ [41] ++ b) := by simp [namesT]
  have c1 : Lib.cut (n ++ namesT P l ++ b) [40] = (n, Lib.join (l.map (nameOf P)) sep ++ [41] ++ b, true) := by
    rw [e0]; exact cut_at 40 [] n _ (isNm_not hn 40 (by decide))
  have c2 : Lib.cut (Lib.join (l.map (nameOf P)) sep ++ [41] ++ b) [41] = (Lib.join (l.map (nameOf P)) sep, b, true) :=
    cut_at 41 [] _ b (join_no 41 _ (by decide) (by decide) (fun y hy => isNm_not (hall y hy) 41 (by decide)))
  have hL : listL (n ++ namesT P l ++ b) = l.map (nameOf P) := by
    unfold listL listI
    rw [c1, c2]
    cases hm : l.map (nameOf P) with
    | nil => rfl
    | cons x r =>
      have hx : x ≠ [] := (isNm_parts (hall x (by rw [hm]; exact List.mem_cons_self ..))).1
      have hne : (Lib.join (x :: r) sep).isEmpty = false := by
        rw [List.isEmpty_eq_false_iff]; exact join_ne x r hx
      show (if (Lib.join (x :: r) sep).isEmpty = true then [] else Lib.split (Lib.join (x :: r) sep) sep) = x :: r
      rw [hne]
      exact join_split x r (fun y hy => isNm_not (hall y (by rw [hm]; exact hy)) 44 (by decide))
  have hN : listN (n ++ namesT P l ++ b) = n := by unfold listN; rw [c1]
  refine ⟨hN, hL, ?_, ?_⟩
  · unfold listB; rw [c1, c2]
  · unfold listOk
    rw [hN, hL, c1, c2, hn, List.all_eq_true.2 hall]
    rfl

theorem map_idx {P : ProgD} (hR : Right P) (l : List Int) (hl : l.all (varB P) = true) : (l.map (nameOf P)).map (idx P.vars) = l := by
  rw [List.map_map]
  conv => rhs; rw [← List.map_id l]
  apply List.map_congr_left
  intro k hk
  exact hR.idx (List.all_eq_true.1 hl k hk)
theorem no_minus {P : ProgD} (l : List Int) (hl : l.all (varB P) = true) : l.contains (-1) = false := by
  cases e : l.contains (-1) with
  | false => rfl
  | true =>
    have := varB_parts (List.all_eq_true.1 hl (-1) (List.contains_iff_mem.1 e))
    omega
theorem ne_minus {P : ProgD} {k : Int} (h : varB P k = true) : (k == -1) = false := by
  have := varB_parts h
  rw [beq_eq_false_iff_ne]; omega

theorem read_var (V : List Bs) (v : Bs) (h : isNm v = true) : readLineD ⟨V, [], []⟩ (lineVar v) = (⟨V ++ [v], [], []⟩, none) := by
  unfold readLineD lineVar
  rw [pre_self, trim_self, if_pos rfl]
  unfold readVarD
  rw [h]; rfl
theorem read_fun {P : ProgD} (hR : Right P) (F : List FunD) (f : FunD) (hf : f ∈ P.funs) : readLineD ⟨P.vars, F, []⟩ (lineFun P f) = (⟨P.vars, F ++ [f], []⟩, none) := by
  have hn : isNm f.name = true := List.all_eq_true.1 hR.fn f.name (List.mem_map.2 ⟨f, hf, rfl⟩)
  obtain ⟨hp, hr⟩ := hR.fp f hf
  obtain ⟨q1, q2, q3, q4⟩ := list_parts hR f.name hn f.params hp ([32] ++ nameOf P f.ret)
  have e0 : lineFun P f = [102, 110, 32] ++ (f.name ++ namesT P f.params ++ ([32] ++ nameOf P f.ret)) := by simp [lineFun]
  have hv : Lib.hasPrefix (lineFun P f) [118, 97, 114, 32] = false := pre_false (fun r e => by
    rw [e0] at e
    exact absurd (List.cons.inj e).1 (by decide))
  unfold readLineD
  rw [hv, if_neg (by decide), e0, pre_self, trim_self, if_pos rfl]
  unfold readFunD
  have hidx : Go.Proofs.YtglonlpfnllocaaGreatDoor.idx P.vars (nameOf P f.ret) = f.ret := hR.idx hr
  have hmap := map_idx hR f.params hp
  rw [q1, q2, q3, q4, pre_self, trim_self, hR.name hr]
  have e1 : (!true || !true || !true || !(⟨P.vars, F, []⟩ : ProgD).stmts.isEmpty) = false := rfl
  rw [e1, if_neg (by decide)]
  show (if (((f.params.map (nameOf P)).map (idx P.vars)).contains (-1) || idx P.vars (nameOf P f.ret) == -1) = true then _ else _) = _
  rw [hmap, hidx, no_minus (P := P) _ hp, ne_minus hr, if_neg (by decide)]
theorem stmt_parts {P : ProgD} {s : StmtD} (h : stmtE P s = none) : kinds.contains s.kind = true ∧ varB P s.x = true ∧ yB P s = true ∧ s.args.all (varB P) = true ∧
    ((s.kind == kCall) = true → s.args.length ≤ 3) ∧ ((s.kind == kCall) = false → s.args = []) ∧ ((s.kind == kNew) = true → s.y = 0) := by
  unfold stmtE at h
  split at h
  · cases h
  rename_i h1
  split at h
  · cases h
  rename_i h2
  split at h
  · cases h
  rename_i h3
  split at h
  · cases h
  rename_i h4
  simp only [Bool.or_eq_true, Bool.not_eq_true', not_or, Bool.not_eq_false, Bool.and_eq_true, decide_eq_true_eq, not_and, List.isEmpty_iff, beq_iff_eq] at h1 h2 h3 h4
  refine ⟨h1, h2.1.1, h2.1.2, h2.2, fun g => ?_, fun g => ?_, fun g => ?_⟩
  · have := h3 (by simpa using g); omega
  · exact h4.1 g
  · exact h4.2 (by simpa using g)
end Go.Proofs.YtglonlpfnllocaaGreatDoor

/-
  A program is read as it was written: statements, and the whole. No program of Go in this text.
-/
namespace Go.Proofs.YtglonlpfnllocaaGreatDoor
open Go

/-- A line whose left part is a name and whose right part is told. -/
theorem read_right {P : ProgD} (hR : Right P) (Q : List StmtD) (s : StmtD) (r : Bs) (hx : varB P s.x = true) (y : Bs) (l : List Bs)
    (hr : rightD r = (⟨s.kind, [], y, l⟩, true)) (hy : sentY P ⟨s.kind, nameOf P s.x, y, l⟩ = s.y) (hy1 : (s.y == -1) = false) (hl : l.map (idx P.vars) = s.args) (ha : s.args.contains (-1) = false) :
    readLineD ⟨P.vars, P.funs, Q⟩ (nameOf P s.x ++ eqs ++ r) = (⟨P.vars, P.funs, Q ++ [s]⟩, none) := by
  have hn : isNm (nameOf P s.x) = true := hR.name hx
  have hc : Lib.cut (nameOf P s.x ++ eqs ++ r) eqs = (nameOf P s.x, r, true) := cut_at 32 [61, 32] _ r (isNm_not hn 32 (by decide))
  have e0 : nameOf P s.x ++ eqs ++ r = nameOf P s.x ++ 32 :: ([61, 32] ++ r) := by simp [eqs]
  unfold readLineD
  rw [e0, line_var hn, line_fn hn, if_neg (by decide), if_neg (by decide), ← e0]
  have hp : parseD (nameOf P s.x ++ eqs ++ r) = (⟨s.kind, nameOf P s.x, y, l⟩, true) := by
    unfold parseD
    rw [hc]
    have h1 : Lib.hasPrefix (nameOf P s.x) [42] = false := pre_name hn _ 42 (by decide) (by decide)
    show (if Lib.hasPrefix (nameOf P s.x) [42] = true then _ else _) = _
    rw [h1, if_neg (by decide), hr, hn]
    rfl
  have hs : sentS ⟨P.vars, P.funs, Q⟩ ⟨s.kind, nameOf P s.x, y, l⟩ = s := by
    show StmtD.mk s.kind (idx P.vars (nameOf P s.x)) (sentY P ⟨s.kind, nameOf P s.x, y, l⟩) (l.map (idx P.vars)) = s
    rw [hR.idx hx, hy, hl]
  unfold readStmtD
  rw [hp]
  show (if (!true) = true then _ else if ((sentS ⟨P.vars, P.funs, Q⟩ ⟨s.kind, nameOf P s.x, y, l⟩).x == -1 || (sentS ⟨P.vars, P.funs, Q⟩ ⟨s.kind, nameOf P s.x, y, l⟩).y == -1 || (sentS ⟨P.vars, P.funs, Q⟩ ⟨s.kind, nameOf P s.x, y, l⟩).args.contains (-1)) = true then _ else (_, none)) = _
  rw [hs, hy1, ha, ne_minus hx, if_neg (by decide), if_neg (by decide)]

theorem name_ne_new {x : Bs} (h : isNm x = true) : (x == kNew) = false := beq_eq_false_iff_ne.2 (isNm_parts h).2.2.2.2.1
theorem head_ne {x : Bs} {c d : UInt8} {t : Bs} (h : c ≠ d) : Lib.hasPrefix (c :: x) (d :: t) = false := pre_false (fun _ e => h (List.cons.inj e).1)
theorem right_addr (y : Bs) (h : isNm y = true) : rightD (38 :: y) = (⟨kAddr, [], y, []⟩, true) := by
  unfold rightD
  have e1 : ((38 :: y : Bs) == kNew) = false := beq_eq_false_iff_ne.2 fun e => absurd (List.cons.inj e).1 (by decide)
  have e2 : Lib.hasPrefix (38 :: y) [99, 97, 108, 108, 32] = false := head_ne (by decide)
  have e3 : Lib.hasPrefix (38 :: y) [38] = true := pre_self [38] y
  have e4 : Lib.trimPrefix (38 :: y) [38] = y := trim_self [38] y
  rw [e1, e2, e3, e4, h]; rfl
theorem right_load (y : Bs) (h : isNm y = true) : rightD (42 :: y) = (⟨kLoad, [], y, []⟩, true) := by
  unfold rightD
  have e1 : ((42 :: y : Bs) == kNew) = false := beq_eq_false_iff_ne.2 fun e => absurd (List.cons.inj e).1 (by decide)
  have e2 : Lib.hasPrefix (42 :: y) [99, 97, 108, 108, 32] = false := head_ne (by decide)
  have e3 : Lib.hasPrefix (42 :: y) [38] = false := head_ne (by decide)
  have e4 : Lib.hasPrefix (42 :: y) [42] = true := pre_self [42] y
  have e5 : Lib.trimPrefix (42 :: y) [42] = y := trim_self [42] y
  rw [e1, e2, e3, e4, e5, h]; rfl
theorem right_fun (y : Bs) (h : isNm y = true) : rightD ([102, 110, 32] ++ y) = (⟨kFun, [], y, []⟩, true) := by
  unfold rightD
  have e1 : (([102, 110, 32] ++ y : Bs) == kNew) = false := beq_eq_false_iff_ne.2 fun e => absurd (List.cons.inj e).1 (by decide)
  have e2 : Lib.hasPrefix ([102, 110, 32] ++ y) [99, 97, 108, 108, 32] = false := head_ne (by decide)
  have e3 : Lib.hasPrefix ([102, 110, 32] ++ y) [38] = false := head_ne (by decide)
  have e4 : Lib.hasPrefix ([102, 110, 32] ++ y) [42] = false := head_ne (by decide)
  rw [e1, e2, e3, e4, pre_self, trim_self, h]; rfl
theorem right_copy (y : Bs) (h : isNm y = true) : rightD y = (⟨kCopy, [], y, []⟩, true) := by
  unfold rightD
  have e2 : Lib.hasPrefix y [99, 97, 108, 108, 32] = false := pre_name h _ 32 (by decide) (by decide)
  have e3 : Lib.hasPrefix y [38] = false := pre_name h _ 38 (by decide) (by decide)
  have e4 : Lib.hasPrefix y [42] = false := pre_name h _ 42 (by decide) (by decide)
  have e5 : Lib.hasPrefix y [102, 110, 32] = false := pre_name h _ 32 (by decide) (by decide)
  rw [name_ne_new h, e2, e3, e4, e5, h]; rfl
theorem right_call {P : ProgD} (hR : Right P) (y : Bs) (h : isNm y = true) (l : List Int) (hl : l.all (varB P) = true) : rightD ([99, 97, 108, 108, 32] ++ (y ++ namesT P l)) = (⟨kCall, [], y, l.map (nameOf P)⟩, true) := by
  obtain ⟨q1, q2, q3, q4⟩ := list_parts hR y h l hl []
  rw [List.append_nil] at q1 q2 q3 q4
  unfold rightD
  have e1 : (([99, 97, 108, 108, 32] ++ (y ++ namesT P l) : Bs) == kNew) = false := beq_eq_false_iff_ne.2 fun e => absurd (List.cons.inj e).1 (by decide)
  rw [e1, pre_self, trim_self, q1, q2, q3, q4]; rfl

theorem kinds_cases {k : Bs} (h : kinds.contains k = true) : k = kAddr ∨ k = kCopy ∨ k = kLoad ∨ k = kStore ∨ k = kNew ∨ k = kFun ∨ k = kCall := by
  have := List.contains_iff_mem.1 h
  simpa [kinds] using this

theorem read_stmt {P : ProgD} (hR : Right P) (Q : List StmtD) (s : StmtD) (hs : stmtE P s = none) : readLineD ⟨P.vars, P.funs, Q⟩ (lineStmt P s) = (⟨P.vars, P.funs, Q ++ [s]⟩, none) := by
  obtain ⟨hk, hx, hy, ha, _, h0, hz⟩ := stmt_parts hs
  obtain ⟨k, x, y, args⟩ := s
  have hn : isNm (nameOf P x) = true := hR.name hx
  rcases kinds_cases hk with rfl | rfl | rfl | rfl | rfl | rfl | rfl
  · obtain rfl : args = [] := h0 rfl
    have hy' : varB P y = true := hy
    have e : lineStmt P ⟨kAddr, x, y, []⟩ = nameOf P x ++ eqs ++ (38 :: nameOf P y) := by
      show nameOf P x ++ [32, 61, 32, 38] ++ nameOf P y = _
      simp [eqs]
    rw [e]
    exact read_right hR Q ⟨kAddr, x, y, []⟩ _ hx (nameOf P y) [] (right_addr _ (hR.name hy')) (hR.idx hy') (ne_minus hy') rfl rfl
  · obtain rfl : args = [] := h0 rfl
    have hy' : varB P y = true := hy
    exact read_right hR Q ⟨kCopy, x, y, []⟩ _ hx (nameOf P y) [] (right_copy _ (hR.name hy')) (hR.idx hy') (ne_minus hy') rfl rfl
  · obtain rfl : args = [] := h0 rfl
    have hy' : varB P y = true := hy
    have e : lineStmt P ⟨kLoad, x, y, []⟩ = nameOf P x ++ eqs ++ (42 :: nameOf P y) := by
      show nameOf P x ++ [32, 61, 32, 42] ++ nameOf P y = _
      simp [eqs]
    rw [e]
    exact read_right hR Q ⟨kLoad, x, y, []⟩ _ hx (nameOf P y) [] (right_load _ (hR.name hy')) (hR.idx hy') (ne_minus hy') rfl rfl
  · obtain rfl : args = [] := h0 rfl
    have hy' : varB P y = true := hy
    have e : lineStmt P ⟨kStore, x, y, []⟩ = (42 :: nameOf P x) ++ eqs ++ nameOf P y := by
      show [42] ++ nameOf P x ++ [32, 61, 32] ++ nameOf P y = _
      simp [eqs]
    have hc : Lib.cut ((42 :: nameOf P x) ++ eqs ++ nameOf P y) eqs = (42 :: nameOf P x, nameOf P y, true) := cut_at 32 [61, 32] _ _ (by
      intro q
      rcases List.mem_cons.1 q with g | g
      · exact absurd g (by decide)
      · exact isNm_not hn 32 (by decide) g)
    have e1 : Lib.hasPrefix ((42 :: nameOf P x) ++ eqs ++ nameOf P y) [118, 97, 114, 32] = false := head_ne (by decide)
    have e2 : Lib.hasPrefix ((42 :: nameOf P x) ++ eqs ++ nameOf P y) [102, 110, 32] = false := head_ne (by decide)
    rw [e]
    unfold readLineD
    rw [e1, e2, if_neg (by decide), if_neg (by decide)]
    have hp : parseD ((42 :: nameOf P x) ++ eqs ++ nameOf P y) = (⟨kStore, nameOf P x, nameOf P y, []⟩, true) := by
      unfold parseD
      rw [hc]
      have h1 : Lib.hasPrefix (42 :: nameOf P x) [42] = true := pre_self [42] _
      have h2 : Lib.trimPrefix (42 :: nameOf P x) [42] = nameOf P x := trim_self [42] _
      show (if Lib.hasPrefix (42 :: nameOf P x) [42] = true then ((⟨kStore, Lib.trimPrefix (42 :: nameOf P x) [42], nameOf P y, []⟩ : SentD), isNm (Lib.trimPrefix (42 :: nameOf P x) [42]) && isNm (nameOf P y)) else _) = _
      rw [h1, h2, if_pos rfl, hn, hR.name hy']; rfl
    have hq : sentS ⟨P.vars, P.funs, Q⟩ ⟨kStore, nameOf P x, nameOf P y, []⟩ = ⟨kStore, x, y, []⟩ := by
      show StmtD.mk kStore (idx P.vars (nameOf P x)) (idx P.vars (nameOf P y)) [] = _
      rw [hR.idx hx, hR.idx hy']
    unfold readStmtD
    rw [hp]
    show (if (!true) = true then _ else if ((sentS ⟨P.vars, P.funs, Q⟩ ⟨kStore, nameOf P x, nameOf P y, []⟩).x == -1 || (sentS ⟨P.vars, P.funs, Q⟩ ⟨kStore, nameOf P x, nameOf P y, []⟩).y == -1 || (sentS ⟨P.vars, P.funs, Q⟩ ⟨kStore, nameOf P x, nameOf P y, []⟩).args.contains (-1)) = true then _ else (_, none)) = _
    rw [hq]
    show (if (!true) = true then _ else if (x == -1 || y == -1 || ([] : List Int).contains (-1)) = true then _ else (_, none)) = _
    rw [ne_minus hx, ne_minus hy']; rfl
  · obtain rfl : args = [] := h0 rfl
    obtain rfl : y = 0 := hz rfl
    have e : lineStmt P ⟨kNew, x, 0, []⟩ = nameOf P x ++ eqs ++ kNew := by
      show nameOf P x ++ [32, 61, 32, 110, 101, 119] = _
      simp [eqs, kNew]
    rw [e]
    exact read_right hR Q ⟨kNew, x, 0, []⟩ _ hx [] [] rfl rfl rfl rfl rfl
  · obtain rfl : args = [] := h0 rfl
    have hy' : funB P y = true := hy
    have e : lineStmt P ⟨kFun, x, y, []⟩ = nameOf P x ++ eqs ++ ([102, 110, 32] ++ funOf P y) := by
      show nameOf P x ++ [32, 61, 32, 102, 110, 32] ++ funOf P y = _
      simp [eqs]
    rw [e]
    refine read_right hR Q ⟨kFun, x, y, []⟩ _ hx (funOf P y) [] (right_fun _ (hR.fname hy')) (hR.fidx hy') ?_ rfl rfl
    have := funB_parts hy'
    rw [beq_eq_false_iff_ne]; show y ≠ -1; omega
  · have hy' : varB P y = true := hy
    have e : lineStmt P ⟨kCall, x, y, args⟩ = nameOf P x ++ eqs ++ ([99, 97, 108, 108, 32] ++ (nameOf P y ++ namesT P args)) := by
      show nameOf P x ++ [32, 61, 32, 99, 97, 108, 108, 32] ++ nameOf P y ++ namesT P args = _
      simp [eqs]
    rw [e]
    exact read_right hR Q ⟨kCall, x, y, args⟩ _ hx (nameOf P y) (args.map (nameOf P)) (right_call hR _ (hR.name hy') _ ha) (hR.idx hy') (ne_minus hy') (map_idx hR _ ha) (no_minus _ ha)

theorem goLines_app (P Q : ProgD) (k : Nat) (rest : Bs) (l : Bs) (ls : List Bs) (h : readLineD P l = (Q, none)) : goLines P k rest (l :: ls) = goLines Q (k + 1) rest ls := by
  rw [goLines, h]
theorem go_vars (V : List Bs) : ∀ (r : List Bs) (k : Nat) (rest : Bs) (ms : List Bs), r.all isNm = true → goLines ⟨V, [], []⟩ k rest (r.map lineVar ++ ms) = goLines ⟨V ++ r, [], []⟩ (k + r.length) rest ms := by
  intro r
  induction r generalizing V with
  | nil => intro k rest ms _; simp
  | cons v r ih =>
    intro k rest ms h
    rw [List.all_cons, Bool.and_eq_true] at h
    rw [List.map_cons, List.cons_append, goLines_app _ _ k rest _ _ (read_var V v h.1), ih (V ++ [v]) (k + 1) rest ms h.2]
    rw [List.append_assoc, List.length_cons]
    congr 1; omega
theorem go_funs {P : ProgD} (hR : Right P) (F : List FunD) : ∀ (r : List FunD) (k : Nat) (rest : Bs) (ms : List Bs), (∀ f ∈ r, f ∈ P.funs) → goLines ⟨P.vars, F, []⟩ k rest (r.map (lineFun P) ++ ms) = goLines ⟨P.vars, F ++ r, []⟩ (k + r.length) rest ms := by
  intro r
  induction r generalizing F with
  | nil => intro k rest ms _; simp
  | cons f r ih =>
    intro k rest ms h
    rw [List.map_cons, List.cons_append, goLines_app _ _ k rest _ _ (read_fun hR F f (h f (List.mem_cons_self ..))), ih (F ++ [f]) (k + 1) rest ms (fun g hg => h g (List.mem_cons_of_mem _ hg))]
    rw [List.append_assoc, List.length_cons]
    congr 1; omega
theorem go_stmts {P : ProgD} (hR : Right P) (S : List StmtD) : ∀ (r : List StmtD) (k : Nat) (rest : Bs) (ms : List Bs), (∀ s ∈ r, stmtE P s = none) → goLines ⟨P.vars, P.funs, S⟩ k rest (r.map (lineStmt P) ++ ms) = goLines ⟨P.vars, P.funs, S ++ r⟩ (k + r.length) rest ms := by
  intro r
  induction r generalizing S with
  | nil => intro k rest ms _; simp
  | cons s r ih =>
    intro k rest ms h
    rw [List.map_cons, List.cons_append, goLines_app _ _ k rest _ _ (read_stmt hR S s (h s (List.mem_cons_self ..))), ih (S ++ [s]) (k + 1) rest ms (fun g hg => h g (List.mem_cons_of_mem _ hg))]
    rw [List.append_assoc, List.length_cons]
    congr 1; omega

theorem no_append {c : UInt8} {a b : Bs} (h1 : c ∉ a) (h2 : c ∉ b) : c ∉ a ++ b := fun e => (List.mem_append.1 e).elim h1 h2
theorem namesT_no {P : ProgD} (hR : Right P) (l : List Int) (hl : l.all (varB P) = true) : (10 : UInt8) ∉ namesT P l := by
  unfold namesT
  refine no_append (no_append (by decide) (join_no 10 _ (by decide) (by decide) (fun y hy => ?_))) (by decide)
  obtain ⟨k, hk, rfl⟩ := List.mem_map.1 hy
  exact isNm_not (hR.name (List.all_eq_true.1 hl k hk)) 10 (by decide)
theorem lineFun_no {P : ProgD} (hR : Right P) (f : FunD) (hf : f ∈ P.funs) : (10 : UInt8) ∉ lineFun P f := by
  have hn : isNm f.name = true := List.all_eq_true.1 hR.fn f.name (List.mem_map.2 ⟨f, hf, rfl⟩)
  obtain ⟨hp, hr⟩ := hR.fp f hf
  unfold lineFun
  exact no_append (no_append (no_append (no_append (by decide) (isNm_not hn 10 (by decide))) (namesT_no hR _ hp)) (by decide)) (isNm_not (hR.name hr) 10 (by decide))
theorem lineStmt_no {P : ProgD} (hR : Right P) (s : StmtD) (hs : stmtE P s = none) : (10 : UInt8) ∉ lineStmt P s := by
  obtain ⟨hk, hx, hy, ha, _, h0, hz⟩ := stmt_parts hs
  obtain ⟨k, x, y, args⟩ := s
  have hn : (10 : UInt8) ∉ nameOf P x := isNm_not (hR.name hx) 10 (by decide)
  rcases kinds_cases hk with rfl | rfl | rfl | rfl | rfl | rfl | rfl
  · have hy' : (10 : UInt8) ∉ nameOf P y := isNm_not (hR.name (k := y) hy) 10 (by decide)
    exact no_append (no_append hn (by decide)) hy'
  · have hy' : (10 : UInt8) ∉ nameOf P y := isNm_not (hR.name (k := y) hy) 10 (by decide)
    exact no_append (no_append hn (by decide)) hy'
  · have hy' : (10 : UInt8) ∉ nameOf P y := isNm_not (hR.name (k := y) hy) 10 (by decide)
    exact no_append (no_append hn (by decide)) hy'
  · have hy' : (10 : UInt8) ∉ nameOf P y := isNm_not (hR.name (k := y) hy) 10 (by decide)
    exact no_append (no_append (no_append (a := [42]) (by decide) hn) (by decide)) hy'
  · exact no_append hn (by decide)
  · have hy' : (10 : UInt8) ∉ funOf P y := isNm_not (hR.fname (k := y) hy) 10 (by decide)
    exact no_append (no_append hn (by decide)) hy'
  · have hy' : (10 : UInt8) ∉ nameOf P y := isNm_not (hR.name (k := y) hy) 10 (by decide)
    exact no_append (no_append (no_append hn (by decide)) hy') (namesT_no hR _ ha)

/-- A program is read as it was written. -/
theorem read_text {P : ProgD} (h : checkE P = none) (hl : (textP P).length ≤ 4000) : readD (textP P) = (P, none) := by
  have hR := right_of h
  have hlines : linesOf (textP P) = (P.vars.map lineVar ++ (P.funs.map (lineFun P) ++ (P.stmts.map (lineStmt P) ++ [])), []) := by
    unfold textP
    rw [List.append_assoc, linesOf_ended _ _ ?_, linesOf_ended _ _ ?_, ← List.append_nil (ended (P.stmts.map (lineStmt P))), linesOf_ended _ _ ?_]
    · rfl
    · intro l hl2
      obtain ⟨s, hs, rfl⟩ := List.mem_map.1 hl2
      exact lineStmt_no hR s (hR.st s hs)
    · intro l hl2
      obtain ⟨f, hf, rfl⟩ := List.mem_map.1 hl2
      exact lineFun_no hR f hf
    · intro l hl2
      obtain ⟨v, hv, rfl⟩ := List.mem_map.1 hl2
      exact no_append (by decide) (isNm_not (List.all_eq_true.1 hR.vn v hv) 10 (by decide))
  have hgo : linesD noProg 0 (textP P) = (P, none) := by
    unfold linesD
    rw [hlines]
    show goLines ⟨[], [], []⟩ 0 [] _ = _
    rw [go_vars [] P.vars 0 [] _ hR.vn, List.nil_append, go_funs hR [] P.funs _ [] _ (fun _ h => h), List.nil_append, go_stmts hR [] P.stmts _ [] _ hR.st, List.nil_append]
    rfl
  unfold readD
  rw [if_neg (by omega), hgo]
  show (match checkE P with | some e => (noProg, bareE (some e)) | none => (P, none)) = _
  rw [h]
end Go.Proofs.YtglonlpfnllocaaGreatDoor

/-
  Programs as plain data: names, their check, their text, and how a text is read. No program of Go in this text.
-/
import Derived.Lib.Split
import Derived.Lib.SplitLaws
import Derived.Lib.Join
import Derived.Lib.Strings
import Derived.Lib.SlicesS
namespace Go.Proofs.YtimmkenmahagjaaGreatDoor
open Go

abbrev Bs := List UInt8
/-- A function of a program. -/
structure FunD where
  name : Bs
  params : List Int
  ret : Int
  deriving Inhabited
/-- A statement of a program. -/
structure StmtD where
  kind : Bs
  x : Int
  y : Int
  args : List Int
  deriving Inhabited
/-- A program. -/
structure ProgD where
  vars : List Bs
  funs : List FunD
  stmts : List StmtD
def noProg : ProgD := ⟨[], [], []⟩

def kVar : Bs := [118, 97, 114]
def kFn : Bs := [102, 110]
def kNew : Bs := [110, 101, 119]
def kCall : Bs := [99, 97, 108, 108]
def kAddr : Bs := [97, 100, 100, 114]
def kCopy : Bs := [99, 111, 112, 121]
def kLoad : Bs := [108, 111, 97, 100]
def kStore : Bs := [115, 116, 111, 114, 101]
def kFun : Bs := [102, 117, 110]

def isLet (c : UInt8) : Bool := decide (97 ≤ c.toNat) && decide (c.toNat ≤ 122)
def isDig (c : UInt8) : Bool := decide (48 ≤ c.toNat) && decide (c.toNat ≤ 57)
def isNm (l : Bs) : Bool := !l.isEmpty && decide (l.length ≤ 8) && isLet (l.headD 0) && l.all (fun c => isLet c || isDig c) && !(l == kVar) && !(l == kFn) && !(l == kNew) && !(l == kCall)

/-- One of a list is there twice. -/
def dup {α : Type} [BEq α] : List α → Bool
  | [] => false
  | x :: r => r.contains x || dup r
def varB (P : ProgD) (k : Int) : Bool := decide (0 ≤ k) && decide (k < (P.vars.length : Int))
def funB (P : ProgD) (k : Int) : Bool := decide (0 ≤ k) && decide (k < (P.funs.length : Int))

/-- An error: which of the eleven, and where (-1: nowhere). -/
abbrev ErrD := Option (Nat × Int)

def yB (P : ProgD) (s : StmtD) : Bool := if s.kind == kFun then funB P s.y else if s.kind == kNew then true else varB P s.y
def kinds : List Bs := [kAddr, kCopy, kLoad, kStore, kNew, kFun, kCall]
def stmtE (P : ProgD) (s : StmtD) : Option Nat :=
  if !kinds.contains s.kind then some 3
  else if !varB P s.x || !yB P s || !s.args.all (varB P) then some 1
  else if s.kind == kCall && decide (3 < s.args.length) then some 8
  else if (!(s.kind == kCall) && !s.args.isEmpty) || (s.kind == kNew && !(s.y == 0)) then some 2
  else none
def stmtsE (P : ProgD) (k : Nat) : List StmtD → ErrD
  | [] => none
  | s :: r => match stmtE P s with
    | some e => some (e, (k : Int))
    | none => stmtsE P (k + 1) r
def namesE (vs fs : List Bs) : Option Nat := if !vs.all isNm || !fs.all isNm then some 4 else if dup vs || dup fs then some 6 else none
def funsE (P : ProgD) : Option Nat :=
  if !P.funs.all (fun f => decide (f.params.length ≤ 3)) then some 8
  else if !P.funs.all (fun f => f.params.all (varB P) && varB P f.ret) then some 1
  else if !P.funs.all (fun f => !dup f.params) then some 6
  else none
def fullB (P : ProgD) : Bool := decide (40 < P.vars.length) || decide (6 < P.funs.length) || decide (80 < P.stmts.length)
def fnames (P : ProgD) : List Bs := P.funs.map (·.name)
/-- Check. -/
def checkE (P : ProgD) : ErrD :=
  if fullB P then some (7, -1)
  else match namesE P.vars (fnames P) with
    | some e => some (e, -1)
    | none => match funsE P with
      | some e => some (e, -1)
      | none => stmtsE P 0 P.stmts

/-- The first object behind the variables and the places of these statements. -/
def places (P : ProgD) (k : Nat) : Nat := P.vars.length + ((P.stmts.take k).filter (fun s => s.kind == kNew)).length

def nameOf (P : ProgD) (k : Int) : Bs := P.vars.getD k.toNat []
def funOf (P : ProgD) (k : Int) : Bs := (fnames P).getD k.toNat []
def sep : Bs := [44, 32]
def namesT (P : ProgD) (l : List Int) : Bs := [40] ++ Lib.join (l.map (nameOf P)) sep ++ [41]
def lineVar (v : Bs) : Bs := [118, 97, 114, 32] ++ v
def lineFun (P : ProgD) (f : FunD) : Bs := [102, 110, 32] ++ f.name ++ namesT P f.params ++ [32] ++ nameOf P f.ret
def eqs : Bs := [32, 61, 32]
def lineStmt (P : ProgD) (s : StmtD) : Bs :=
  if s.kind == kAddr then nameOf P s.x ++ [32, 61, 32, 38] ++ nameOf P s.y
  else if s.kind == kLoad then nameOf P s.x ++ [32, 61, 32, 42] ++ nameOf P s.y
  else if s.kind == kStore then [42] ++ nameOf P s.x ++ [32, 61, 32] ++ nameOf P s.y
  else if s.kind == kNew then nameOf P s.x ++ [32, 61, 32, 110, 101, 119]
  else if s.kind == kFun then nameOf P s.x ++ [32, 61, 32, 102, 110, 32] ++ funOf P s.y
  else if s.kind == kCall then nameOf P s.x ++ [32, 61, 32, 99, 97, 108, 108, 32] ++ nameOf P s.y ++ namesT P s.args
  else nameOf P s.x ++ [32, 61, 32] ++ nameOf P s.y
def ended (ls : List Bs) : Bs := (ls.map (· ++ [10])).flatten
def textP (P : ProgD) : Bs := ended (P.vars.map lineVar) ++ ended (P.funs.map (lineFun P)) ++ ended (P.stmts.map (lineStmt P))

/-- The first place of a text in a list. -/
def idxFrom (i : Nat) : List Bs → Bs → Int
  | [], _ => -1
  | z :: r, x => if z = x then (i : Int) else idxFrom (i + 1) r x
def idx (l : List Bs) (x : Bs) : Int := idxFrom 0 l x

/-- What cutList tells: the name, the names in brackets, what is behind, is it one. -/
def listN (s : Bs) : Bs := (Lib.cut s [40]).1
def listI (s : Bs) : Bs := (Lib.cut (Lib.cut s [40]).2.1 [41]).1
def listL (s : Bs) : List Bs := if (listI s).isEmpty then [] else Lib.split (listI s) sep
def listB (s : Bs) : Bs := (Lib.cut (Lib.cut s [40]).2.1 [41]).2.1
def listOk (s : Bs) : Bool := (Lib.cut s [40]).2.2 && (Lib.cut (Lib.cut s [40]).2.1 [41]).2.2 && isNm (listN s) && (listL s).all isNm

/-- A statement whose names are not looked for yet. -/
structure SentD where
  kind : Bs
  x : Bs
  y : Bs
  args : List Bs
def rightD (r : Bs) : SentD × Bool :=
  if r == kNew then (⟨kNew, [], [], []⟩, true)
  else if Lib.hasPrefix r [99, 97, 108, 108, 32] then
    (⟨kCall, [], listN (Lib.trimPrefix r [99, 97, 108, 108, 32]), listL (Lib.trimPrefix r [99, 97, 108, 108, 32])⟩, listOk (Lib.trimPrefix r [99, 97, 108, 108, 32]) && (listB (Lib.trimPrefix r [99, 97, 108, 108, 32])).isEmpty)
  else if Lib.hasPrefix r [38] then (⟨kAddr, [], Lib.trimPrefix r [38], []⟩, isNm (Lib.trimPrefix r [38]))
  else if Lib.hasPrefix r [42] then (⟨kLoad, [], Lib.trimPrefix r [42], []⟩, isNm (Lib.trimPrefix r [42]))
  else if Lib.hasPrefix r [102, 110, 32] then (⟨kFun, [], Lib.trimPrefix r [102, 110, 32], []⟩, isNm (Lib.trimPrefix r [102, 110, 32]))
  else (⟨kCopy, [], r, []⟩, isNm r)
def parseD (line : Bs) : SentD × Bool :=
  if Lib.hasPrefix (Lib.cut line eqs).1 [42] then
    (⟨kStore, Lib.trimPrefix (Lib.cut line eqs).1 [42], (Lib.cut line eqs).2.1, []⟩, isNm (Lib.trimPrefix (Lib.cut line eqs).1 [42]) && isNm (Lib.cut line eqs).2.1)
  else ({ (rightD (Lib.cut line eqs).2.1).1 with x := (Lib.cut line eqs).1 }, (rightD (Lib.cut line eqs).2.1).2 && isNm (Lib.cut line eqs).1)

def readVarD (P : ProgD) (name : Bs) : ProgD × Option Nat :=
  if !isNm name || !P.funs.isEmpty || !P.stmts.isEmpty then (P, some 0) else ({ P with vars := P.vars ++ [name] }, none)
def readFunD (P : ProgD) (rest : Bs) : ProgD × Option Nat :=
  if !listOk rest || !Lib.hasPrefix (listB rest) [32] || !isNm (Lib.trimPrefix (listB rest) [32]) || !P.stmts.isEmpty then (P, some 0)
  else if ((listL rest).map (idx P.vars)).contains (-1) || idx P.vars (Lib.trimPrefix (listB rest) [32]) == -1 then (P, some 5)
  else ({ P with funs := P.funs ++ [⟨listN rest, (listL rest).map (idx P.vars), idx P.vars (Lib.trimPrefix (listB rest) [32])⟩] }, none)
def sentY (P : ProgD) (w : SentD) : Int := if w.kind == kNew then 0 else if w.kind == kFun then idx (fnames P) w.y else idx P.vars w.y
def sentS (P : ProgD) (w : SentD) : StmtD := ⟨w.kind, idx P.vars w.x, sentY P w, w.args.map (idx P.vars)⟩
def readStmtD (P : ProgD) (line : Bs) : ProgD × Option Nat :=
  if !(parseD line).2 then (P, some 0)
  else if (sentS P (parseD line).1).x == -1 || (sentS P (parseD line).1).y == -1 || (sentS P (parseD line).1).args.contains (-1) then (P, some 5)
  else ({ P with stmts := P.stmts ++ [sentS P (parseD line).1] }, none)
def readLineD (P : ProgD) (line : Bs) : ProgD × Option Nat :=
  if Lib.hasPrefix line [118, 97, 114, 32] then readVarD P (Lib.trimPrefix line [118, 97, 114, 32])
  else if Lib.hasPrefix line [102, 110, 32] then readFunD P (Lib.trimPrefix line [102, 110, 32])
  else readStmtD P line

/-- The lines of a text that end, and what is behind them. -/
def linesOf : Bs → List Bs × Bs
  | [] => ([], [])
  | c :: r => if c = 10 then ([] :: (linesOf r).1, (linesOf r).2) else match (linesOf r).1 with
    | [] => ([], c :: (linesOf r).2)
    | l :: ls => ((c :: l) :: ls, (linesOf r).2)
def goLines (P : ProgD) (k : Nat) (rest : Bs) : List Bs → ProgD × ErrD
  | [] => if rest.isEmpty then (P, none) else (P, some (0, (k : Int)))
  | l :: ls => match (readLineD P l).2 with
    | some e => ((readLineD P l).1, some (e, (k : Int)))
    | none => goLines (readLineD P l).1 (k + 1) rest ls
def linesD (P : ProgD) (k : Nat) (s : Bs) : ProgD × ErrD := goLines P k (linesOf s).2 (linesOf s).1
def bareE (e : ErrD) : ErrD := e.map fun x => (x.1, -1)
/-- Read. -/
def readD (s : Bs) : ProgD × ErrD :=
  if 4000 < s.length then (noProg, some (1, -1))
  else match (linesD noProg 0 s).2 with
    | some e => (noProg, some e)
    | none => match checkE (linesD noProg 0 s).1 with
      | some e => (noProg, bareE (some e))
      | none => ((linesD noProg 0 s).1, none)
end Go.Proofs.YtimmkenmahagjaaGreatDoor

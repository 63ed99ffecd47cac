/-
  Package cons: rules and edges, as plain data and in memory.
-/
import Derived.Test.YtglonlpfnllocaaGreatDoorPMemM
import Derived.Test.YtglonlpfnllocaaGreatDoorPJM
namespace Go.Proofs.YtglonlpfnllocaaGreatDoor
open Go.RowKit Go.Extern.Stop Go.Stop Go.Extern

structure RuleD where
  kind : Bs
  a : Int
  b : Int
  stmt : Int
  args : List Int
deriving Inhabited
def kBase : Bs := [98, 97, 115, 101]
/-- The rule of statement k. -/
def ruleD (P : ProgD) (k : Nat) : RuleD :=
  if (P.stmts.getD k default).kind = kAddr then ⟨kBase, (P.stmts.getD k default).x, (P.stmts.getD k default).y, k, []⟩
  else if (P.stmts.getD k default).kind = kNew then ⟨kBase, (P.stmts.getD k default).x, (places P k : Nat), k, []⟩
  else if (P.stmts.getD k default).kind = kFun then ⟨kBase, (P.stmts.getD k default).x, (places P P.stmts.length : Nat) + (P.stmts.getD k default).y, k, []⟩
  else ⟨(P.stmts.getD k default).kind, (P.stmts.getD k default).y, (P.stmts.getD k default).x, k, (P.stmts.getD k default).args⟩
def rulesD (P : ProgD) : List RuleD := (List.range P.stmts.length).map (ruleD P)
theorem rulesD_len (P : ProgD) : (rulesD P).length = P.stmts.length := by simp [rulesD]
theorem rulesD_at (P : ProgD) (k : Nat) (h : k < P.stmts.length) : (rulesD P).getD k default = ruleD P k := by simp [rulesD, List.getD, h]
abbrev Pair := Int × Int
/-- What a function that a rule may call joins. -/
def joinsF (f : FunD) (r : RuleD) : List Pair := if f.params.length = r.args.length then List.zip r.args f.params ++ [(f.ret, r.b)] else []
def askedD (r : RuleD) : Int := if r.kind = kLoad then r.a else if r.kind = kCall then r.a else if r.kind = kStore then r.b else -1
/-- What a rule joins by object o. -/
def joinD (n : Nat) (fs : List FunD) (r : RuleD) (o : Int) : List Pair :=
  if r.kind = kLoad then (if o < (n : Int) then [(o, r.b)] else [])
  else if r.kind = kStore then (if o < (n : Int) then [(r.a, o)] else [])
  else if r.kind = kCall then (if o < (n : Int) then [] else joinsF (fs.getD (o - n).toNat default) r)
  else []
def copyD (r : RuleD) : List Pair := if r.kind = kCopy then [(r.a, r.b)] else []
def setAt (hs : List (List Int)) (k : Int) : List Int := hs.getD k.toNat []
def followD (P : ProgD) (hs : List (List Int)) (r : RuleD) : List Pair :=
  copyD r ++ (if askedD r < 0 then [] else (setAt hs (askedD r)).flatMap (joinD hs.length P.funs r))
/-- All that the rules join. -/
def foundD (P : ProgD) (hs : List (List Int)) : List Pair := (rulesD P).flatMap (followD P hs)

abbrev TE : TypeId := 139
abbrev TSE : TypeId := 105
abbrev TRu : TypeId := 72
theorem Tryz.infoEdge : (Tryz.prog.info? 139).map (fun i => (i.zero, i.size, i.bytes)) = some (some (.agg #[.int .i64 0, .int .i64 0]), 2, 16) := by kernel_rfl
def pairCells (p : Pair) : List Value := [.int .i64 p.1, .int .i64 p.2]
def ecells (es : List Pair) : List Value := (es.map pairCells).flatten
theorem ecells_cons (p : Pair) (es : List Pair) : ecells (p :: es) = .int .i64 p.1 :: .int .i64 p.2 :: ecells es := rfl
theorem ecells_len (es : List Pair) : (ecells es).length = es.length * 2 := by
  induction es with
  | nil => rfl
  | cons o r ih => rw [ecells_cons]; simp [ih]; omega
theorem ecells_snoc (es : List Pair) (p : Pair) : ecells (es ++ [p]) = ecells es ++ pairCells p := by unfold ecells; simp
theorem ecells_at (es : List Pair) (j : Nat) (h : j < es.length) : (ecells es)[j * 2]? = some (.int .i64 (es.getD j default).1) ∧ (ecells es)[j * 2 + 1]? = some (.int .i64 (es.getD j default).2) := by
  induction es generalizing j with
  | nil => simp at h
  | cons o r ih =>
    rw [ecells_cons]
    cases j with
    | zero => exact ⟨rfl, rfl⟩
    | succ j =>
      have := ih j (by simpa using h)
      rw [show (j + 1) * 2 = j * 2 + 1 + 1 by omega]
      simpa using this
theorem ecells_set (es : List Pair) (j : Nat) (p : Pair) : ((ecells es).set (j * 2) (.int .i64 p.1)).set (j * 2 + 1) (.int .i64 p.2) = ecells (es.set j p) := by
  induction es generalizing j with
  | nil => rfl
  | cons a r ih =>
    rw [ecells_cons]
    cases j with
    | zero => rfl
    | succ j =>
      rw [show (j + 1) * 2 = j * 2 + 1 + 1 by omega]
      simp only [List.set_cons_succ]
      rw [ih j]
      rfl
/-- Blocks that hold neither edges nor slices of them are kept. -/
def KE (w w' : World) : Prop := ∀ (k : Nat) (c : Array Value) (t : TypeId) (fr : Nat × Nat), w.heap[k]? = some (.cells c t fr) → t ≠ TE → t ≠ TSE → w'.heap[k]? = some (.cells c t fr)
theorem KE.refl (w : World) : KE w w := fun _ _ _ _ h _ _ => h
theorem KE.trans {w w1 w2 : World} (h1 : KE w w1) (h2 : KE w1 w2) : KE w w2 := fun k c t fr h a b => h2 k c t fr (h1 k c t fr h a b) a b
theorem KE.of_below {w w' : World} (h : Below w.heap.size w w') : KE w w' := fun _ _ _ _ q _ _ => block_keep h q
theorem KE.of_kept {w w' : World} (h : Kept TE w w') : KE w w' := fun k c t fr q a _ => h k c t fr q a
theorem KE.of_kept2 {w w' : World} (h : Kept TSE w w') : KE w w' := fun k c t fr q _ b => h k c t fr q b
theorem KE.drew {w w' : World} (h : KE w w') : KE w w'.drew := h
/-- The edges that were found so far: in a variable of the call's own. -/
structure Found (w : World) (B fb : Nat) (es : List Pair) (u : Value) : Prop where
  low : B ≤ fb
  blk : w.heap[fb]? = some (.cells #[u] TSE (0, 0))
  row : w.ownsRow B TE 2 u es.length (ecells es)
theorem Found.size {w : World} {B fb : Nat} {es : List Pair} {u : Value} (h : Found w B fb es u) : B ≤ w.heap.size := Nat.le_trans h.low (Nat.le_of_lt (Array.getElem?_eq_some_iff.1 h.blk).1)
theorem Found.below {w w' : World} {B fb : Nat} {es : List Pair} {u : Value} (h : Found w B fb es u) (hb : Below w.heap.size w w') : Found w' B fb es u := ⟨h.low, block_keep hb h.blk, owns_below h.row hb⟩
/-- What a call joins besides. -/
def JoinPost (w0 w : World) (fb : Nat) (es js : List Pair) (e : Ending) (w' : World) : Prop :=
  e = .returned (.tuple #[]) ∧ ∃ u', Found w' w0.heap.size fb (es ++ js) u' ∧ Below w0.heap.size w w' ∧ KE w w'
abbrev joinV (fb : Nat) : Value := .func (.func 121) #[] #[.pointer (some ⟨fb, 0, none⟩)]

set_option maxRecDepth 100000 in
set_option maxHeartbeats 4000000 in
/-- The function that is handed on: an edge more. -/
theorem join_any {w0 w : World} {fb : Nat} {es : List Pair} {u : Value} (h : Found w w0.heap.size fb es u) (hl : es.length ≤ 1000000) (x y : Int) :
    Calls Tryz.prog 121 #[.int .i64 x, .int .i64 y, .pointer (some ⟨fb, 0, none⟩)] w fun e w' => JoinPost w0 w fb es [(x, y)] e w' := by
  have hB := h.size
  obtain ⟨v', w2, hr, ho2, hb2, hk2⟩ := append_one w w0.heap.size u es.length 2 16 TSE TE (.agg #[.int .i64 0, .int .i64 0]) (ecells es) (pairCells (x, y)) h.row hB Tryz.underlying105 Tryz.infoEdge (by decide) rfl rfl (fun v hv => by
    simp only [pairCells, List.mem_cons, List.not_mem_nil, or_false] at hv
    rcases hv with rfl | rfl <;> rfl) hl TSE (by decide)
  obtain ⟨ua, uc, rfl⟩ := owns_form h.row
  obtain ⟨va, vc, rfl⟩ := owns_form ho2
  have hm2 : w2.heap[fb]? = some (.cells #[.slice ua es.length uc] TSE (0, 0)) := hk2 _ _ _ _ h.blk (by decide)
  have s0 : w.cell? ⟨fb, 0, none⟩ = some (.slice ua es.length uc) := by rw [Lib.cell_of_heap h.blk]; rfl
  have s2 : w2.cell? ⟨fb, 0, none⟩ = some (.slice ua es.length uc) := by rw [Lib.cell_of_heap hm2]; rfl
  have f2 := Lib.frozen_of_heap hm2 0
  obtain ⟨n, hn⟩ : ∃ n, n = es.length := ⟨_, rfl⟩
  have hset := kept_setCell (i := 0) hm2 (.slice va (es.length + 1) vc)
  have HN : Hid (Found (w2.setCell ⟨fb, 0, none⟩ (.slice va (n + 1) vc)) w0.heap.size fb (es ++ [(x, y)]) (.slice va (n + 1) vc) ∧ Below w0.heap.size w (w2.setCell ⟨fb, 0, none⟩ (.slice va (n + 1) vc)) ∧ KE w (w2.setCell ⟨fb, 0, none⟩ (.slice va (n + 1) vc))) := by
    show _ ∧ _
    rw [hn]
    refine ⟨⟨h.low, by rw [set_block _ _ _ _ _ _ hm2]; rfl, ?_⟩, hb2.setCell h.low _, (KE.of_kept hk2).trans (KE.of_kept2 hset)⟩
    have := owns_kept ho2 hset (by decide)
    rw [← ecells_snoc] at this
    simpa using this
  rw [← hn] at s0 s2 hr
  have HR : Hid ((Builtin.append_ #[TSE, TSE] TSE #[.slice ua n uc, .slice (some ⟨w.heap.size, 0, none⟩) 1 1]).run Tryz.prog (w.alloc (.cells #[.int .i64 x, .int .i64 y] TE)) = .ok (.slice va (n + 1) vc) w2) := hr
  clear hr ho2 hb2 hk2 hm2 hset hn h
  go_enter Tryz.func121, Tryz.ntmps121
  go_wp2_with (at_builtin; refine Lib.wpList_append_run _ rfl _ _ _ _ rfl _ _ rfl rfl _ _ HR.out ?_)
  refine bodyPost_end (results_none rfl _ _ _) rfl ?_
  exact ⟨rfl, _, HN.out⟩
end Go.Proofs.YtglonlpfnllocaaGreatDoor

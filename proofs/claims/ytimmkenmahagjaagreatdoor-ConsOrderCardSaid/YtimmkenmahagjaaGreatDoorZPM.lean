/-
  Statements in another order, twice, and one more: plain.
-/
import Derived.Test.YtimmkenmahagjaaGreatDoorZMM
import Derived.Test.YtimmkenmahagjaaGreatDoorPMem
import Derived.Test.YtimmkenmahagjaaGreatDoorCM
import Derived.Test.YtimmkenmahagjaaGreatDoorPI
import Derived.Test.YtimmkenmahagjaaGreatDoorSetU
import Derived.Test.YtimmkenmahagjaaGreatDoorZCM
import Derived.Lib.QuietBelow
import Derived.Deep.RegionHeld3
namespace Go.Proofs.YtimmkenmahagjaaGreatDoor
open Go.RowKit Go.Extern.Stop Go.Stop Go.Extern

theorem stmtsE_all (P : ProgD) : ∀ (l : List StmtD) (k : Nat), (∀ s ∈ l, stmtE P s = none) → stmtsE P k l = none
  | [], _, _ => rfl
  | t :: r, k, h => by
    unfold stmtsE
    rw [h t (List.mem_cons_self ..)]
    exact stmtsE_all P r (k + 1) fun s hs => h s (List.mem_cons_of_mem _ hs)
theorem stmtE_congr {P Q : ProgD} (hv : Q.vars = P.vars) (hf : Q.funs = P.funs) (s : StmtD) : stmtE Q s = stmtE P s := by
  obtain ⟨v, f, l⟩ := P
  obtain ⟨v', f', l'⟩ := Q
  dsimp only at hv hf
  subst hv hf
  rfl
theorem funsE_congr {P Q : ProgD} (hv : Q.vars = P.vars) (hf : Q.funs = P.funs) : funsE Q = funsE P := by
  obtain ⟨v, f, l⟩ := P
  obtain ⟨v', f', l'⟩ := Q
  dsimp only at hv hf
  subst hv hf
  rfl
/-- A program of a right one's statements is right. -/
theorem check_of {P Q : ProgD} (hv : Q.vars = P.vars) (hf : Q.funs = P.funs) (hl : Q.stmts.length ≤ 80) (hs : ∀ s ∈ Q.stmts, s ∈ P.stmts) (h : checkE P = none) : checkE Q = none := by
  have hfull : fullB P = false := by
    cases e : fullB P with
    | false => rfl
    | true => unfold checkE at h; rw [if_pos e] at h; cases h
  have hfullQ : fullB Q = false := by
    unfold fullB at hfull ⊢
    rw [Bool.or_eq_false_iff, Bool.or_eq_false_iff] at hfull ⊢
    refine ⟨⟨by rw [hv]; exact hfull.1.1, by rw [hf]; exact hfull.1.2⟩, ?_⟩
    exact decide_eq_false (by omega)
  have hR := right_of h
  rw [checkE_eq P hfull] at h
  rw [checkE_eq Q hfullQ, show fnames Q = fnames P by unfold fnames; rw [hf], hv, funsE_congr hv hf, stmtsE_all Q Q.stmts 0 (fun s q => by rw [stmtE_congr hv hf]; exact hR.st s (hs s q))]
  cases hn : namesE P.vars (fnames P) with
  | some e => rw [hn] at h; cases h
  | none =>
    rw [hn] at h
    cases hu : funsE P with
    | some e => rw [hu] at h; cases h
    | none => rfl
/-- No statement makes a thing. -/
def NoNew (P : ProgD) : Prop := ∀ s ∈ P.stmts, s.kind ≠ kNew
theorem NoNew.places {P : ProgD} (h : NoNew P) (k : Nat) : places P k = P.vars.length := by
  unfold Go.Proofs.YtimmkenmahagjaaGreatDoor.places
  rw [List.filter_eq_nil_iff.2 fun s hs => by
    have := h s (List.mem_of_mem_take hs)
    simpa using this]
  rfl
/-- The rule of a statement that makes nothing, without its place. -/
def bareD (v : Nat) (s : StmtD) : RuleD :=
  if s.kind = kAddr then ⟨kBase, s.x, s.y, 0, []⟩ else if s.kind = kFun then ⟨kBase, s.x, (v : Int) + s.y, 0, []⟩ else ⟨s.kind, s.y, s.x, 0, s.args⟩
theorem ruleD_bare {P : ProgD} (k : Nat) (hk : (P.stmts.getD k default).kind ≠ kNew) : (ruleD P k).bare = bareD (places P P.stmts.length) (P.stmts.getD k default) := by
  unfold ruleD bareD
  by_cases e1 : (P.stmts.getD k default).kind = kAddr
  · rw [if_pos e1, if_pos e1]; rfl
  · rw [if_neg e1, if_neg e1, if_neg hk]
    by_cases e3 : (P.stmts.getD k default).kind = kFun
    · rw [if_pos e3, if_pos e3]; rfl
    · rw [if_neg e3, if_neg e3]; rfl
theorem getD_memS {α : Type} [Inhabited α] {l : List α} {k : Nat} (h : k < l.length) : l.getD k default ∈ l := by simp [List.getD, h]
theorem within_of {P Q : ProgD} (hv : Q.vars = P.vars) (hf : Q.funs = P.funs) (hp : NoNew P) (hq : NoNew Q) (hs : ∀ s ∈ P.stmts, s ∈ Q.stmts) : Within P Q := by
  refine ⟨hf.symm, fun r hr => ?_⟩
  obtain ⟨k, hk, rfl⟩ := List.mem_map.1 hr
  have hk' := List.mem_range.1 hk
  have hm := getD_memS hk'
  obtain ⟨i, hi, he⟩ := List.mem_iff_getElem.1 (hs _ hm)
  have he' : Q.stmts.getD i default = P.stmts.getD k default := by rw [← he]; simp [List.getD, hi]
  refine ⟨ruleD Q i, List.mem_map.2 ⟨i, List.mem_range.2 hi, rfl⟩, ?_⟩
  rw [ruleD_bare k (hp _ hm), ruleD_bare i (by rw [he']; exact hp _ hm), he', hp.places, hq.places, hv]
theorem closed_sub {P Q : ProgD} (hw : Within P Q) {hs : List (List Int)} (h : closedB Q hs = true) : closedB P hs = true := by
  rw [closedB_iff] at h ⊢
  refine ⟨fun r hr hk => ?_, fun p hp x hx => h.2 p (found_sub hw (Sub.refl hs) p hp) x hx⟩
  obtain ⟨r', hr', e⟩ := hw.rules r hr
  have e1 : r'.kind = r.kind := show r'.bare.kind = r.bare.kind by rw [e]
  have e2 : r'.a = r.a := show r'.bare.a = r.bare.a by rw [e]
  have e3 : r'.b = r.b := show r'.bare.b = r.bare.b by rw [e]
  have := h.1 r' hr' (by rw [e1]; exact hk)
  rw [e2, e3] at this
  exact this

/-- The statements turned around. -/
def revP (P : ProgD) : ProgD := { P with stmts := P.stmts.reverse }
theorem revP_len (P : ProgD) : (revP P).stmts.length = P.stmts.length := List.length_reverse ..
theorem NoNew.rev {P : ProgD} (h : NoNew P) : NoNew (revP P) := fun s hs => h s (List.mem_reverse.1 hs)
theorem within_rev {P : ProgD} (h : NoNew P) : Within P (revP P) := within_of rfl rfl h h.rev fun _ hs => List.mem_reverse.2 hs
theorem within_rev2 {P : ProgD} (h : NoNew P) : Within (revP P) P := within_of rfl rfl h.rev h fun _ hs => List.mem_reverse.1 hs
theorem check_rev {P : ProgD} (h : checkE P = none) : checkE (revP P) = none :=
  check_of (P := P) rfl rfl (by rw [revP_len]; exact (right_small h).1) (fun s (hs : s ∈ P.stmts.reverse) => List.mem_reverse.1 hs) h
theorem check_rev2 {P : ProgD} (h : checkE (revP P) = none) : checkE P = none := by
  have := check_rev h
  unfold revP at this
  rw [List.reverse_reverse] at this
  exact this
theorem rev_places {P : ProgD} (h : NoNew P) : places (revP P) (revP P).stmts.length = places P P.stmts.length := by
  rw [h.rev.places, h.places]; rfl
theorem rev_consE {P : ProgD} (h : NoNew P) (hs : List (List Int)) : (consE (revP P) hs).isNone = (consE P hs).isNone := by
  unfold consE
  rw [rev_places h]
  cases h1 : checkE P with
  | none => rw [check_rev h1]; rfl
  | some e =>
    cases h2 : checkE (revP P) with
    | some e2 => rfl
    | none => rw [check_rev2 h2] at h1; cases h1
theorem rev_edges {P : ProgD} (h : NoNew P) {hs : List (List Int)} {es es' : List Pair} (h1 : EdgeSet (foundD P hs) es) (h2 : EdgeSet (foundD (revP P) hs) es') : es = es' :=
  up_ext h1.up h2.up fun p => by
    rw [h1.mem, h2.mem]
    exact ⟨fun q => ⟨found_sub (within_rev h) (Sub.refl hs) p q.1, q.2⟩, fun q => ⟨found_sub (within_rev2 h) (Sub.refl hs) p q.1, q.2⟩⟩
theorem rev_closed {P : ProgD} (h : NoNew P) (hs : List (List Int)) : closedB (revP P) hs = closedB P hs := by
  rw [Bool.eq_iff_iff]
  exact ⟨closed_sub (within_rev h), closed_sub (within_rev2 h)⟩
theorem rev_nodes {P : ProgD} (h : NoNew P) : nodesD (revP P) = nodesD P := by
  unfold nodesD
  rw [rev_places h]
  cases h1 : checkE P with
  | none => rw [check_rev h1]
  | some e =>
    cases h2 : checkE (revP P) with
    | some e2 => rfl
    | none => rw [check_rev2 h2] at h1; cases h1
end Go.Proofs.YtimmkenmahagjaaGreatDoor

/-
  A row of statements of one's own, whose args lie in older memory.
-/
namespace Go.Proofs.YtimmkenmahagjaaGreatDoor
open Go.RowKit Go.Extern.Stop Go.Stop Go.Extern

abbrev TSt : TypeId := 65
abbrev TStS : TypeId := 24
structure RowS (w0 w : World) (u : Value) (ss : List StmtD) (qs : List Value) : Prop where
  l : qs.length = ss.length
  o : w.ownsRow w0.heap.size TSt 4 u ss.length (List.zipWith stmtCells ss qs).flatten
  i : ∀ j, j < ss.length → IsCap w0 (qs.getD j default) (ss.getD j default).args
theorem RowS.nil (w0 w : World) : RowS w0 w (.slice none 0 0) [] [] := ⟨rfl, World.ownsRow_nil _ _ _ _, fun _ hj => absurd hj (Nat.not_lt_zero _)⟩
theorem RowS.below {w0 w w' : World} {u : Value} {ss : List StmtD} {qs : List Value} (h : RowS w0 w u ss qs) (hb : Below w.heap.size w w') : RowS w0 w' u ss qs := ⟨h.l, owns_below h.o hb, h.i⟩
theorem RowS.isStmts {w0 w : World} {u : Value} {ss : List StmtD} {qs : List Value} (h : RowS w0 w u ss qs) (hb : Below w0.heap.size w0 w) : IsStmts w u ss := by
  rcases h.o.2 with ⟨hv, h0⟩ | ⟨g, cap, cur, hv, _, _, hcap, _⟩
  · exact ⟨none, 0, by rw [hv, h0], by omega, fun j hj => absurd hj (by omega)⟩
  · refine ⟨_, cap, hv, hcap, fun j hj => ⟨g, 0, rfl, qs.getD j default, ?_, ?_, ?_, ?_, (h.i j hj).below hb⟩⟩
    all_goals
      have hz := zip_at stmtCells ss qs h.l j hj
      have hlen : ∀ l ∈ List.zipWith stmtCells ss qs, l.length = 4 := fun l hl => by
        obtain ⟨i, hi, rfl⟩ := List.mem_iff_getElem.1 hl
        simp [stmtCells]
    · have := h.o.cells (show u.ownBlock = some g by rw [hv]; rfl) (j * 4 + 0) _ (by rw [flatten_at _ 4 hlen j 0 _ hz (by decide)]; rfl)
      rw [Addr.add_lit] at this
      simpa [strV, intV] using this
    · have := h.o.cells (show u.ownBlock = some g by rw [hv]; rfl) (j * 4 + 1) _ (by rw [flatten_at _ 4 hlen j 1 _ hz (by decide)]; rfl)
      rw [Addr.add_lit] at this
      simpa [strV, intV] using this
    · have := h.o.cells (show u.ownBlock = some g by rw [hv]; rfl) (j * 4 + 2) _ (by rw [flatten_at _ 4 hlen j 2 _ hz (by decide)]; rfl)
      rw [Addr.add_lit] at this
      simpa [strV, intV] using this
    · have := h.o.cells (show u.ownBlock = some g by rw [hv]; rfl) (j * 4 + 3) _ (by rw [flatten_at _ 4 hlen j 3 _ hz (by decide)]; rfl)
      rw [Addr.add_lit] at this
      simpa [strV, intV] using this
theorem RowS.add {w0 wr : World} {u : Value} {ss : List StmtD} {qs : List Value} (h : RowS w0 wr u ss qs) (hB : Below w0.heap.size w0 wr) (hl : ss.length ≤ 1000000) (s : StmtD) (pv : Value) (hone : pv.oneCell' = true) (hp : IsCap w0 pv s.args) :
    ∃ va vn vc w', (Builtin.append_ #[TStS, TStS] TStS #[u, .slice (some ⟨wr.heap.size, 0, none⟩) 1 1]).run Tryz.prog (wr.alloc (.cells #[.string (S s.kind), .int .i64 s.x, .int .i64 s.y, pv] TSt)) = .ok (.slice va vn vc) w' ∧ vn = ss.length + 1 ∧ RowS w0 w' (.slice va vn vc) (ss ++ [s]) (qs ++ [pv]) ∧ Below w0.heap.size wr w' ∧ Kept TSt wr w' := by
  obtain ⟨v', w', hr, ho, hb, hk⟩ := append_one wr w0.heap.size u ss.length 4 56 TStS TSt (.agg #[.string ⟨#[]⟩, .int .i64 0, .int .i64 0, .slice none 0 0]) _ (stmtCells s pv) h.o hB.size Tryz.underlying24 Tryz.infoStmt (by decide) rfl rfl (fun x hx => by
    simp only [stmtCells, List.mem_cons, List.not_mem_nil, or_false] at hx
    rcases hx with rfl | rfl | rfl | rfl
    · rfl
    · rfl
    · rfl
    · exact hone) hl TStS (by decide)
  obtain ⟨va, vc, rfl⟩ := owns_form ho
  refine ⟨va, _, vc, w', hr, rfl, ⟨by rw [List.length_append, List.length_append, h.l]; rfl, ?_, fun j hj => ?_⟩, hb, hk⟩
  · rw [zip_snoc stmtCells ss qs h.l, List.length_append]
    exact ho
  · by_cases e : j < ss.length
    · rw [getD_snoc_left _ _ _ _ e, getD_snoc_left _ _ _ _ (by rw [h.l]; exact e)]
      exact h.i j e
    · have e2 : j = ss.length := by rw [List.length_append, List.length_singleton] at hj; omega
      rw [getD_snoc_last _ _ _ _ e2, getD_snoc_last _ _ _ _ (by rw [h.l]; exact e2)]
      exact hp
end Go.Proofs.YtimmkenmahagjaaGreatDoor

/-
  ruled: the closed fact of a rule, by a contract.
-/
namespace Go.Proofs.YtimmkenmahagjaaGreatDoor
open Go.RowKit Go.Extern.Stop Go.Stop Go.Extern

def progL : ProgD := ⟨[[97], [98]], [], [⟨kCopy, 0, 1, []⟩]⟩
theorem progL_cons : consE progL [[], []] = none := by decide
theorem progL_found : foundD progL [[], []] = [(1, 0)] := by decide
theorem progL_small : SmallP progL := by
  unfold SmallP
  refine ⟨by decide, by decide, by decide, ?_, ?_⟩
  · intro f hf
    cases hf
  · intro s hs
    simp [progL] at hs
    subst hs; decide
abbrev lVars : Obj := .cells #[.string ⟨#[97]⟩, .string ⟨#[98]⟩] 9
abbrev lStmts : Obj := .cells #[.string ⟨#[99, 111, 112, 121]⟩, .int .i64 0, .int .i64 1, .slice none 0 0] 65
abbrev lProg (n : Nat) : Obj := .cells #[.slice (some ⟨n, 0, none⟩) 2 2, .slice none 0 0, .slice (some ⟨n + 1, 0, none⟩) 1 1] 26
abbrev lSets : Obj := .cells #[.slice none 0 0, .slice none 0 0] TSI
theorem progL_is (w : World) : IsProg ((w.alloc lVars).alloc lStmts) (.slice (some ⟨w.heap.size, 0, none⟩) 2 2) (.slice none 0 0) (.slice (some ⟨w.heap.size + 1, 0, none⟩) 1 1) progL := by
  have hb : Below (w.alloc lVars).heap.size (w.alloc lVars) ((w.alloc lVars).alloc lStmts) := below1 _ _
  refine ⟨⟨_, _, rfl, Nat.le_refl _, fun j hj => ⟨_, _, rfl, ?_⟩⟩, ⟨_, _, rfl, Nat.le_refl _, fun j hj => absurd hj (Nat.not_lt_zero _)⟩, ⟨_, _, rfl, Nat.le_refl _, fun j hj => ⟨_, _, rfl, ?_⟩⟩⟩
  · refine cell_keep hb ?_
    match j, hj with
    | 0, _ => simp [progL, S]
    | 1, _ => simp [progL, S]
  · match j, hj with
    | 0, _ => exact ⟨.slice none 0 0, by simp [progL, S, kCopy], by simp [progL], by simp [progL], by simp, IsInts.nil _ _ _, none, 0, rfl, Nat.le_refl _⟩
theorem edgeSet_one {es : List Pair} (h : EdgeSet [(1, 0)] es) : es = [(1, 0)] := by
  have hm : ∀ p, p ∈ es → p = (1, 0) := fun p hp => by
    have := ((h.mem p).1 hp).1
    simpa using this
  have h1 : (1, 0) ∈ es := (h.mem (1, 0)).2 ⟨by simp, by decide⟩
  cases es with
  | nil => cases h1
  | cons p r =>
    have hp := hm p (List.mem_cons_self ..)
    cases r with
    | nil => rw [hp]
    | cons q r2 =>
      exfalso
      have hq := hm q (List.mem_cons_of_mem _ (List.mem_cons_self ..))
      have := (List.pairwise_cons.1 h.up).1 q (List.mem_cons_self ..)
      rw [hp, hq] at this
      exact ltE_irrefl _ this

set_option maxRecDepth 100000 in
set_option maxHeartbeats 8000000 in
theorem ruled_any (a : Nat → Addr) (w : World) (hE : Errs5 w a) (h3 : Three w a) : Calls Tryz.prog 9 #[] w fun e w' => e = .returned (.bool true) ∧ Below w.heap.size w w' := by
  obtain ⟨W0, hW0⟩ : ∃ W, W = ((w.alloc lVars).alloc lStmts).alloc (lProg w.heap.size) := ⟨_, rfl⟩
  obtain ⟨W, hW⟩ : ∃ W, W = W0.alloc lSets := ⟨_, rfl⟩
  have hz0 : W0.heap.size = w.heap.size + 3 := by rw [hW0]; simp
  have hB0 : Below w.heap.size w W0 := by rw [hW0]; exact ((below1 w _).alloc (by simp) _).alloc (by simp; omega) _
  have hBW : Below w.heap.size w W := by rw [hW]; exact hB0.alloc hB0.size _
  have hP : IsProg W (.slice (some ⟨w.heap.size, 0, none⟩) 2 2) (.slice none 0 0) (.slice (some ⟨w.heap.size + 1, 0, none⟩) 1 1) progL := by
    rw [hW]
    refine IsProg.below ?_ (below1 W0 _)
    rw [hW0]
    exact (progL_is w).below (below1 _ _)
  have hI : IsSets W (.slice (some ⟨W0.heap.size, 0, none⟩) 2 2) [[], []] := by
    rw [hW]
    refine ⟨_, _, rfl, fun j hj => ?_⟩
    match j, hj with
    | 0, _ => exact ⟨_, _, .slice none 0 0, rfl, by simp, Or.inl ⟨rfl, _, _, rfl⟩⟩
    | 1, _ => exact ⟨_, _, .slice none 0 0, rfl, by simp, Or.inl ⟨rfl, _, _, rfl⟩⟩
  have K1 : Hid (Calls Tryz.prog 20 #[.agg #[.slice (some ⟨w.heap.size, 0, none⟩) 2 2, .slice none 0 0, .slice (some ⟨w.heap.size + 1, 0, none⟩) 1 1], .slice (some ⟨W0.heap.size, 0, none⟩) 2 2] W fun e w' => ∃ g c, e = .returned (.tuple #[.slice (some ⟨g, 0, none⟩) 1 c, .nilIface]) ∧ w'.cell? ⟨g, 0, none⟩ = some (.int .i64 1) ∧ w'.cell? ⟨g, 1, none⟩ = some (.int .i64 0) ∧ Below W.heap.size W w') := by
    refine (edges_any a progL _ _ _ _ [[], []] W progL_small hP hI (hE.below hBW) (h3.below hBW) (by decide) (fun j hj => ?_)).mono ?_
    · match j, hj with
      | 0, _ => decide
      | 1, _ => decide
    · rintro e w' ⟨v, ev, rfl, hcase, hb⟩
      rcases hcase with ⟨_, rfl, es, q1, q2⟩ | ⟨q, _⟩
      · rw [progL_found] at q2
        have := edgeSet_one q2
        subst this
        obtain ⟨va, vc, rfl, hc⟩ := q1
        obtain ⟨g, rfl, r0, r1⟩ := hc 0 (by decide)
        exact ⟨g, vc, rfl, r0, r1, hb⟩
      · rw [progL_cons] at q; cases q
  have hbox : W0.heap[w.heap.size + 2]? = some (lProg w.heap.size) := by
    have := heap_new ((w.alloc lVars).alloc lStmts) (lProg w.heap.size)
    rw [hW0]; simpa using this
  have b0 : W0.cell? ⟨w.heap.size + 2, 0, none⟩ = some (.slice (some ⟨w.heap.size, 0, none⟩) 2 2) := by rw [Lib.cell_of_heap hbox]; rfl
  have b1 : W0.cell? ⟨w.heap.size + 2, 1, none⟩ = some (.slice none 0 0) := by rw [Lib.cell_of_heap hbox]; rfl
  have b2 : W0.cell? ⟨w.heap.size + 2, 2, none⟩ = some (.slice (some ⟨w.heap.size + 1, 0, none⟩) 1 1) := by rw [Lib.cell_of_heap hbox]; rfl
  have HEQ := run_eqInE (1, 0) (1, 0)
  have HGD := fun op a b => run_guardE op a b (1, 0) (1, 0)
  rw [show eqE (1, 0) (1, 0) = true by decide] at HEQ
  rw [hW] at K1 hBW
  clear hbox hP hI hE hz0 hW h3
  go_enter Tryz.func9, Tryz.ntmps9
  go_upto_region 2 with fail
  rw [← hW0]
  clear hW0
  go_wp2_with (go_at_call 20; refine K1.out.mono ?_; rintro e w1 ⟨g1, c1, rfl, z0, z1, hb⟩)
  go_ret
  exact ⟨rfl, hBW.trans (hb.mono hBW.size)⟩
end Go.Proofs.YtimmkenmahagjaaGreatDoor

/-
  LargeProgram, by a contract: what it calls not large is small.
-/
namespace Go.Proofs.YtimmkenmahagjaaGreatDoor
open Go.RowKit Go.Extern.Stop Go.Stop Go.Extern

set_option maxRecDepth 100000 in
set_option maxHeartbeats 8000000 in
theorem large_any (P : ProgD) (v1 v2 v3 : Value) (w : World) (h : IsProg w v1 v2 v3 P) :
    Calls Tryz.prog 10 #[.agg #[v1, v2, v3], .int .i64 30] w fun e w' => ∃ r : Int, e = .returned (.int .i64 r) ∧ (r = 1 ∨ (r = 0 ∧ SmallP P ∧ SmallN P)) ∧ Below w.heap.size w w' := by
  have H : Hid (IsProg w v1 v2 v3 P) := h
  obtain ⟨⟨a1, c1, rfl, -, -⟩, ⟨a2, c2, rfl, -, -⟩, ⟨a3, c3, rfl, -, -⟩⟩ := h
  generalize hn1 : P.vars.length = n1 at *
  generalize hn2 : P.funs.length = n2 at *
  generalize hn3 : P.stmts.length = n3 at *
  have HN : Hid (P.vars.length = n1 ∧ P.funs.length = n2 ∧ P.stmts.length = n3) := ⟨hn1, hn2, hn3⟩
  clear hn1 hn2 hn3
  go_enter Tryz.func10, Tryz.ntmps10
  go_upto_region 1 with fail
  go_cut [36] (fun s wx => ∃ Bd, s = .bool Bd ∧ (Bd = false → n1 ≤ 41 ∧ n2 ≤ 8 ∧ n3 ≤ 81) ∧ wx = w.alloc (.cells #[.slice a1 n1 c1, .slice a2 n2 c2, .slice a3 n3 c3] 26))
  case first =>
    by_cases g1 : 15 < (n1 : Int)
    · by_cases g1' : (n1 : Int) = 41
      · have e41 : ((n1 : Int) != 41) = false := by rw [g1']; rfl
        by_cases g2 : 8 < (n2 : Int)
        · go_wp2_with fail
          go_meet
          exact ⟨true, rfl, (fun q => by cases q), rfl⟩
        · by_cases g3 : 30 < (n3 : Int)
          · by_cases g3' : (n3 : Int) = 81
            · have e81 : ((n3 : Int) != 81) = false := by rw [g3']; rfl
              go_wp2_with fail
              go_meet
              exact ⟨false, rfl, (fun _ => by omega), rfl⟩
            · have e81 : ((n3 : Int) != 81) = true := by simp [g3']
              go_wp2_with fail
              go_meet
              exact ⟨true, rfl, (fun q => by cases q), rfl⟩
          · go_wp2_with fail
            go_meet
            exact ⟨false, rfl, (fun _ => by omega), rfl⟩
      · have e41 : ((n1 : Int) != 41) = true := by simp [g1']
        go_wp2_with fail
        go_meet
        exact ⟨true, rfl, (fun q => by cases q), rfl⟩
    · by_cases g2 : 8 < (n2 : Int)
      · go_wp2_with fail
        go_meet
        exact ⟨true, rfl, (fun q => by cases q), rfl⟩
      · by_cases g3 : 30 < (n3 : Int)
        · by_cases g3' : (n3 : Int) = 81
          · have e81 : ((n3 : Int) != 81) = false := by rw [g3']; rfl
            go_wp2_with fail
            go_meet
            exact ⟨false, rfl, (fun _ => by omega), rfl⟩
          · have e81 : ((n3 : Int) != 81) = true := by simp [g3']
            go_wp2_with fail
            go_meet
            exact ⟨true, rfl, (fun q => by cases q), rfl⟩
        · go_wp2_with fail
          go_meet
          exact ⟨false, rfl, (fun _ => by omega), rfl⟩
  case rest =>
  obtain ⟨Bd, rfl, hsm, hwc⟩ := hcut
  have hB : Below w.heap.size w wc := by rw [hwc]; exact below1 w _
  have HX : Hid (Box3 wc w.heap.size (.slice a1 n1 c1) (.slice a2 n2 c2) (.slice a3 n3 c3)) := by
    show Box3 wc w.heap.size (.slice a1 n1 c1) (.slice a2 n2 c2) (.slice a3 n3 c3)
    rw [hwc]; exact box3_new w _ _ _ _
  clear hwc
  cases Bd with
  | true =>
    clear hsm
    go_wp2_with fail
    go_ret
    exact ⟨1, rfl, Or.inl rfl, hB⟩
  | false =>
    have hsz := hsm rfl
    obtain ⟨z1, z2, z3⟩ := hsz
    obtain ⟨x0, x1, x2⟩ := HX.out
    have HP : Hid (IsProg wc (.slice a1 n1 c1) (.slice a2 n2 c2) (.slice a3 n3 c3) P) := H.out.below hB
    clear hsm
    go_wp2_with fail
    go_loopw [5] (fun t wr => ∃ k : Nat, k ≤ n1 ∧ t = .int .i64 k ∧ wr = wc ∧ ∀ j, j < k → (P.vars.getD j []).length ≤ 20) (fun t _ => (n1 - intOf t).toNat)
    case atStart => exact ⟨0, Nat.zero_le _, rfl, rfl, fun j hj => absurd hj (Nat.not_lt_zero _)⟩
    case round =>
      obtain ⟨k, hk, rfl, hwr, hallv⟩ := hrel
      obtain rfl := hwr.symm
      have HAV : Hid (∀ j, j < k → (P.vars.getD j []).length ≤ 20) := hallv
      clear hwr hallv
      by_cases hlt : k < n1
      · obtain ⟨_, _, hv1, _, hst1⟩ := HP.out.vars
        obtain ⟨b, o, ha1, e0⟩ := hst1 k (by rw [HN.out.1]; exact hlt)
        obtain rfl : a1 = some ⟨b, o, none⟩ := by rw [← ha1]; exact (Value.slice.inj hv1).1
        obtain ⟨zb, hzb⟩ : ∃ zb, zb = S (P.vars.getD k []) := ⟨_, rfl⟩
        rw [← hzb] at e0
        have HZB : Hid (zb.size = (P.vars.getD k []).length) := by show zb.size = _; rw [hzb, S_size]
        clear hv1 hst1 ha1 hzb
        by_cases g : 20 < (zb.size : Int)
        · go_wp2_with fail
          go_ret
          exact ⟨1, rfl, Or.inl rfl, hB⟩
        · go_wp2_with fail
          go_roundw
          case rel =>
            refine ⟨k + 1, hlt, by go_num, trivial, fun j hj => ?_⟩
            rcases Nat.lt_succ_iff_lt_or_eq.1 hj with q | q
            · exact HAV.out j q
            · rw [q, ← HZB.out]; omega
          case measure => simp [intOf]; omega
      · have HVN : Hid (∀ v ∈ P.vars, v.length ≤ 1000000) := fun v hv => by
          obtain ⟨j, hj, rfl⟩ := List.mem_iff_getElem.1 hv
          have h8 := HAV.out j (by rw [HN.out.1] at hj; omega)
          have : P.vars.getD j [] = P.vars[j] := by simp [List.getD, hj]
          rw [this] at h8; omega
        clear HAV
        go_wp2_with fail
        go_loopw [6] (fun t wr => ∃ k : Nat, k ≤ n2 ∧ t = .int .i64 k ∧ wr = wc ∧ ∀ j, j < k → (P.funs.getD j default).params.length ≤ 8 ∧ (P.funs.getD j default).name.length ≤ 20) (fun t _ => (n2 - intOf t).toNat)
        case atStart => exact ⟨0, Nat.zero_le _, rfl, rfl, fun j hj => absurd hj (Nat.not_lt_zero _)⟩
        case round =>
          obtain ⟨k, hk, rfl, hwr, hall⟩ := hrel
          obtain rfl := hwr.symm
          have HA : Hid (∀ j, j < k → (P.funs.getD j default).params.length ≤ 8 ∧ (P.funs.getD j default).name.length ≤ 20) := hall
          clear hwr hall
          by_cases hlt : k < n2
          · obtain ⟨_, _, hv2, _, hst2⟩ := HP.out.funs
            obtain ⟨b, o, ha2, e0⟩ := hst2 k (by rw [HN.out.2.1]; exact hlt)
            obtain rfl : a2 = some ⟨b, o, none⟩ := by rw [← ha2]; exact (Value.slice.inj hv2).1
            obtain ⟨z, hze⟩ : ∃ z, z = P.funs.getD k default := ⟨_, rfl⟩
            have HZ : Hid (z = P.funs.getD k default) := hze
            rw [← hze] at e0
            obtain ⟨pv, r1, r2, ⟨-, pa, pc, rfl, -⟩, r3⟩ := e0
            obtain ⟨zb, hzb⟩ : ∃ zb, zb = S z.name := ⟨_, rfl⟩
            rw [← hzb] at r1
            have HZB : Hid (zb.size = z.name.length) := by show zb.size = _; rw [hzb, S_size]
            obtain ⟨m, hm⟩ : ∃ m, m = z.params.length := ⟨_, rfl⟩
            have HM : Hid (m = z.params.length) := hm
            rw [← hm] at r2
            clear hv2 hst2 ha2 hze hzb hm r3
            by_cases g : 20 < (zb.size : Int)
            · go_wp2_with fail
              go_ret
              exact ⟨1, rfl, Or.inl rfl, hB⟩
            · by_cases g8 : 8 < (m : Int)
              · go_wp2_with fail
                go_ret
                exact ⟨1, rfl, Or.inl rfl, hB⟩
              · go_wp2_with fail
                go_roundw
                case rel =>
                  refine ⟨k + 1, hlt, by go_num, trivial, fun j hj => ?_⟩
                  rcases Nat.lt_succ_iff_lt_or_eq.1 hj with q | q
                  · exact HA.out j q
                  · rw [q, ← HZ.out, ← HM.out, ← HZB.out]; omega
                case measure => simp [intOf]; omega
          · have HFN : Hid (∀ f ∈ P.funs, f.name.length ≤ 1000000) := fun f hf => by
              obtain ⟨j, hj, rfl⟩ := List.mem_iff_getElem.1 hf
              have h8 := HA.out j (by rw [HN.out.2.1] at hj; omega)
              have : P.funs.getD j default = P.funs[j] := by simp [List.getD, hj]
              rw [this] at h8; omega
            have HF : Hid (∀ f ∈ P.funs, f.params.length ≤ 100000) := fun f hf => by
              obtain ⟨j, hj, rfl⟩ := List.mem_iff_getElem.1 hf
              have h8 := HA.out j (by rw [HN.out.2.1] at hj; omega)
              have : P.funs.getD j default = P.funs[j] := by simp [List.getD, hj]
              rw [this] at h8; omega
            clear HA
            go_wp2_with fail
            go_loopw [7] (fun t wr => ∃ k : Nat, k ≤ n3 ∧ t = .int .i64 k ∧ wr = wc ∧ ∀ j, j < k → (P.stmts.getD j default).args.length ≤ 8) (fun t _ => (n3 - intOf t).toNat)
            case atStart => exact ⟨0, Nat.zero_le _, rfl, rfl, fun j hj => absurd hj (Nat.not_lt_zero _)⟩
            case round =>
              obtain ⟨k, hk, rfl, hwr, hall⟩ := hrel
              obtain rfl := hwr.symm
              have HA : Hid (∀ j, j < k → (P.stmts.getD j default).args.length ≤ 8) := hall
              clear hwr hall
              by_cases hlt : k < n3
              · obtain ⟨_, _, hv3, _, hst3⟩ := HP.out.stmts
                obtain ⟨b, o, ha3, e0⟩ := hst3 k (by rw [HN.out.2.2]; exact hlt)
                obtain rfl : a3 = some ⟨b, o, none⟩ := by rw [← ha3]; exact (Value.slice.inj hv3).1
                obtain ⟨z, hze⟩ : ∃ z, z = P.stmts.getD k default := ⟨_, rfl⟩
                have HZ : Hid (z = P.stmts.getD k default) := hze
                rw [← hze] at e0
                obtain ⟨pv, r1, r2, r3, r4, ⟨-, pa, pc, rfl, -⟩⟩ := e0
                obtain ⟨zb, hzb⟩ : ∃ zb, zb = S z.kind := ⟨_, rfl⟩
                rw [← hzb] at r1
                obtain ⟨m, hm⟩ : ∃ m, m = z.args.length := ⟨_, rfl⟩
                have HM : Hid (m = z.args.length) := hm
                rw [← hm] at r4
                clear hv3 hst3 ha3 hze hzb hm r2 r3
                by_cases g : 20 < (zb.size : Int)
                · go_wp2_with fail
                  go_ret
                  exact ⟨1, rfl, Or.inl rfl, hB⟩
                · by_cases g8 : 8 < (m : Int)
                  · go_wp2_with fail
                    go_ret
                    exact ⟨1, rfl, Or.inl rfl, hB⟩
                  · go_wp2_with fail
                    go_roundw
                    case rel =>
                      refine ⟨k + 1, hlt, by go_num, trivial, fun j hj => ?_⟩
                      rcases Nat.lt_succ_iff_lt_or_eq.1 hj with q | q
                      · exact HA.out j q
                      · rw [q, ← HZ.out, ← HM.out]; omega
                    case measure => simp [intOf]; omega
              · have HT : Hid (SmallP P) := by
                  refine ⟨by rw [HN.out.1]; omega, by rw [HN.out.2.1]; omega, by rw [HN.out.2.2]; omega, HF.out, fun s hs => ?_⟩
                  obtain ⟨j, hj, rfl⟩ := List.mem_iff_getElem.1 hs
                  have h8 := HA.out j (by rw [HN.out.2.2] at hj; omega)
                  have : P.stmts.getD j default = P.stmts[j] := by simp [List.getD, hj]
                  rw [this] at h8; omega
                clear HA
                go_wp2_with fail
                go_ret
                exact ⟨0, rfl, Or.inr ⟨rfl, HT.out, HVN.out, HFN.out⟩, hB⟩
end Go.Proofs.YtimmkenmahagjaaGreatDoor

/-
  ConsMore: the row of sets that it writes to.
-/
namespace Go.Proofs.YtimmkenmahagjaaGreatDoor
open Go.RowKit Go.Extern.Stop Go.Stop Go.Extern

theorem ne_blockC {w : World} {a b : Nat} {cs ds : Array Value} {T U : TypeId} {f g : Nat × Nat} (h1 : w.heap[a]? = some (.cells cs T f)) (h2 : w.heap[b]? = some (.cells ds U g)) (h : T ≠ U) : a ≠ b := fun e => by
  subst e
  rw [h1] at h2
  injection h2 with h2
  injection h2 with _ h3 _
  exact h h3
/-- The row of sets of one's own. -/
theorem OwnS.rowAt {w : World} {B : Nat} {u : Value} {hs : List (List Int)} {vs : List Value} (h : OwnS w B u hs vs) (hn : 0 < hs.length) : ∃ g cap cs, u = .slice (some ⟨g, 0, none⟩) hs.length cap ∧ B ≤ g ∧ w.heap[g]? = some (.cells cs TSI (0, 0)) ∧ ∀ j, j < hs.length → w.cell? ⟨g, j, none⟩ = some (vs.getD j .nilIface) := by
  rcases h.row.2 with ⟨q, e⟩ | ⟨g, cap, cur, hv, hg, hh, hcap, hmax, hsz, hcur⟩
  · omega
  · refine ⟨g, cap, cur, hv, hg, hh, fun j hj => ?_⟩
    rw [Lib.cell_of_heap hh]
    have h3 : (cur.toList.take (hs.length * 1))[j]? = vs[j]? := by rw [hcur]
    rw [List.getElem?_take_of_lt (by omega)] at h3
    simp only [Array.getElem?_toList] at h3
    rw [h3]
    have : j < vs.length := by rw [h.len]; exact hj
    simp [List.getD, this]
/-- A set of the row is turned into another one. -/
theorem OwnS.put {w : World} {B : Nat} {hs : List (List Int)} {vs : List Value} {g cap : Nat} (h : OwnS w B (.slice (some ⟨g, 0, none⟩) hs.length cap) hs vs) (n : Nat) (hn : n < hs.length) (x : Value) (zs : List Int) (hx : IsInts w x zs) (hxg : x.ownBlock ≠ some g) : IsSets (w.setCell ⟨g, n, none⟩ x) (.slice (some ⟨g, 0, none⟩) hs.length cap) (hs.set n zs) := by
  obtain ⟨g', cap', cs, e, hg, hh, hc⟩ := h.rowAt (by omega)
  cases e
  refine ⟨_, _, by rw [List.length_set], fun j hj => ?_⟩
  rw [List.length_set] at hj
  by_cases e : j = n
  · subst e
    refine ⟨g, 0, x, rfl, ?_, ?_⟩
    · rw [Nat.zero_add]; exact World.cell?_setCell_same _ _ _ (hc j hj)
    · rw [show (hs.set j zs).getD j [] = zs by simp [List.getD, hj]]
      exact isInts_set hx hxg
  · obtain ⟨pa, pc, h1, h2⟩ := h.sets j hj
    refine ⟨g, 0, vs.getD j .nilIface, rfl, ?_, ?_⟩
    · rw [Nat.zero_add, World.cell?_setCell_other _ _ _ _ (fun q => by injection q; omega)]; exact hc j hj
    · rw [getD_set_otherE _ _ _ _ _ (fun q => e q.symm), h1]
      refine isInts_set (isCap_of_owns h2).1 (fun q => ?_)
      rcases h2.2 with ⟨q1, _⟩ | ⟨g2, cap2, cur2, hv2, _, hh2, _⟩
      · rw [q1] at q; cases q
      · rw [hv2] at q
        have hgg : g2 = g := by simpa [Value.ownBlock] using q
        exact ne_blockC hh2 hh (by decide) hgg
end Go.Proofs.YtimmkenmahagjaaGreatDoor

/-
  ConsOrder answers true at every program and sets that read as plain data.
-/
namespace Go.Proofs.YtimmkenmahagjaaGreatDoor
open Go.RowKit Go.Extern.Stop Go.Stop Go.Extern

theorem SmallP.rev {P : ProgD} (h : SmallP P) : SmallP (revP P) :=
  ⟨h.1, h.2.1, by rw [revP_len]; exact h.2.2.1, h.2.2.2.1, fun s hs => h.2.2.2.2 s (List.mem_reverse.1 hs)⟩
theorem drop_rev {P : ProgD} {k : Nat} (hk : k < P.stmts.length) : (P.stmts.drop k).reverse = (P.stmts.drop (k + 1)).reverse ++ [P.stmts.getD k default] := by
  rw [List.drop_eq_getElem_cons hk, List.reverse_cons]
  simp [List.getD, hk]
theorem drop_new {P : ProgD} {k : Nat} (hk : k < P.stmts.length) (h : ∀ s ∈ P.stmts.drop (k + 1), s.kind ≠ kNew) (h1 : (P.stmts.getD k default).kind ≠ kNew) : ∀ s ∈ P.stmts.drop k, s.kind ≠ kNew := fun s hs => by
  rw [List.drop_eq_getElem_cons hk] at hs
  rcases List.mem_cons.1 hs with e | e
  · rw [e]
    simpa [List.getD, hk] using h1
  · exact h s e
theorem stmt_kind (s : StmtD) (kd : ByteArray) (hk : kd = S s.kind) : (kd.toList == [110, 101, 119]) = (s.kind == kNew) := by rw [hk, S_toList]; rfl

theorem keep6C {w0 w : World} {p0 p1 p2 p3 p4 p5 : Addr} {v0 v1 v2 v3 v4 v5 : Value} (k0 : w0.cell? p0 = some v0) (k1 : w0.cell? p1 = some v1) (k2 : w0.cell? p2 = some v2) (k3 : w0.cell? p3 = some v3) (k4 : w0.cell? p4 = some v4) (k5 : w0.cell? p5 = some v5) (hb : Below w0.heap.size w0 w) :
    Below w0.heap.size w0 w ∧ w.cell? p0 = some v0 ∧ w.cell? p1 = some v1 ∧ w.cell? p2 = some v2 ∧ w.cell? p3 = some v3 ∧ w.cell? p4 = some v4 ∧ w.cell? p5 = some v5 :=
  ⟨hb, cell_keep hb k0, cell_keep hb k1, cell_keep hb k2, cell_keep hb k3, cell_keep hb k4, cell_keep hb k5⟩
set_option maxRecDepth 100000 in
set_option maxHeartbeats 16000000 in
theorem consOrder_any (a : Nat → Addr) (P : ProgD) (v1 v2 v3 hv : Value) (hs : List (List Int)) (w : World) (h : IsProg w v1 v2 v3 P) (hH : IsSets w hv hs) (hE : Errs5 w a) (h3 : Three w a) :
    Calls Tryz.prog 5 #[.agg #[v1, v2, v3], hv] w fun e w' => e = .returned (.bool true) ∧ Below w.heap.size w w' := by
  have H : Hid (IsProg w v1 v2 v3 P ∧ IsSets w hv hs ∧ Errs5 w a ∧ Three w a) := ⟨h, hH, hE, h3⟩
  obtain ⟨⟨a1, c1, rfl, -, -⟩, ⟨a2, c2, rfl, -, -⟩, ⟨a3, c3, rfl, -, -⟩⟩ := h
  obtain ⟨ha, hc, rfl, -⟩ := hH
  obtain ⟨n1, hn1⟩ : ∃ m, m = P.vars.length := ⟨_, rfl⟩
  obtain ⟨n2, hn2⟩ : ∃ m, m = P.funs.length := ⟨_, rfl⟩
  obtain ⟨n3, hn3⟩ : ∃ m, m = P.stmts.length := ⟨_, rfl⟩
  obtain ⟨n, hnn⟩ : ∃ m, m = hs.length := ⟨_, rfl⟩
  have HN : Hid (n1 = P.vars.length ∧ n2 = P.funs.length ∧ n3 = P.stmts.length ∧ n = hs.length) := ⟨hn1, hn2, hn3, hnn⟩
  rw [← hn1, ← hn2, ← hn3] at H ⊢
  rw [← hnn] at H ⊢
  clear hn1 hn2 hn3 hnn hE h3
  obtain ⟨W, hW⟩ : ∃ W, W = w.alloc (.cells #[.slice a1 n1 c1, .slice a2 n2 c2, .slice a3 n3 c3] 26) := ⟨_, rfl⟩
  have hBW : Below w.heap.size w W := by rw [hW]; exact below1 w _
  have HBX : Hid (Box3 W w.heap.size (.slice a1 n1 c1) (.slice a2 n2 c2) (.slice a3 n3 c3)) := by
    show Box3 W _ _ _ _
    rw [hW]; exact box3_new w _ _ _ _
  have K1 : Hid (Calls Tryz.prog 9 #[] W fun e w' => e = .returned (.bool true) ∧ Below W.heap.size W w') := ruled_any a W (H.out.2.2.1.below hBW) (H.out.2.2.2.below hBW)
  rw [hW] at K1
  go_enter Tryz.func5, Tryz.ntmps5
  go_wp2_with fail
  refine K1.out.mono ?_
  rintro e w1 ⟨rfl, hB1⟩
  rw [← hW] at hB1
  clear K1 hW
  obtain ⟨p0, p1, p2⟩ := HBX.out.below hB1
  have hB1w : Below w.heap.size w w1 := hBW.trans (hB1.mono hBW.size)
  go_wp2_with fail
  refine (large_any P _ _ _ w1 (H.out.1.below hB1w)).mono ?_
  rintro e w2 ⟨r, rfl, hr, hB2⟩
  have hB2w : Below w.heap.size w w2 := hB1w.trans (hB2.mono hB1w.size)
  rcases hr with rfl | ⟨rfl, hs1, -⟩
  · go_wp2_with fail
    go_ret
    exact ⟨rfl, hB2w⟩
  have HS : Hid (SmallP P) := hs1
  clear hs1
  replace p0 := cell_keep hB2 p0
  replace p1 := cell_keep hB2 p1
  replace p2 := cell_keep hB2 p2
  go_wp2_with fail
  refine (largeSets_any hs _ w2 (H.out.2.1.below hB2w)).mono ?_
  rintro e w3 ⟨r, rfl, hr, hB3⟩
  have hB3w : Below w.heap.size w w3 := hB2w.trans (hB3.mono hB2w.size)
  rcases hr with rfl | ⟨rfl, hl50, hl60⟩
  · go_wp2_with fail
    go_ret
    exact ⟨rfl, hB3w⟩
  rw [← HN.out.2.2.2] at hl50 hl60
  replace p0 := cell_keep hB3 p0
  replace p1 := cell_keep hB3 p1
  replace p2 := cell_keep hB3 p2
  have HL : Hid (n ≤ 50 ∧ ∀ j, j < n → (hs.getD j []).length ≤ 60) := ⟨hl50, hl60⟩
  clear hl60 hB1 hB2 hB1w hB2w
  go_wp2_with fail
  refine (ownProgram_any P _ _ _ w3 HS.out (H.out.1.below hB3w)).mono ?_
  rintro e w5 ⟨u1, u2, u3, rfl, hq, hB5⟩
  have hB5w : Below w.heap.size w w5 := hB3w.trans (hB5.mono hB3w.size)
  have HQ : Hid (IsProg w5 u1 u2 u3 P) := hq
  obtain ⟨⟨b1, d1, rfl, -, -⟩, ⟨b2, d2, rfl, -, -⟩, ⟨b3, d3, rfl, -, -⟩⟩ := hq
  rw [← HN.out.1, ← HN.out.2.1, ← HN.out.2.2.1] at HQ ⊢
  clear p0 p1 p2 hB5 hB3w HBX hBW hB3
  have HSt : Hid (∀ wx, Below w5.heap.size w5 wx → ∀ j, j < n3 → ∃ g o, b3 = some ⟨g, o, none⟩ ∧ StmtAt wx g (o + j * 4) (P.stmts.getD j default)) := fun wx hb j hj => by
    obtain ⟨a', c', e, _, q⟩ := (HQ.out.below hb).stmts
    injection e with e1 e2 e3
    obtain ⟨g, o, r1, r2⟩ := q j (by rw [← HN.out.2.2.1]; exact hj)
    exact ⟨g, o, by rw [e1, r1], r2⟩
  go_upto_region 5 with fail
  obtain ⟨W6, hW6⟩ : ∃ W6, W6 = w5.alloc (.cells #[.slice b1 n1 d1, .slice b2 n2 d2, .slice b3 n3 d3] 26) := ⟨_, rfl⟩
  have hB56 : Below w5.heap.size w5 W6 := by rw [hW6]; exact below1 w5 _
  have hB6w : Below w.heap.size w W6 := hB5w.trans (hB56.mono hB5w.size)
  have hX6 : Box3 W6 w5.heap.size (.slice b1 n1 d1) (.slice b2 n2 d2) (.slice b3 n3 d3) := by rw [hW6]; exact box3_new w5 _ _ _ _
  rw [← hW6]
  clear hW6
  obtain ⟨qb, hqb⟩ : ∃ b, b = w5.heap.size := ⟨_, rfl⟩
  rw [← hqb] at hX6 ⊢
  clear hqb
  have XQ : Hid (Box3 W6 qb (.slice b1 n1 d1) (.slice b2 n2 d2) (.slice b3 n3 d3)) := hX6
  obtain ⟨y0, y1, y2⟩ := hX6
  have HQ6 : Hid (∀ wx, Below W6.heap.size W6 wx → IsProg wx (.slice b1 n1 d1) (.slice b2 n2 d2) (.slice b3 n3 d3) P ∧ IsSets wx (.slice ha n hc) hs ∧ Errs5 wx a ∧ Three wx a) := fun wx hwx => ⟨(HQ.out.below hB56).below hwx, (H.out.2.1.below hB6w).below hwx, (H.out.2.2.1.below hB6w).below hwx, (H.out.2.2.2.below hB6w).below hwx⟩
  have HSt6 : Hid (∀ wx, Below W6.heap.size W6 wx → ∀ j, j < n3 → ∃ g o, b3 = some ⟨g, o, none⟩ ∧ StmtAt wx g (o + j * 4) (P.stmts.getD j default)) := fun wx hb => HSt.out wx (hB56.trans (hb.mono hB56.size))
  have HB6 : Hid (Below w.heap.size w W6) := hB6w
  have hn3l : n3 ≤ 100000 := by rw [HN.out.2.2.1]; exact HS.out.2.2.1
  clear HSt HQ hB56 hB5w hB6w
  go_wp2_with fail
  go_loopw [4, 7, 8] (fun t4 t7 t8 wr => ∃ (i : Nat) (ua : Option Addr) (uc : Nat) (qs : List Value), i ≤ n3 ∧ t4 = .bool false ∧ t7 = .slice ua (n3 - i) uc ∧ t8 = .int .i64 ((i : Int) - 1) ∧ RowS W6 wr (.slice ua (n3 - i) uc) (P.stmts.drop i).reverse qs ∧ (∀ s ∈ P.stmts.drop i, s.kind ≠ kNew) ∧ Below W6.heap.size W6 wr) (fun _ _ t8 _ => (intOf t8 + 1).toNat)
  case atStart =>
    refine ⟨n3, none, 0, [], Nat.le_refl _, rfl, by rw [Nat.sub_self], by go_num, ?_, fun s hs => ?_, Below.refl _ _⟩
    · rw [List.drop_of_length_le (by rw [HN.out.2.2.1]; exact Nat.le_refl _), Nat.sub_self]; exact RowS.nil _ _
    · rw [List.drop_of_length_le (by rw [HN.out.2.2.1]; exact Nat.le_refl _)] at hs; cases hs
  case round =>
    obtain ⟨i, ua, uc, qs, hi, rfl, rfl, rfl, hrow, hno, hwr⟩ := hrel
    obtain ⟨y0, y1, y2⟩ := XQ.out.below hwr
    by_cases hlt : 0 < i
    · obtain ⟨k, rfl⟩ : ∃ k, i = k + 1 := ⟨i - 1, by omega⟩
      rw [show ((k + 1 : Nat) : Int) - 1 = (k : Int) by omega]
      have hk3 : k < n3 := hi
      have hki : (k : Int) < n3 := by omega
      have hkl : k < P.stmts.length := by rw [← HN.out.2.2.1]; exact hk3
      obtain ⟨g, o, rfl, av, e0, e1, e2, e3, e4⟩ := HSt6.out wr hwr k hk3
      obtain ⟨D, hD⟩ : ∃ D, D = ((P.stmts.getD k default).kind == kNew) := ⟨_, rfl⟩
      have hcap0 : IsCap W6 av (P.stmts.getD k default).args := by
        obtain ⟨g', o', q0, av', f0, f1, f2, f3, f4⟩ := HSt6.out W6 (Below.refl _ _) k hk3
        cases q0
        have := cell_keep hwr f3
        rw [e3] at this
        cases this
        exact f4
      obtain ⟨-, aa, ac, rfl, -⟩ := e4
      obtain ⟨va, vn, vc, w', hr, hvn, hrow', hbw, -⟩ := hrow.add hwr (by have := HN.out.2.2.1; rw [List.length_reverse, List.length_drop]; omega) (P.stmts.getD k default) _ rfl hcap0
      have HP : Hid (RowS W6 w' (.slice va vn vc) (P.stmts.drop k).reverse (qs ++ [.slice aa (P.stmts.getD k default).args.length ac]) ∧ Below W6.heap.size W6 w' ∧ vn = n3 - k ∧ ((P.stmts.getD k default).kind ≠ kNew → ∀ s ∈ P.stmts.drop k, s.kind ≠ kNew)) := by
        refine ⟨?_, hwr.trans hbw, ?_, fun q => drop_new hkl hno q⟩
        · rw [drop_rev hkl]; exact hrow'
        · rw [hvn, List.length_reverse, List.length_drop, ← HN.out.2.2.1]; omega
      obtain ⟨kd, hkd⟩ : ∃ kd, kd = S (P.stmts.getD k default).kind := ⟨_, rfl⟩
      have hd : (kd.toList == [110, 101, 119]) = D := by rw [stmt_kind _ kd hkd, hD]
      have HD : Hid (D = ((P.stmts.getD k default).kind == kNew)) := hD
      obtain ⟨x1, hx1⟩ : ∃ z, z = (P.stmts.getD k default).x := ⟨_, rfl⟩
      obtain ⟨x2, hx2⟩ : ∃ z, z = (P.stmts.getD k default).y := ⟨_, rfl⟩
      obtain ⟨na, hna⟩ : ∃ z, z = (P.stmts.getD k default).args.length := ⟨_, rfl⟩
      rw [← hkd] at e0 hr
      rw [← hx1] at e1 hr
      rw [← hx2] at e2 hr
      rw [← hna] at e3 hr HP
      have HR : Hid _ := hr
      have hBr : Below w.heap.size w wr := HB6.out.trans (hwr.mono HB6.out.size)
      clear hkd hx1 hx2 hna hr hrow hrow' hbw hcap0 hno hD hkl hvn
      cases D with
      | true =>
        go_wp2_with fail
        go_ret
        exact ⟨rfl, hBr⟩
      | false =>
        go_wp2_with (at_builtin; refine Lib.wpList_append_run _ rfl _ _ _ _ rfl _ _ rfl rfl _ _ HR.out ?_)
        go_roundw
        case rel =>
          have e := HP.out.2.2.1
          subst e
          exact ⟨k, va, vc, _, by omega, rfl, rfl, by go_num, HP.out.1, HP.out.2.2.2 (fun q => by have := HD.out; rw [q] at this; cases this), HP.out.2.1⟩
        case measure => simp [intOf]
    · have hi0 : i = 0 := by omega
      subst hi0
      rw [Nat.sub_zero, List.drop_zero] at hrow
      rw [List.drop_zero] at hno
      rw [Nat.sub_zero]
      rw [show ((0 : Nat) : Int) - 1 = -1 by omega]
      have HNN : Hid (NoNew P) := hno
      have HRS : Hid (IsStmts wr (.slice ua n3 uc) (revP P).stmts) := hrow.isStmts hwr
      clear hrow hno hi hlt
      go_upto_region 13 with fail
      obtain ⟨W9, hW9⟩ : ∃ W9, W9 = wr.alloc (.cells #[.slice b1 n1 d1, .slice b2 n2 d2, .slice ua n3 uc] 26) := ⟨_, rfl⟩
      have hB9 : Below wr.heap.size wr W9 := by rw [hW9]; exact below1 wr _
      have hX9 : Box3 W9 wr.heap.size (.slice b1 n1 d1) (.slice b2 n2 d2) (.slice ua n3 uc) := by rw [hW9]; exact box3_new wr _ _ _ _
      rw [← hW9]
      clear hW9
      obtain ⟨rb, hrb⟩ : ∃ b, b = wr.heap.size := ⟨_, rfl⟩
      rw [← hrb] at hX9 ⊢
      clear hrb
      have hB69 : Below W6.heap.size W6 W9 := hwr.trans (hB9.mono hwr.size)
      have XQ9 : Hid (Box3 W9 qb (.slice b1 n1 d1) (.slice b2 n2 d2) (.slice b3 n3 d3) ∧ Box3 W9 rb (.slice b1 n1 d1) (.slice b2 n2 d2) (.slice ua n3 uc)) := ⟨XQ.out.below hB69, hX9⟩
      have HP9 : Hid (∀ wx, Below W9.heap.size W9 wx → IsProg wx (.slice b1 n1 d1) (.slice b2 n2 d2) (.slice b3 n3 d3) P ∧ IsProg wx (.slice b1 n1 d1) (.slice b2 n2 d2) (.slice ua n3 uc) (revP P) ∧ IsSets wx (.slice ha n hc) hs ∧ Errs5 wx a ∧ Three wx a ∧ Below w.heap.size w wx) := fun wx hwx => by
        have h6 := hB69.trans (hwx.mono hB69.size)
        obtain ⟨q1, q2, q3, q4⟩ := HQ6.out wx h6
        exact ⟨q1, ⟨q1.vars, q1.funs, (HRS.out.below hB9).below hwx⟩, q2, q3, q4, HB6.out.trans (h6.mono HB6.out.size)⟩
      have hsl : hs.length ≤ 1000000 := by have := HN.out.2.2.2; have := HL.out.1; omega
      have hsl2 : ∀ j, j < hs.length → (hs.getD j []).length ≤ 1000000 := fun j hj => by have := HL.out.2 j (by rw [HN.out.2.2.2]; exact hj); omega
      have HSL : Hid (hs.length ≤ 1000000 ∧ ∀ j, j < hs.length → (hs.getD j []).length ≤ 1000000) := ⟨hsl, hsl2⟩
      obtain ⟨C, hC⟩ : ∃ C, C = closedB P hs := ⟨_, rfl⟩
      obtain ⟨M, hM⟩ : ∃ M, M = nodesD P := ⟨_, rfl⟩
      have KO : Hid (∀ W0, Below W9.heap.size W9 W0 → ∀ wx, Below W0.heap.size W0 wx → Calls Tryz.prog 13 #[.slice ha n hc] wx fun e w' => ∃ ya yc, e = .returned (.slice ya n yc) ∧ IsSets w' (.slice ya n yc) hs ∧ Below W0.heap.size W0 w') := fun W0 hW0 wx hwx => by
        have := ownSets_any hs _ wx (HP9.out wx (hW0.trans (hwx.mono hW0.size))).2.2.1 hsl hsl2
        rw [← HN.out.2.2.2] at this
        exact this.mono fun e w' ⟨ya, yc, vs, r1, r2, r3⟩ => ⟨ya, yc, r1, r2.isSets, hwx.trans (r3.mono hwx.size)⟩
      have KP : Hid (∀ wx s3 Q, Below W9.heap.size W9 wx → (Q = P ∧ s3 = Value.slice b3 n3 d3 ∨ Q = revP P ∧ s3 = Value.slice ua n3 uc) → IsProg wx (.slice b1 n1 d1) (.slice b2 n2 d2) s3 Q ∧ SmallP Q) := fun wx s3 Q hb hq => by
        rcases hq with ⟨rfl, rfl⟩ | ⟨rfl, rfl⟩
        · exact ⟨(HP9.out wx hb).1, HS.out⟩
        · exact ⟨(HP9.out wx hb).2.1, HS.out.rev⟩
      have KEd : Hid (∀ W0, Below W9.heap.size W9 W0 → ∀ wx s3 Q va vc, Below W0.heap.size W0 wx → (Q = P ∧ s3 = Value.slice b3 n3 d3 ∨ Q = revP P ∧ s3 = Value.slice ua n3 uc) → IsSets wx (.slice va n vc) hs → Calls Tryz.prog 20 #[.agg #[.slice b1 n1 d1, .slice b2 n2 d2, s3], .slice va n vc] wx fun e w' => ∃ v ev, e = .returned (.tuple #[v, ev]) ∧ ((consE Q hs = none ∧ ev = .nilIface ∧ ∃ es, IsPairs w' v es ∧ EdgeSet (foundD Q hs) es) ∨ ((consE Q hs).isNone = false ∧ ErrV w' a (consE Q hs) ev)) ∧ Below W0.heap.size W0 w') := fun W0 hW0 wx s3 Q va vc hb hq hi => by
        have hb9 := hW0.trans (hb.mono hW0.size)
        obtain ⟨r1, r2⟩ := KP.out wx s3 Q hb9 hq
        exact (edges_any a Q _ _ _ _ hs wx r2 r1 hi (HP9.out wx hb9).2.2.2.1 (HP9.out wx hb9).2.2.2.2.1 hsl hsl2).mono fun e w' ⟨v, ev, h1, h2, h3⟩ => ⟨v, ev, h1, h2.imp (fun x => x) (fun x => ⟨x.1, x.2.2⟩), hb.trans (h3.mono hb.size)⟩
      have KCl : Hid (consE P hs = none → ∀ W0, Below W9.heap.size W9 W0 → ∀ wx s3 Q va vc, Below W0.heap.size W0 wx → (Q = P ∧ s3 = Value.slice b3 n3 d3 ∨ Q = revP P ∧ s3 = Value.slice ua n3 uc) → IsSets wx (.slice va n vc) hs → Calls Tryz.prog 21 #[.agg #[.slice b1 n1 d1, .slice b2 n2 d2, s3], .slice va n vc] wx fun e w' => e = .returned (.tuple #[.bool C, .nilIface]) ∧ Below W0.heap.size W0 w') := fun hce W0 hW0 wx s3 Q va vc hb hq hi => by
        have hb9 := hW0.trans (hb.mono hW0.size)
        obtain ⟨r1, r2⟩ := KP.out wx s3 Q hb9 hq
        have hcQ : consE Q hs = none ∧ closedB Q hs = closedB P hs := by
          rcases hq with ⟨rfl, -⟩ | ⟨rfl, -⟩
          · exact ⟨hce, rfl⟩
          · refine ⟨Option.isNone_iff_eq_none.1 ?_, rev_closed HNN.out hs⟩
            rw [rev_consE HNN.out, hce]; rfl
        refine (closed_any a Q _ _ _ _ hs wx r2 r1 hi (HP9.out wx hb9).2.2.2.1 (HP9.out wx hb9).2.2.2.2.1 hsl hsl2).mono ?_
        rintro e w' ⟨b, ev, rfl, hcs, h3⟩
        rcases hcs with ⟨-, rfl, rfl⟩ | ⟨q, -, -⟩
        · exact ⟨by rw [hcQ.2, hC], hb.trans (h3.mono hb.size)⟩
        · rw [hcQ.1] at q; cases q
      have KN : Hid (∀ wx s3, Below W9.heap.size W9 wx → (s3 = Value.slice b3 n3 d3 ∨ s3 = Value.slice ua n3 uc) → Calls Tryz.prog 26 #[.agg #[.slice b1 n1 d1, .slice b2 n2 d2, s3]] wx fun e w' => e = .returned (.int .i64 M) ∧ Below wx.heap.size wx w') := fun wx s3 hb hq => by
        rw [hM]
        rcases hq with rfl | rfl
        · exact nodes_any a P _ _ _ wx HS.out (HP9.out wx hb).1 (HP9.out wx hb).2.2.2.1
        · have := nodes_any a (revP P) _ _ _ wx HS.out.rev (HP9.out wx hb).2.1 (HP9.out wx hb).2.2.2.1
          rw [rev_nodes HNN.out] at this
          exact this
      obtain ⟨y0, y1, y2⟩ := XQ9.out.1
      have HBW9 : Hid (Below W9.heap.size W9 W9) := Below.refl _ _
      clear hsl hsl2 hB9 hX9 hB69 hwr HRS KP hl50 hC hM
      go_region_held3 (fun wx => Below W9.heap.size W9 wx ∧ wx.cell? ⟨qb, 0, none⟩ = some (.slice b1 n1 d1) ∧ wx.cell? ⟨qb, 1, none⟩ = some (.slice b2 n2 d2) ∧ wx.cell? ⟨qb, 2, none⟩ = some (.slice b3 n3 d3))
        ((go_split_ands; refine keep3C y0 y1 y2 ?_; repeat (with_reducible first | assumption | exact Below.refl _ _ | refine Below.drew ?_)))
        (first
          | (go_at_call 13; refine (KO.out W9 HBW9.out _ ?_).mono ?_; (go_split_ands; assumption); rintro e w10 ⟨ya, yc, rfl, hi10, hb10⟩)
          | (go_at_call 20; refine (KEd.out W9 HBW9.out _ _ P _ _ ?_ (Or.inl ⟨rfl, rfl⟩) ?_).mono ?_; (go_split_ands; assumption); (first | exact hi10 | exact hi10.below (Below.refl _ _).drew); rintro e w11 ⟨v11, er11, rfl, hcase11, hb11⟩))
      have HC11 : Hid (((consE P hs = none ∧ er11 = .nilIface ∧ ∃ es, IsPairs w11 v11 es ∧ EdgeSet (foundD P hs) es) ∨ ((consE P hs).isNone = false ∧ ErrV w11 a (consE P hs) er11)) ∧ Below W9.heap.size W9 w11) := ⟨hcase11, hb11⟩
      clear hcase11 hi10 y0 y1 y2
      obtain ⟨z0, z1, z2⟩ := XQ9.out.2.below HC11.out.2
      go_wp2_with fail
      go_region_held3 (fun wx => Below w11.heap.size w11 wx ∧ wx.cell? ⟨rb, 0, none⟩ = some (.slice b1 n1 d1) ∧ wx.cell? ⟨rb, 1, none⟩ = some (.slice b2 n2 d2) ∧ wx.cell? ⟨rb, 2, none⟩ = some (.slice ua n3 uc))
        ((go_split_ands; refine keep3C z0 z1 z2 ?_; repeat (with_reducible first | assumption | exact Below.refl _ _ | refine Below.drew ?_)))
        (first
          | (go_at_call 13; refine (KO.out w11 HC11.out.2 _ ?_).mono ?_; (go_split_ands; assumption); rintro e w12 ⟨ya, yc, rfl, hi12, hb12⟩)
          | (go_at_call 20; refine (KEd.out w11 HC11.out.2 _ _ (revP P) _ _ ?_ (Or.inr ⟨rfl, rfl⟩) ?_).mono ?_; (go_split_ands; assumption); (first | exact hi12 | exact hi12.below (Below.refl _ _).drew); rintro e w13 ⟨v13, er13, rfl, hcase13, hb13⟩))
      have HB13 : Hid (Below w11.heap.size w11 w13 ∧ Below W9.heap.size W9 w13) := ⟨hb13, HC11.out.2.trans (hb13.mono HC11.out.2.size)⟩
      clear hi12 z0 z1 z2 KEd
      rcases HC11.out.1 with ⟨hce, rfl, es, q1, q2⟩ | ⟨hce, hev⟩
      case inr =>
        rcases hcase13 with ⟨hce2, -, -⟩ | ⟨-, hev2⟩
        · have := rev_consE HNN.out hs
          rw [hce2, hce] at this
          cases this
        · have h1 : ∃ t x, er11 = .iface t (.pointer (some x)) := by
            rcases hev.cases with ⟨q, _⟩ | ⟨_, q⟩
            · rw [q] at hce; cases hce
            · exact q
          have h2 : ∃ t x, er13 = .iface t (.pointer (some x)) := by
            rcases hev2.cases with ⟨q, _⟩ | ⟨_, q⟩
            · rw [rev_consE HNN.out, hce] at q; cases q
            · exact q
          obtain ⟨t1, x1, rfl⟩ := h1
          obtain ⟨t2, x2, rfl⟩ := h2
          have HBF : Hid (Below w.heap.size w w13) := (HP9.out w13 HB13.out.2).2.2.2.2.2
          clear hev hev2 HC11 hce
          go_wp2_with fail
          go_ret
          exact ⟨rfl, by first | exact HBF.out | exact HBF.out.drew⟩
      case inl =>
        rcases hcase13 with ⟨-, rfl, es', q3, q4⟩ | ⟨hce2, -⟩
        case inr =>
          rw [rev_consE HNN.out, hce] at hce2
          cases hce2
        have hes := rev_edges HNN.out q2 q4
        subst hes
        obtain ⟨ea, ec, rfl, hp1⟩ := q1.below HB13.out.1
        obtain ⟨fa, fc, rfl, hp2⟩ := q3
        obtain ⟨la, hla⟩ : ∃ m, m = es.length := ⟨_, rfl⟩
        rw [← hla] at hp1 hp2 ⊢
        have KC : Hid _ := KCl.out hce
        have HCE : Hid (∀ wx, Below w13.heap.size w13 wx → (∀ j, j < la → ∃ g, ea = some ⟨g, 0, none⟩ ∧ wx.cell? ⟨g, j * 2, none⟩ = some (.int .i64 (es.getD j default).1) ∧ wx.cell? ⟨g, j * 2 + 1, none⟩ = some (.int .i64 (es.getD j default).2)) ∧ (∀ j, j < la → ∃ g, fa = some ⟨g, 0, none⟩ ∧ wx.cell? ⟨g, j * 2, none⟩ = some (.int .i64 (es.getD j default).1) ∧ wx.cell? ⟨g, j * 2 + 1, none⟩ = some (.int .i64 (es.getD j default).2))) := fun wx hwx => by
          refine ⟨fun j hj => ?_, fun j hj => ?_⟩
          · obtain ⟨g, h1, h2, h3⟩ := hp1 j hj
            exact ⟨g, h1, cell_keep hwx h2, cell_keep hwx h3⟩
          · obtain ⟨g, h1, h2, h3⟩ := hp2 j hj
            exact ⟨g, h1, cell_keep hwx h2, cell_keep hwx h3⟩
        have hla6 : la ≤ 1000000 := by
          rw [hla]
          have h1 := up_length q2.up (fun p hp => ((q2.mem p).1 hp).1)
          obtain ⟨hck, hok⟩ := consE_ok hce
          have h2 := foundD_len hok hck
          omega
        clear hp1 hp2 q1 q2 q4 hla HC11 KCl hce hb13
        go_wp2_with fail
        go_loopw [14] (fun t wr => ∃ k : Nat, k ≤ la ∧ t = .int .i64 k ∧ Below w13.heap.size w13 wr) (fun t _ => (la - intOf t).toNat)
        case atStart => exact ⟨0, Nat.zero_le _, rfl, Below.refl _ _⟩
        case round =>
          obtain ⟨k, hk, rfl, hwr⟩ := hrel
          by_cases hlt : k < la
          · obtain ⟨c1, c2⟩ := HCE.out _ hwr
            obtain ⟨ga, rfl, e0, e1⟩ := c1 k hlt
            obtain ⟨gb, rfl, d0, d1⟩ := c2 k hlt
            clear c1 c2
            have hki : (k : Int) < la := by omega
            have HEQ := run_eqInE (es.getD k default) (es.getD k default)
            rw [(eqE_iff _ _).2 rfl] at HEQ
            have HGD := fun op a b => run_guardE op a b (es.getD k default) (es.getD k default)
            obtain ⟨x1, hx1⟩ : ∃ z, z = (es.getD k default).1 := ⟨_, rfl⟩
            obtain ⟨x2, hx2⟩ : ∃ z, z = (es.getD k default).2 := ⟨_, rfl⟩
            rw [← hx1] at e0 d0 HEQ HGD
            rw [← hx2] at e1 d1 HEQ HGD
            clear hx1 hx2
            go_upto_region 22 with fail
            go_quiet (fail)
            generalize hwq : World.drewN wr _ = wq
            have hBq : Below w13.heap.size w13 wq := by rw [← hwq]; exact below_drewN hwr _
            clear hwq e0 e1 d0 d1 HEQ HGD
            go_wp2_with fail
            go_roundw
            case rel => exact ⟨k + 1, hlt, by go_num, hBq⟩
            case measure => simp [intOf]; omega
          · have HBr : Hid (Below W9.heap.size W9 wr) := HB13.out.2.trans (hwr.mono HB13.out.2.size)
            obtain ⟨y0, y1, y2⟩ := XQ9.out.1.below HBr.out
            clear hwr HCE
            go_upto_region 24 with fail
            go_region_held3 (fun wx => Below wr.heap.size wr wx ∧ wx.cell? ⟨qb, 0, none⟩ = some (.slice b1 n1 d1) ∧ wx.cell? ⟨qb, 1, none⟩ = some (.slice b2 n2 d2) ∧ wx.cell? ⟨qb, 2, none⟩ = some (.slice b3 n3 d3))
              ((go_split_ands; refine keep3C y0 y1 y2 ?_; repeat (with_reducible first | assumption | exact Below.refl _ _ | refine Below.drew ?_)))
              (first
                | (go_at_call 13; refine (KO.out wr HBr.out _ ?_).mono ?_; (go_split_ands; assumption); rintro e w14 ⟨ya, yc, rfl, hi14, hb14⟩)
                | (go_at_call 21; refine (KC.out wr HBr.out _ _ P _ _ ?_ (Or.inl ⟨rfl, rfl⟩) ?_).mono ?_; (go_split_ands; assumption); (first | exact hi14 | exact hi14.below (Below.refl _ _).drew); rintro e w15 ⟨rfl, hb15⟩))
            have HB15 : Hid (Below W9.heap.size W9 w15) := HBr.out.trans (hb15.mono HBr.out.size)
            obtain ⟨z0, z1, z2⟩ := XQ9.out.2.below HB15.out
            clear y0 y1 y2 hi14
            go_wp2_with fail
            go_region_held3 (fun wx => Below w15.heap.size w15 wx ∧ wx.cell? ⟨rb, 0, none⟩ = some (.slice b1 n1 d1) ∧ wx.cell? ⟨rb, 1, none⟩ = some (.slice b2 n2 d2) ∧ wx.cell? ⟨rb, 2, none⟩ = some (.slice ua n3 uc))
              ((go_split_ands; refine keep3C z0 z1 z2 ?_; repeat (with_reducible first | assumption | exact Below.refl _ _ | refine Below.drew ?_)))
              (first
                | (go_at_call 13; refine (KO.out w15 HB15.out _ ?_).mono ?_; (go_split_ands; assumption); rintro e w16 ⟨ya, yc, rfl, hi16, hb16⟩)
                | (go_at_call 21; refine (KC.out w15 HB15.out _ _ (revP P) _ _ ?_ (Or.inr ⟨rfl, rfl⟩) ?_).mono ?_; (go_split_ands; assumption); (first | exact hi16 | exact hi16.below (Below.refl _ _).drew); rintro e w17 ⟨rfl, hb17⟩))
            have HB17 : Hid (Below W9.heap.size W9 w17) := HB15.out.trans (hb17.mono HB15.out.size)
            obtain ⟨y0, y1, y2⟩ := XQ9.out.1.below HB17.out
            obtain ⟨z0, z1, z2⟩ := XQ9.out.2.below HB17.out
            have KNi : Hid (∀ wx s3, Below w17.heap.size w17 wx → (s3 = Value.slice b3 n3 d3 ∨ s3 = Value.slice ua n3 uc) → Calls Tryz.prog 26 #[.agg #[.slice b1 n1 d1, .slice b2 n2 d2, s3]] wx fun e w' => e = .returned (.int .i64 M) ∧ Below w17.heap.size w17 w') := fun wx s3 hb hq => (KN.out wx s3 (HB17.out.trans (hb.mono HB17.out.size)) hq).mono fun e w' ⟨r1, r2⟩ => ⟨r1, hb.trans (r2.mono hb.size)⟩
            have HFW : Hid (∀ wx, Below w17.heap.size w17 wx → Below w.heap.size w wx) := fun wx hb => (HP9.out wx (HB17.out.trans (hb.mono HB17.out.size))).2.2.2.2.2
            clear hi16 KO KC KN HP9
            go_wp2_with fail
            go_region_held3 (fun wx => Below w17.heap.size w17 wx ∧ wx.cell? ⟨qb, 0, none⟩ = some (.slice b1 n1 d1) ∧ wx.cell? ⟨qb, 1, none⟩ = some (.slice b2 n2 d2) ∧ wx.cell? ⟨qb, 2, none⟩ = some (.slice b3 n3 d3) ∧ wx.cell? ⟨rb, 0, none⟩ = some (.slice b1 n1 d1) ∧ wx.cell? ⟨rb, 1, none⟩ = some (.slice b2 n2 d2) ∧ wx.cell? ⟨rb, 2, none⟩ = some (.slice ua n3 uc))
              ((go_split_ands; refine keep6C y0 y1 y2 z0 z1 z2 ?_; repeat (with_reducible first | assumption | exact Below.refl _ _ | refine Below.drew ?_)))
              ((go_at_call 26; refine (KNi.out _ _ ?_ ?_).mono ?_; (go_split_ands; assumption); (first | exact Or.inl rfl | exact Or.inr rfl); rintro e w18 ⟨rfl, hb18⟩))
            go_wp2_with fail
            go_ret
            exact ⟨rfl, by first | exact HFW.out _ hb18 | exact (HFW.out _ hb18).drew⟩
end Go.Proofs.YtimmkenmahagjaaGreatDoor

/-
  Package calls: Alias, by a contract.
-/
import Derived.Test.YteekjigaicmohaaGreatDoorZYM
import Derived.Test.YteekjigaicmohaaGreatDoorZFM
import Derived.Deep.RegionHeld3
namespace Go.Proofs.YteekjigaicmohaaGreatDoor
open Go.RowKit Go.Extern.Stop Go.Stop Go.Extern

/-- An answer is the least one. -/
def LeastL (P : ProgD) (L : List (List Int)) : Prop := ∃ m, FixK P m ∧ L = iterD P m
theorem LeastL.uniq {P : ProgD} {L M : List (List Int)} (h : LeastL P L) (g : LeastL P M) : L = M := by
  obtain ⟨m, h1, rfl⟩ := h
  obtain ⟨n, g1, rfl⟩ := g
  rw [h1.uniq g1]
theorem LeastL.good {P : ProgD} {L : List (List Int)} (h : LeastL P L) (hc : checkE P = none) : Good P L := by
  obtain ⟨m, h1, rfl⟩ := h
  exact ⟨hc, setsOk_iter hc m⟩
theorem nat_pos_dec (m : Nat) : decide ((0 : Int) < (m : Int)) = decide (0 < m) := decide_eq_decide.2 (by omega)
/-- Have two nodes an object in common? -/
def aliasB (L : List (List Int)) (x y : Int) : Bool := decide (0 < ((setAt L x).filter fun o => (setAt L y).contains o).length)
def inL (n : Nat) (x : Int) : Bool := decide (0 ≤ x) && decide (x < (n : Int))
theorem inL_nat {n : Nat} {x : Int} (h : inL n x = true) : ∃ X : Nat, x = (X : Int) ∧ X < n := by
  unfold inL at h
  rw [Bool.and_eq_true, decide_eq_true_iff, decide_eq_true_iff] at h
  exact ⟨x.toNat, by omega, by omega⟩
def errB (a : Nat → Addr) : Value := .iface 267 (.pointer (some (a 1)))
theorem isOf1_any (va : Option Addr) (vn vc : Nat) (x : Int) (w : World) : Calls Tryz.prog 71 #[.slice va vn vc, .int .i64 x] w fun e w' => e = .returned (.bool (inL vn x)) ∧ w' = w := by
  unfold inL
  by_cases h0 : (0 : Int) ≤ x
  · by_cases h1 : x < (vn : Int)
    · rw [decide_eq_true h0, decide_eq_true h1]
      go_enter Tryz.func71, Tryz.ntmps71
      go_wp2_with fail
      go_ret
      exact ⟨rfl, rfl⟩
    · rw [decide_eq_true h0, decide_eq_false h1]
      go_enter Tryz.func71, Tryz.ntmps71
      go_wp2_with fail
      go_ret
      exact ⟨rfl, rfl⟩
  · rw [decide_eq_false h0]
    go_enter Tryz.func71, Tryz.ntmps71
    go_wp2_with fail
    go_ret
    exact ⟨rfl, rfl⟩
theorem isOf2_any (va : Option Addr) (vn vc : Nat) (x : Int) (w : World) : Calls Tryz.prog 73 #[.slice va vn vc, .int .i64 x] w fun e w' => e = .returned (.bool (inL vn x)) ∧ w' = w := by
  unfold inL
  by_cases h0 : (0 : Int) ≤ x
  · by_cases h1 : x < (vn : Int)
    · rw [decide_eq_true h0, decide_eq_true h1]
      go_enter Tryz.func73, Tryz.ntmps73
      go_wp2_with fail
      go_ret
      exact ⟨rfl, rfl⟩
    · rw [decide_eq_true h0, decide_eq_false h1]
      go_enter Tryz.func73, Tryz.ntmps73
      go_wp2_with fail
      go_ret
      exact ⟨rfl, rfl⟩
  · rw [decide_eq_false h0]
    go_enter Tryz.func73, Tryz.ntmps73
    go_wp2_with fail
    go_ret
    exact ⟨rfl, rfl⟩
/-- What Least tells, once more. -/
theorem leastY_any (a : Nat → Addr) (P : ProgD) (v1 v2 v3 : Value) (w : World) (hS : SmallP P) (h : IsProg w v1 v2 v3 P) (hE : Errs5 w a) (h3 : Three w a) :
    Calls Tryz.prog 14 #[.agg #[v1, v2, v3]] w fun e w' => ∃ va vn vc ev k, e = .returned (.tuple #[.slice va vn vc, .int .i64 k, ev]) ∧
      ((checkE P = none ∧ ev = .nilIface ∧ ∃ L, LeastL P L ∧ vn = L.length ∧ IsSets w' (.slice va vn vc) L) ∨ ((checkE P).isNone = false ∧ Value.slice va vn vc = .slice none 0 0 ∧ (∃ t x, ev = .iface t (.pointer (some x))) ∧ ErrV w' a (checkE P) ev)) ∧ Below w.heap.size w w' := by
  refine (least_any a P v1 v2 v3 w hS h hE h3).mono ?_
  rintro e w' ⟨va, vn, vc, ev, k, rfl, hcs, hb⟩
  refine ⟨va, vn, vc, ev, k, rfl, ?_, hb⟩
  rcases hcs with ⟨q1, q2, m, -, q4, q5⟩ | ⟨q1, q2, -, q4⟩
  · refine Or.inl ⟨q1, q2, _, ⟨m, q4, rfl⟩, ?_, q5⟩
    obtain ⟨a', c', e', _⟩ := q5
    injection e' with _ e2 _
  · refine Or.inr ⟨q1, q2, ?_, q4⟩
    rcases q4.cases with ⟨q, _⟩ | ⟨_, q⟩
    · rw [q] at q1; cases q1
    · exact q
/-- What Alias tells. -/
def AliasPost (a : Nat → Addr) (P : ProgD) (x y : Int) (w w' : World) (e : Ending) : Prop :=
  ∃ b ev, e = .returned (.tuple #[.bool b, ev]) ∧ ((checkE P = none ∧ ∃ L, LeastL P L ∧ ((inL L.length x = true ∧ inL L.length y = true ∧ ev = .nilIface ∧ b = aliasB L x y) ∨ ((inL L.length x && inL L.length y) = false ∧ b = false ∧ ev = errB a))) ∨
    ((checkE P).isNone = false ∧ b = false ∧ (∃ t x, ev = .iface t (.pointer (some x))) ∧ ErrV w' a (checkE P) ev)) ∧ Below w.heap.size w w'
set_option maxRecDepth 100000 in
set_option maxHeartbeats 16000000 in
theorem alias_any (a : Nat → Addr) (P : ProgD) (v1 v2 v3 : Value) (x y : Int) (w : World) (hS : SmallP P) (h : IsProg w v1 v2 v3 P) (hE : Errs5 w a) (h3 : Three w a) :
    Calls Tryz.prog 30 #[.agg #[v1, v2, v3], .int .i64 x, .int .i64 y] w fun e w' => AliasPost a P x y w w' e := by
  have H : Hid (IsProg w v1 v2 v3 P ∧ Errs5 w a ∧ SmallP P ∧ Three w a) := ⟨h, hE, hS, h3⟩
  obtain ⟨⟨a1, c1, rfl, -, -⟩, ⟨a2, c2, rfl, -, -⟩, ⟨a3, c3, rfl, -, -⟩⟩ := h
  obtain ⟨n1, hn1⟩ : ∃ m, m = P.vars.length := ⟨_, rfl⟩
  obtain ⟨n2, hn2⟩ : ∃ m, m = P.funs.length := ⟨_, rfl⟩
  obtain ⟨n3, hn3⟩ : ∃ m, m = P.stmts.length := ⟨_, rfl⟩
  rw [← hn1, ← hn2, ← hn3] at H ⊢
  obtain ⟨W, hW⟩ : ∃ W, W = w.alloc (.cells #[.slice a1 n1 c1, .slice a2 n2 c2, .slice a3 n3 c3] 26) := ⟨_, rfl⟩
  have hBW : Below w.heap.size w W := by rw [hW]; exact below1 w _
  have HX : Hid (Box3 W w.heap.size (.slice a1 n1 c1) (.slice a2 n2 c2) (.slice a3 n3 c3)) := by show Box3 _ _ _ _ _; rw [hW]; exact box3_new w _ _ _ _
  have KL : Hid _ := leastY_any a P (.slice a1 n1 c1) (.slice a2 n2 c2) (.slice a3 n3 c3) W hS (H.out.1.below hBW) (H.out.2.1.below hBW) (H.out.2.2.2.below hBW)
  obtain ⟨p0, p1, p2⟩ := HX.out
  clear hn1 hn2 hn3 hE hS h3
  go_enter Tryz.func30, Tryz.ntmps30
  go_upto_region 1 with fail
  rw [← hW]
  clear hW
  go_wp2_with fail
  refine Calls.mono KL.out ?_
  rintro e w1 ⟨va, vn, vc, ev, k, rfl, hcs, hB1⟩
  have hB1w : Below w.heap.size w w1 := hBW.trans (hB1.mono hBW.size)
  clear KL p0 p1 p2 hB1 hBW HX
  rcases hcs with ⟨hck, rfl, L, hL, rfl, hi⟩ | ⟨hcb, hnil, ⟨t, p, rfl⟩, hev⟩
  case inr =>
    injection hnil with q1 q2 q3
    subst q1 q2 q3
    have HR : Hid ((checkE P).isNone = false ∧ ErrV w1 a (checkE P) (.iface t (.pointer (some p))) ∧ Below w.heap.size w w1) := ⟨hcb, hev, hB1w⟩
    clear hcb hev hB1w
    go_wp2_with fail
    go_ret2
    exact ⟨false, _, rfl, Or.inr ⟨HR.out.1, rfl, ⟨_, _, rfl⟩, HR.out.2.1⟩, HR.out.2.2⟩
  case inl =>
    obtain ⟨n, hn⟩ : ∃ n, n = L.length := ⟨_, rfl⟩
    rw [← hn] at hi ⊢
    have HL : Hid (checkE P = none ∧ LeastL P L ∧ n = L.length ∧ IsSets w1 (.slice va n vc) L ∧ Good P L) := ⟨hck, hL, hn, hi, hL.good hck⟩
    have hE1 := (H.out.2.1.below hB1w).c1
    clear hck hL hn hi
    obtain ⟨D, hD⟩ : ∃ D, D = inL n x := ⟨_, rfl⟩
    obtain ⟨F, hF⟩ : ∃ D, D = inL n y := ⟨_, rfl⟩
    have K1 := isOf1_any va n vc x w1
    have K2 := isOf1_any va n vc y w1
    rw [← hD] at K1
    rw [← hF] at K2
    have HDF : Hid (D = inL n x ∧ F = inL n y) := ⟨hD, hF⟩
    have HK : Hid (Calls Tryz.prog 71 #[.slice va n vc, .int .i64 x] w1 fun e w' => e = .returned (.bool D) ∧ w' = w1) := K1
    have HK2 : Hid (Calls Tryz.prog 71 #[.slice va n vc, .int .i64 y] w1 fun e w' => e = .returned (.bool F) ∧ w' = w1) := K2
    clear K1 K2 hD hF
    cases D with
    | false =>
      go_wp2_with fail
      refine HK.out.mono ?_
      rintro e w2 ⟨rfl, rfl⟩
      go_upto_region 5 with fail
      go_quiet (fail)
      go_wp2_with fail
      go_ret2
      exact ⟨false, _, rfl, Or.inl ⟨HL.out.1, L, HL.out.2.1, Or.inr ⟨by rw [← HL.out.2.2.1, ← HDF.out.1]; rfl, rfl, rfl⟩⟩, below_drewN hB1w _⟩
    | true =>
      cases F with
      | false =>
        go_wp2_with fail
        refine HK.out.mono ?_
        rintro e w2 ⟨rfl, rfl⟩
        go_wp2_with fail
        refine HK2.out.mono ?_
        rintro e w2 ⟨rfl, rfl⟩
        go_upto_region 5 with fail
        go_quiet (fail)
        go_wp2_with fail
        go_ret2
        exact ⟨false, _, rfl, Or.inl ⟨HL.out.1, L, HL.out.2.1, Or.inr ⟨by rw [← HL.out.2.2.1, ← HDF.out.1, ← HDF.out.2]; rfl, rfl, rfl⟩⟩, below_drewN hB1w _⟩
      | true =>
        obtain ⟨X, rfl, hXn⟩ := inL_nat HDF.out.1.symm
        obtain ⟨Y, rfl, hYn⟩ := inL_nat HDF.out.2.symm
        obtain ⟨va', vc', e', hr⟩ := HL.out.2.2.2.1
        cases e'
        obtain ⟨b, o, ux, rfl, x1, x2⟩ := hr X hXn
        obtain ⟨b', o', uy, e2, y1, y2⟩ := hr Y hYn
        cases e2
        have hgx := HL.out.2.2.2.2.row X hXn
        have hgy := HL.out.2.2.2.2.row Y hYn
        have hsx := HL.out.2.2.2.2.sets.set X hXn
        have hsy := HL.out.2.2.2.2.sets.set Y hYn
        have KB : Hid (∀ wx, Below w1.heap.size w1 wx → Calls Tryz.prog 72 #[ux, uy] wx fun e w' => ∃ va vc, e = .returned (.tuple #[.slice va ((setAt L (X : Int)).filter fun o => (setAt L (Y : Int)).contains o).length vc, .nilIface]) ∧ Below w1.heap.size w1 w') := fun wx hb => by
          have e1 : setAt L (X : Int) = L.getD X [] := by unfold setAt; rw [Int.toNat_natCast]
          have e2 : setAt L (Y : Int) = L.getD Y [] := by unfold setAt; rw [Int.toNat_natCast]
          rw [e1, e2]
          refine (both_ok _ _ _ _ wx (by omega) (by omega) (x2.below hb) (y2.below hb) hsx hsy (hsy.pairwise.imp fun h => Int.le_of_lt h)).mono ?_
          rintro e w' ⟨v', rfl, q2, q3⟩
          obtain ⟨xa, xc, rfl⟩ := isInts_form q2
          exact ⟨xa, xc, rfl, hb.trans (q3.mono hb.size)⟩
        obtain ⟨m, hm⟩ : ∃ m, m = ((setAt L (X : Int)).filter fun o => (setAt L (Y : Int)).contains o).length := ⟨_, rfl⟩
        rw [← hm] at KB
        have HM : Hid (aliasB L (X : Int) (Y : Int) = decide (0 < m)) := by
          show _ = _
          unfold aliasB
          rw [hm]
        have HD : Hid (inL L.length (X : Int) = true ∧ inL L.length (Y : Int) = true) := by
          exact ⟨HDF.out.1.symm, HDF.out.2.symm⟩
        obtain ⟨ua, uc, rfl⟩ := isInts_form x2
        obtain ⟨ga, gc, rfl⟩ := isInts_form y2
        obtain ⟨lx, hlx⟩ : ∃ l, l = (L.getD X []).length := ⟨_, rfl⟩
        obtain ⟨ly, hly⟩ : ∃ l, l = (L.getD Y []).length := ⟨_, rfl⟩
        rw [← hlx] at x1 KB
        rw [← hly] at y1 KB
        clear hr hgx hgy hsx hsy hm x2 y2 hlx hly
        clear HDF
        have hXi : (X : Int) < (L.length : Int) := by omega
        have hYi : (Y : Int) < (L.length : Int) := by omega
        go_wp2_with fail
        refine HK.out.mono ?_
        rintro e w2 ⟨rfl, rfl⟩
        go_wp2_with fail
        refine HK2.out.mono ?_
        rintro e w2 ⟨rfl, rfl⟩
        go_upto_region 6 with fail
        go_region_held3 (fun wx => Below w2.heap.size w2 wx ∧ wx.cell? ⟨b, o + X, none⟩ = some (.slice ua lx uc) ∧ wx.cell? ⟨b, o + Y, none⟩ = some (.slice ga ly gc))
          ((go_split_ands; first
            | (with_reducible exact ⟨Below.refl _ _, x1, y1⟩)
            | (exact ⟨(Below.refl _ _).drew, x1, y1⟩)
            | exact ⟨hb7, cell_keep hb7 x1, cell_keep hb7 y1⟩
            | exact ⟨hb7.drew, cell_keep hb7 x1, cell_keep hb7 y1⟩))
          (first
            | (go_at_call 72; refine (KB.out _ ?_).mono ?_; (first | exact Below.refl _ _ | exact (Below.refl _ _).drew); rintro e w7 ⟨ya, yc, rfl, hb7⟩))
        all_goals
          have HBF : Hid (Below w.heap.size w w7) := hB1w.trans (hb7.mono hB1w.size)
          go_wp2_with fail
          go_ret2
          exact ⟨decide (0 < m), .nilIface, by rw [← nat_pos_dec]; rfl, Or.inl ⟨HL.out.1, L, HL.out.2.1, Or.inl ⟨HD.out.1, HD.out.2, rfl, HM.out.symm⟩⟩, HBF.out⟩
end Go.Proofs.YteekjigaicmohaaGreatDoor

/-
  Package calls: Graph, by a contract.
-/
namespace Go.Proofs.YteekjigaicmohaaGreatDoor
open Go.RowKit Go.Extern.Stop Go.Stop Go.Extern

abbrev TCl : TypeId := 69
abbrev TClS : TypeId := 59
theorem Tryz.infoCl : (Tryz.prog.info? 69).map (fun i => (i.zero, i.size, i.bytes)) = some (some (.agg #[.int .i64 0, .int .i64 0]), 2, 16) := by kernel_rfl
/-- A row of calls, in memory of its own. -/
def RowCl (w0 w : World) (u : Value) (es : List Pair) : Prop := w.ownsRow w0.heap.size TCl 2 u es.length (ecells es)
theorem RowCl.nil (w0 w : World) : RowCl w0 w (.slice none 0 0) [] := World.ownsRow_nil _ _ _ _
theorem RowCl.below {w0 w w' : World} {u : Value} {es : List Pair} (h : RowCl w0 w u es) (hb : Below w.heap.size w w') : RowCl w0 w' u es := owns_below h hb
theorem RowCl.add {w0 wr : World} {u : Value} {es : List Pair} (h : RowCl w0 wr u es) (hB : Below w0.heap.size w0 wr) (hl : es.length ≤ 1000000) (p : Pair) :
    ∃ v' w', (Builtin.append_ #[TClS, TClS] TClS #[u, .slice (some ⟨wr.heap.size, 0, none⟩) 1 1]).run Tryz.prog (wr.alloc (.cells #[.int .i64 p.1, .int .i64 p.2] TCl)) = .ok v' w' ∧ RowCl w0 w' v' (es ++ [p]) ∧ Below w0.heap.size wr w' ∧ Kept TCl wr w' := by
  obtain ⟨v', w', hr, ho, hb, hk⟩ := append_one wr w0.heap.size u es.length 2 16 TClS TCl (.agg #[.int .i64 0, .int .i64 0]) _ (pairCells p) h hB.size Tryz.underlying59 Tryz.infoCl (by decide) rfl rfl (fun x hx => by
    simp only [pairCells, List.mem_cons, List.not_mem_nil, or_false] at hx
    rcases hx with rfl | rfl <;> rfl) hl TClS (by decide)
  refine ⟨v', w', hr, ?_, hb, hk⟩
  unfold RowCl
  rw [ecells_snoc, List.length_append]
  exact ho
theorem RowCl.isPairs {w0 w : World} {u : Value} {es : List Pair} (h : RowCl w0 w u es) : IsPairs w u es := by
  rcases h.2 with ⟨hv, h0⟩ | ⟨g, cap, cur, hv, hg, hh, hcap, hmax, hsz, hcur⟩
  · exact ⟨none, 0, by rw [hv, h0], fun j hj => absurd hj (by omega)⟩
  · have hp : ∀ j, j < es.length * 2 → w.cell? ⟨g, j, none⟩ = (ecells es)[j]? := fun j hj => by
      rw [Lib.cell_of_heap hh, ← hcur, List.getElem?_take_of_lt hj]
      simp
    refine ⟨_, cap, hv, fun j hj => ⟨g, rfl, ?_, ?_⟩⟩
    · rw [hp _ (by omega)]; exact (ecells_at es j hj).1
    · rw [hp _ (by omega)]; exact (ecells_at es j hj).2
/-- The calls of statement k, and of the first k. -/
def callsOf (P : ProgD) (L : List (List Int)) (k : Nat) : List Pair := (calledL P L (P.stmts.getD k default)).map fun f => ((k : Int), f)
def graphK (P : ProgD) (L : List (List Int)) (k : Nat) : List Pair := (List.range k).flatMap (callsOf P L)
theorem graphK_succ (P : ProgD) (L : List (List Int)) (k : Nat) : graphK P L (k + 1) = graphK P L k ++ callsOf P L k := by
  unfold graphK
  rw [List.range_succ, List.flatMap_append, List.flatMap_singleton]
/-- What Graph tells. -/
def GraphPost (a : Nat → Addr) (P : ProgD) (w w' : World) (e : Ending) : Prop :=
  ∃ wa wn wc ev, e = .returned (.tuple #[.slice wa wn wc, ev]) ∧ ((checkE P = none ∧ ev = .nilIface ∧ ∃ L, LeastL P L ∧ IsPairs w' (.slice wa wn wc) (graphK P L P.stmts.length)) ∨
    ((checkE P).isNone = false ∧ Value.slice wa wn wc = .slice none 0 0 ∧ (∃ t x, ev = .iface t (.pointer (some x))) ∧ ErrV w' a (checkE P) ev)) ∧ Below w.heap.size w w'
set_option maxRecDepth 100000 in
set_option maxHeartbeats 16000000 in
theorem graph_any (a : Nat → Addr) (P : ProgD) (v1 v2 v3 : Value) (w : World) (hS : SmallP P) (h : IsProg w v1 v2 v3 P) (hE : Errs5 w a) (h3 : Three w a) :
    Calls Tryz.prog 29 #[.agg #[v1, v2, v3]] w fun e w' => GraphPost a P w w' e := by
  have H : Hid (IsProg w v1 v2 v3 P ∧ Errs5 w a ∧ SmallP P ∧ Three w a) := ⟨h, hE, hS, h3⟩
  obtain ⟨⟨a1, c1, rfl, -, -⟩, ⟨a2, c2, rfl, -, -⟩, ⟨a3, c3, rfl, -, -⟩⟩ := h
  obtain ⟨n1, hn1⟩ : ∃ m, m = P.vars.length := ⟨_, rfl⟩
  obtain ⟨n2, hn2⟩ : ∃ m, m = P.funs.length := ⟨_, rfl⟩
  obtain ⟨n3, hn3⟩ : ∃ m, m = P.stmts.length := ⟨_, rfl⟩
  have HN3 : Hid (n3 = P.stmts.length) := hn3
  rw [← hn1, ← hn2, ← hn3] at H ⊢
  obtain ⟨W, hW⟩ : ∃ W, W = w.alloc (.cells #[.slice a1 n1 c1, .slice a2 n2 c2, .slice a3 n3 c3] 26) := ⟨_, rfl⟩
  have hBW : Below w.heap.size w W := by rw [hW]; exact below1 w _
  have HX : Hid (Box3 W w.heap.size (.slice a1 n1 c1) (.slice a2 n2 c2) (.slice a3 n3 c3)) := by show Box3 _ _ _ _ _; rw [hW]; exact box3_new w _ _ _ _
  have KL : Hid _ := leastY_any a P (.slice a1 n1 c1) (.slice a2 n2 c2) (.slice a3 n3 c3) W hS (H.out.1.below hBW) (H.out.2.1.below hBW) (H.out.2.2.2.below hBW)
  obtain ⟨p0, p1, p2⟩ := HX.out
  clear hn1 hn2 hn3 hE hS h3
  go_enter Tryz.func29, Tryz.ntmps29
  go_upto_region 1 with fail
  rw [← hW]
  clear hW
  go_wp2_with fail
  refine Calls.mono KL.out ?_
  rintro e w1 ⟨va, vn, vc, ev, kk, rfl, hcs, hB1⟩
  have hB1w : Below w.heap.size w w1 := hBW.trans (hB1.mono hBW.size)
  replace p0 := cell_keep hB1 p0
  replace p1 := cell_keep hB1 p1
  replace p2 := cell_keep hB1 p2
  clear KL hBW
  rcases hcs with ⟨hck, rfl, L, hL, rfl, hi⟩ | ⟨hcb, hnil, ⟨t, p, rfl⟩, hev⟩
  case inr =>
    injection hnil with q1 q2 q3
    subst q1 q2 q3
    have HR : Hid ((checkE P).isNone = false ∧ ErrV w1 a (checkE P) (.iface t (.pointer (some p))) ∧ Below w.heap.size w w1) := ⟨hcb, hev, hB1w⟩
    clear hcb hev hB1w hB1
    go_wp2_with fail
    go_ret2
    exact ⟨none, 0, 0, _, rfl, Or.inr ⟨HR.out.1, rfl, ⟨_, _, rfl⟩, HR.out.2.1⟩, HR.out.2.2⟩
  case inl =>
    obtain ⟨n, hn⟩ : ∃ n, n = L.length := ⟨_, rfl⟩
    rw [← hn] at hi ⊢
    have HL : Hid (checkE P = none ∧ LeastL P L ∧ IsSets w1 (.slice va n vc) L ∧ Good P L) := ⟨hck, hL, hi, hL.good hck⟩
    have hBox := HX.out.below hB1
    clear hck hL hn hi
    go_wp2_with fail
    refine (calledBy_any (.slice a1 n1 c1) (.slice a2 n2 c2) (.slice a3 n3 c3) va n vc w1).mono ?_
    rintro e w5 ⟨rfl, hw5⟩
    have hb5 : Below w1.heap.size w1 w5 := by rw [hw5]; exact (below1 w1 _).alloc (by simp) _
    have hp2 : Box3 w5 w1.heap.size (.slice a1 n1 c1) (.slice a2 n2 c2) (.slice a3 n3 c3) := by rw [hw5]; exact (box3_new w1 _ _ _ _).below (below1 _ _)
    have hh2 : w5.cell? ⟨w1.heap.size + 1, 0, none⟩ = some (.slice va n vc) := by
      rw [hw5]
      refine (World.cell?_alloc_at _ _ _ _ (by simp)).trans rfl
    obtain ⟨pb2, hpb2⟩ : ∃ z, z = w1.heap.size := ⟨_, rfl⟩
    obtain ⟨hb2, hhb2⟩ : ∃ z, z = w1.heap.size + 1 := ⟨_, rfl⟩
    have HB5 : Hid (Below w.heap.size w w5 ∧ Below w1.heap.size w1 w5) := ⟨hB1w.trans (hb5.mono hB1w.size), hb5⟩
    obtain ⟨p0, p1, p2⟩ := hBox.below hb5
    have HK : Hid (∀ wx k, Below w5.heap.size w5 wx → k < n3 → ∃ sb so kd sx sy aa na ac, a3 = some ⟨sb, so, none⟩ ∧ wx.cell? ⟨sb, so + k * 4, none⟩ = some (.string kd) ∧ wx.cell? ⟨sb, so + k * 4 + 1, none⟩ = some (.int .i64 sx) ∧ wx.cell? ⟨sb, so + k * 4 + 2, none⟩ = some (.int .i64 sy) ∧ wx.cell? ⟨sb, so + k * 4 + 3, none⟩ = some (.slice aa na ac) ∧
        ∀ wy, Below w5.heap.size w5 wy → Calls Tryz.prog 116 #[.agg #[.string kd, .int .i64 sx, .int .i64 sy, .slice aa na ac], .pointer (some ⟨hb2, 0, none⟩), .pointer (some ⟨pb2, 0, none⟩)] wy fun e w' => ∃ xa xc, e = .returned (.slice xa (calledL P L (P.stmts.getD k default)).length xc) ∧ w'.ownsRow wy.heap.size 3 1 (.slice xa (calledL P L (P.stmts.getD k default)).length xc) (calledL P L (P.stmts.getD k default)).length ((calledL P L (P.stmts.getD k default)).map intV) ∧ Below wy.heap.size wy w') := fun wx k hb hk => by
      have hkS : k < P.stmts.length := by rw [← HN3.out]; exact hk
      obtain ⟨a3', c3', e3, -, hst⟩ := (H.out.1.below HB5.out.1).stmts
      injection e3 with q1 q2 q3
      obtain ⟨sb, so, hs3, pv, s0, s1, s2, s3, ⟨-, aa, ac, rfl, -⟩⟩ := hst k hkS
      refine ⟨sb, so, _, _, _, aa, _, ac, by rw [q1, hs3], cell_keep hb s0, cell_keep hb s1, cell_keep hb s2, cell_keep hb s3, fun wy hby => ?_⟩
      have hG := HL.out.2.2.2
      have hsm : P.stmts.getD k default ∈ P.stmts := mem_getDY _ hkS
      obtain ⟨-, hy, hargs⟩ := hG.stm hsm
      have hln := hG.len
      by_cases hkc : (P.stmts.getD k default).kind = kCall
      · obtain ⟨Y, hY, hYn⟩ := hy (Or.inr (Or.inl hkc))
        have hr := hG.row Y (by omega)
        rw [hpb2, hhb2]
        exact call1_own P L _ _ (S_toList _) aa ac _ _ Y hY (by omega) va n vc (.slice a1 n1 c1) (.slice a2 n2 c2) (.slice a3 n3 c3) wy (by omega) (by omega) hr.2 (by omega) (fun f hf => by have := hG.params f hf; omega) (by omega) ((HL.out.2.2.1.below hb5).below hby) (cell_keep hby hh2) (((H.out.1.below HB5.out.1).funs).below hby) (hp2.below hby)
      · exact call1_none P L _ _ (S_toList _) hkc _ _ _ wy
    have HCL : Hid (∀ k, k < n3 → (calledL P L (P.stmts.getD k default)).length ≤ 200) := fun k hk => (called_in HL.out.2.2.2 (mem_getDY _ (by rw [← HN3.out]; exact hk))).2
    have hn3 : n3 ≤ 80 := by rw [HN3.out]; exact HL.out.2.2.2.len.2.2.2.2
    have HGL : Hid (∀ k, k ≤ n3 → (graphK P L k).length ≤ 16000) := fun k hk => by
      have h1 := flat_len (List.range k) (callsOf P L) 200 (fun i hi => by
        unfold callsOf
        rw [List.length_map]
        exact HCL.out i (by have := List.mem_range.1 hi; omega))
      rw [List.length_range] at h1
      have h2 : k * 200 ≤ 80 * 200 := Nat.mul_le_mul (by omega) (Nat.le_refl _)
      show ((List.range k).flatMap (callsOf P L)).length ≤ 16000
      omega
    rw [← hhb2, ← hpb2]
    clear hBox hb5 hB1w hB1 hp2 hh2 hpb2 hhb2 hw5
    go_wp2_with fail
    clear p0 p1 p2
    go_loopw [8, 28] (fun u t wr => ∃ k : Nat, k ≤ n3 ∧ t = .int .i64 k ∧ RowCl w5 wr u (graphK P L k) ∧ Below w5.heap.size w5 wr) (fun _ t _ => (n3 - intOf t).toNat)
    case atStart => exact ⟨0, Nat.zero_le _, rfl, RowCl.nil _ _, Below.refl _ _⟩
    case round =>
      obtain ⟨k, hk, rfl, ho, hB⟩ := hrel
      have HO : Hid (RowCl w5 wr u8 (graphK P L k)) := ho
      clear ho
      by_cases hlt : k < n3
      · obtain ⟨sb, so, kd, sx, sy, aa, na, ac, rfl, e0, e1, e2, e3, HC⟩ := HK.out wr k hB hlt
        have HC' : Hid _ := HC
        obtain ⟨zs, hzs⟩ : ∃ z, z = calledL P L (P.stmts.getD k default) := ⟨_, rfl⟩
        rw [← hzs] at HC'
        obtain ⟨m, hm⟩ : ∃ m, m = zs.length := ⟨_, rfl⟩
        rw [← hm] at HC'
        have HZ : Hid (m = zs.length ∧ callsOf P L k = zs.map (fun f => ((k : Int), f)) ∧ m ≤ 200 ∧ (graphK P L k).length ≤ 16000) := ⟨hm, by unfold callsOf; rw [hzs], by rw [hm, hzs]; exact HCL.out k hlt, HGL.out k hk⟩
        have hki : (k : Int) < n3 := by omega
        clear HC hzs hm
        have hBa : Below w5.heap.size w5 (wr.alloc (stmBox kd sx sy (.slice aa na ac))) := hB.alloc hB.size _
        go_wp2_with fail
        refine (HC'.out _ hBa).mono ?_
        rintro e w7 ⟨xa, xc, rfl, hz7, hb7⟩
        have hB7 : Below w5.heap.size w5 w7 := hBa.trans (hb7.mono hBa.size)
        have HO7 : Hid (RowCl w5 w7 u8 (graphK P L k)) := (RowCl.below (owns_below HO.out (below1 wr _)) hb7)
        have HZ7 : Hid (w7.ownsRow (wr.alloc (stmBox kd sx sy (.slice aa na ac))).heap.size 3 1 (.slice xa m xc) m (zs.map intV)) := hz7
        clear HC' hb7 hBa e0 e1 e2 e3 hz7
        go_wp2_with fail
        go_loopw [8, 37] (fun u t wq => ∃ j : Nat, j ≤ m ∧ t = .int .i64 j ∧ RowCl w5 wq u (graphK P L k ++ (zs.take j).map (fun f => ((k : Int), f))) ∧ Below w5.heap.size w5 wq ∧ Kept TCl w7 wq) (fun _ t _ => (m - intOf t).toNat)
        case atStart => exact ⟨0, Nat.zero_le _, rfl, by simpa using HO7.out, hB7, kept_below TCl (Below.refl _ _)⟩
        case round =>
          obtain ⟨j, hj, rfl, ho2, hB2, hkp⟩ := hrel
          by_cases hlt2 : j < m
          · have hz := owns_kept HZ7.out hkp (by decide)
            obtain ⟨xa', xc', e', hcs⟩ := isInts_cells (isCap_of_owns hz).1
            injection e' with q1 q2 q3
            subst q1 q3
            obtain ⟨gb, gq, rfl, ec⟩ := hcs j (by rw [← HZ.out.1]; exact hlt2)
            obtain ⟨f, hf⟩ : ∃ f, f = zs.getD j 0 := ⟨_, rfl⟩
            rw [← hf] at ec
            obtain ⟨v', w8, hr, ho3, hb8, hk8⟩ := ho2.add hB2 (by
              rw [List.length_append, List.length_map]
              have := List.length_take_le j zs
              have := HZ.out.2.2
              omega) ((k : Int), f)
            have HX8 : Hid (RowCl w5 w8 v' (graphK P L k ++ (zs.take (j + 1)).map (fun f => ((k : Int), f))) ∧ Below w5.heap.size w5 w8 ∧ Kept TCl w7 w8) := by
              refine ⟨?_, hB2.trans hb8, hkp.trans hk8⟩
              rw [take_snoc zs 0 j (by rw [← HZ.out.1]; exact hlt2), List.map_append, ← List.append_assoc, ← hf]
              exact ho3
            have hji : (j : Int) < m := by omega
            have hm200 : m ≤ 200 := HZ.out.2.2.1
            dsimp only at hr
            clear ho3 hb8 hk8 hz hcs q2 hf ho2 hkp
            go_wp2_with (at_builtin; refine Lib.wpList_append_run _ rfl _ _ _ _ rfl _ _ rfl rfl _ _ hr ?_)
            go_roundw
            case rel => exact ⟨j + 1, hlt2, by go_num, HX8.out.1, HX8.out.2.1, HX8.out.2.2⟩
            case measure => simp [intOf]; omega
          · have HX8 : Hid (RowCl w5 wr u8 (graphK P L (k + 1)) ∧ Below w5.heap.size w5 wr) := by
              refine ⟨?_, hB2⟩
              rw [graphK_succ, HZ.out.2.1]
              rw [List.take_of_length_le (by rw [← HZ.out.1]; omega)] at ho2
              exact ho2
            clear ho2 hkp
            go_wp2_with fail
            go_roundw
            case rel => exact ⟨k + 1, hlt, by go_num, HX8.out.1, HX8.out.2⟩
            case measure => simp [intOf]; omega
      · go_wp2_with fail
        go_ret2
        have hkn : k = P.stmts.length := by rw [← HN3.out]; omega
        have h1 := HO.out
        rw [hkn] at h1
        obtain ⟨ya, yc, rfl⟩ := owns_form h1
        exact ⟨ya, _, yc, .nilIface, rfl, Or.inl ⟨HL.out.1, rfl, L, HL.out.2.1, h1.isPairs⟩, HB5.out.1.trans (hB.mono HB5.out.1.size)⟩
end Go.Proofs.YteekjigaicmohaaGreatDoor

/-
  called: the closed fact of a graph of calls, by contracts.
-/
namespace Go.Proofs.YteekjigaicmohaaGreatDoor
open Go.RowKit Go.Extern.Stop Go.Stop Go.Extern

def progC : ProgD := ⟨[[97], [98]], [⟨[102], [], 1⟩], [⟨kFun, 0, 0, []⟩, ⟨kCall, 1, 0, []⟩]⟩
theorem progC_check : checkE progC = none := by decide
theorem progC_small : SmallP progC := by
  unfold SmallP
  refine ⟨by decide, by decide, by decide, ?_, ?_⟩
  · intro f hf
    simp [progC] at hf
    rcases hf with rfl
    decide
  · intro s hs
    simp [progC] at hs
    rcases hs with rfl | rfl <;> decide
theorem isSet_oneC {o : Int} (h0 : 0 ≤ o) (h1 : o < 1000) : IsSet [o] := by
  refine ⟨fun j hj => ?_, fun j hj => by simp at hj⟩
  have : j = 0 := by simp at hj; omega
  subst this
  exact ⟨h0, h1⟩
theorem roundC (hs : List (List Int)) (a b : List Int) (hl : hs.length = 2) (h0 : norm (gotD progC hs 0) = a) (h1 : norm (gotD progC hs 1) = b) : roundD progC hs = [a, b] := by
  unfold roundD
  rw [hl]
  show [norm (gotD progC hs 0), norm (gotD progC hs 1)] = _
  rw [h0, h1]
theorem norm_one2 : norm [2] = [2] := norm_set (isSet_oneC (by decide) (by decide))
theorem norm_two2 : norm [2, 2] = [2] := (norm_congr (fun x => by simp)).trans norm_one2
theorem iterC0 : iterD progC 0 = [[], []] := by decide
theorem iterC1 : iterD progC 1 = [[2], []] := by
  show roundD progC (iterD progC 0) = _
  rw [iterC0]
  refine roundC _ _ _ rfl ?_ ?_
  · rw [show gotD progC [[], []] 0 = [2] by decide]; exact norm_one2
  · rw [show gotD progC [[], []] 1 = [] by decide]; exact norm_nil
theorem fixC : FixK progC 1 := by
  refine ⟨?_, fun j hj => ?_⟩
  · rw [iterC1]
    refine roundC _ _ _ rfl ?_ ?_
    · rw [show gotD progC [[2], []] 0 = [2, 2] by decide]; exact norm_two2
    · rw [show gotD progC [[2], []] 1 = [] by decide]; exact norm_nil
  · match j, hj with
    | 0, _ => show iterD progC 1 ≠ _; rw [iterC1, iterC0]; decide
theorem graphC {L : List (List Int)} (h : LeastL progC L) : graphK progC L progC.stmts.length = [(1, 0)] := by
  rw [h.uniq ⟨1, fixC, rfl⟩, iterC1]
  decide
abbrev cVars : Obj := .cells #[.string ⟨#[97]⟩, .string ⟨#[98]⟩] 9
abbrev cFuns : Obj := .cells #[.string ⟨#[102]⟩, .slice none 0 0, .int .i64 1] 83
abbrev cStmts : Obj := .cells #[.string ⟨#[102, 117, 110]⟩, .int .i64 0, .int .i64 0, .slice none 0 0, .string ⟨#[99, 97, 108, 108]⟩, .int .i64 1, .int .i64 0, .slice none 0 0] 45
abbrev cProg (n : Nat) : Obj := .cells #[.slice (some ⟨n, 0, none⟩) 2 2, .slice (some ⟨n + 1, 0, none⟩) 1 1, .slice (some ⟨n + 1 + 1, 0, none⟩) 2 2] 26
theorem progC_is (w : World) : IsProg (((w.alloc cVars).alloc cFuns).alloc cStmts) (.slice (some ⟨w.heap.size, 0, none⟩) 2 2) (.slice (some ⟨w.heap.size + 1, 0, none⟩) 1 1) (.slice (some ⟨w.heap.size + 1 + 1, 0, none⟩) 2 2) progC := by
  have hb1 : Below (w.alloc cVars).heap.size (w.alloc cVars) (((w.alloc cVars).alloc cFuns).alloc cStmts) := (below1 _ _).alloc (by simp) _
  have hb2 : Below ((w.alloc cVars).alloc cFuns).heap.size ((w.alloc cVars).alloc cFuns) (((w.alloc cVars).alloc cFuns).alloc cStmts) := below1 _ _
  refine ⟨⟨_, _, rfl, Nat.le_refl _, fun j hj => ⟨_, _, rfl, ?_⟩⟩, ⟨_, _, rfl, Nat.le_refl _, fun j hj => ⟨_, _, rfl, ?_⟩⟩, ⟨_, _, rfl, Nat.le_refl _, fun j hj => ⟨_, _, rfl, ?_⟩⟩⟩
  · refine cell_keep hb1 ?_
    match j, hj with
    | 0, _ => simp [progC, S]
    | 1, _ => simp [progC, S]
  · refine FunAt.below (w := (w.alloc cVars).alloc cFuns) ?_ hb2
    match j, hj with
    | 0, _ => exact ⟨.slice none 0 0, (World.cell?_alloc_at _ _ _ _ (by simp)).trans (by simp [progC, S]), (World.cell?_alloc_at _ _ _ _ (by simp)).trans (by simp), ⟨IsInts.nil _ _ _, none, 0, rfl, Nat.le_refl _⟩, (World.cell?_alloc_at _ _ _ _ (by simp)).trans (by simp [progC])⟩
  · match j, hj with
    | 0, _ => exact ⟨.slice none 0 0, (World.cell?_alloc_at _ _ _ _ (by simp)).trans (by simp [progC, S, kFun]), (World.cell?_alloc_at _ _ _ _ (by simp)).trans (by simp [progC]), (World.cell?_alloc_at _ _ _ _ (by simp)).trans (by simp [progC]), (World.cell?_alloc_at _ _ _ _ (by simp)).trans (by simp), IsInts.nil _ _ _, none, 0, rfl, Nat.le_refl _⟩
    | 1, _ => exact ⟨.slice none 0 0, (World.cell?_alloc_at _ _ _ _ (by simp)).trans (by simp [progC, S, kCall]), (World.cell?_alloc_at _ _ _ _ (by simp)).trans (by simp [progC]), (World.cell?_alloc_at _ _ _ _ (by simp)).trans (by simp [progC]), (World.cell?_alloc_at _ _ _ _ (by simp)).trans (by simp), IsInts.nil _ _ _, none, 0, rfl, Nat.le_refl _⟩

set_option maxRecDepth 100000 in
set_option maxHeartbeats 8000000 in
theorem called_any (a : Nat → Addr) (w : World) (hE : Errs5 w a) (h3 : Three w a) : Calls Tryz.prog 28 #[] w fun e w' => e = .returned (.bool true) ∧ Below w.heap.size w w' := by
  obtain ⟨W0, hW0⟩ : ∃ W, W = (((w.alloc cVars).alloc cFuns).alloc cStmts).alloc (cProg w.heap.size) := ⟨_, rfl⟩
  have hB0 : Below w.heap.size w W0 := by rw [hW0]; exact (((below1 w _).alloc (by simp) _).alloc (by simp; omega) _).alloc (by simp; omega) _
  have hP : IsProg W0 (.slice (some ⟨w.heap.size, 0, none⟩) 2 2) (.slice (some ⟨w.heap.size + 1, 0, none⟩) 1 1) (.slice (some ⟨w.heap.size + 1 + 1, 0, none⟩) 2 2) progC := by
    rw [hW0]
    exact (progC_is w).below (below1 _ _)
  have K1 : Hid (Calls Tryz.prog 29 #[.agg #[.slice (some ⟨w.heap.size, 0, none⟩) 2 2, .slice (some ⟨w.heap.size + 1, 0, none⟩) 1 1, .slice (some ⟨w.heap.size + 1 + 1, 0, none⟩) 2 2]] W0 fun e w' => ∃ g vc, e = .returned (.tuple #[.slice (some ⟨g, 0, none⟩) 1 vc, .nilIface]) ∧ w'.cell? ⟨g, 0, none⟩ = some (.int .i64 1) ∧ w'.cell? ⟨g, 1, none⟩ = some (.int .i64 0) ∧ Below W0.heap.size W0 w') := by
    refine (graph_any a progC _ _ _ W0 progC_small hP (hE.below hB0) (h3.below hB0)).mono ?_
    rintro e w' ⟨wa, wn, wc, ev, rfl, hcs, hb⟩
    rcases hcs with ⟨-, rfl, L, hL, hi⟩ | ⟨q, -, -⟩
    · rw [graphC hL] at hi
      obtain ⟨a', c', e', hr⟩ := hi
      injection e' with e1 e2 e3
      subst e1 e2 e3
      obtain ⟨g, rfl, h1, h2⟩ := hr 0 (by decide)
      exact ⟨g, _, rfl, h1, h2, hb⟩
    · rw [progC_check] at q; cases q
  have hbox : W0.heap[w.heap.size + 3]? = some (cProg w.heap.size) := by
    have := heap_new (((w.alloc cVars).alloc cFuns).alloc cStmts) (cProg w.heap.size)
    rw [hW0]; simpa using this
  have b0 : W0.cell? ⟨w.heap.size + 3, 0, none⟩ = some (.slice (some ⟨w.heap.size, 0, none⟩) 2 2) := by rw [Lib.cell_of_heap hbox]; rfl
  have b1 : W0.cell? ⟨w.heap.size + 3, 1, none⟩ = some (.slice (some ⟨w.heap.size + 1, 0, none⟩) 1 1) := by rw [Lib.cell_of_heap hbox]; rfl
  have b2 : W0.cell? ⟨w.heap.size + 3, 2, none⟩ = some (.slice (some ⟨w.heap.size + 1 + 1, 0, none⟩) 2 2) := by rw [Lib.cell_of_heap hbox]; rfl
  clear hbox hP hE h3
  go_enter Tryz.func28, Tryz.ntmps28
  go_upto_region 2 with fail
  rw [← hW0]
  clear hW0
  go_wp2_with fail
  refine K1.out.mono ?_
  rintro e w1 ⟨g, vc, rfl, h1, h2, hb⟩
  have hBw : Below w.heap.size w w1 := hB0.trans (hb.mono hB0.size)
  clear K1 b0 b1 b2 hb
  go_wp2_with fail
  go_ret
  exact ⟨rfl, hBw⟩
end Go.Proofs.YteekjigaicmohaaGreatDoor

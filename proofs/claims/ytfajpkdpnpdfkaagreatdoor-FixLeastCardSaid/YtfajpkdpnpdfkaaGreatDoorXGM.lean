/-
  The document's EdgesOf, by a contract.
-/
import Derived.Test.YtfajpkdpnpdfkaaGreatDoorGBM
import Derived.Test.YtfajpkdpnpdfkaaGreatDoorGCM
import Derived.Test.YtfajpkdpnpdfkaaGreatDoorXTM
namespace Go.Proofs.YtfajpkdpnpdfkaaGreatDoor
open Go.RowKit Go.Extern.Stop Go.Stop Go.Extern

theorem bthen {w0 w1 w2 : World} (h1 : Below w0.heap.size w0 w1) (h2 : Below w1.heap.size w1 w2) : Below w0.heap.size w0 w2 := h1.trans (h2.mono h1.size)
abbrev TRfS : TypeId := 108
abbrev TEd : TypeId := 59
abbrev TEdS : TypeId := 54
theorem Tryz.infoRf : (Tryz.prog.info? 44).map (fun i => (i.zero, i.size, i.bytes)) = some (some (.agg #[.string ⟨#[]⟩, .int .i64 0, .int .i64 0, .int .i64 0, .slice none 0 0]), 5, 64) := by kernel_rfl
theorem Tryz.infoEd : (Tryz.prog.info? 59).map (fun i => (i.zero, i.size, i.bytes)) = some (some (.agg #[.int .i64 0, .int .i64 0]), 2, 16) := by kernel_rfl
def ruleCellsQ (r : RuleD) (av : Value) : List Value := [strV r.kind, intV r.a, intV r.b, intV r.stmt, av]
/-- A row of the document's rules, in memory of its own; their args lie in older memory. -/
structure RowQ (w0 w : World) (u : Value) (rs : List RuleD) (qs : List Value) : Prop where
  l : qs.length = rs.length
  o : w.ownsRow w0.heap.size TRf 5 u rs.length (List.zipWith ruleCellsQ rs qs).flatten
  i : ∀ j, j < rs.length → IsInts w0 (qs.getD j default) (rs.getD j default).args
theorem RowQ.nil (w0 w : World) : RowQ w0 w (.slice none 0 0) [] [] := ⟨rfl, World.ownsRow_nil _ _ _ _, fun _ hj => absurd hj (Nat.not_lt_zero _)⟩
theorem RowQ.below {w0 w w' : World} {u : Value} {rs : List RuleD} {qs : List Value} (h : RowQ w0 w u rs qs) (hb : Below w.heap.size w w') : RowQ w0 w' u rs qs := ⟨h.l, owns_below h.o hb, h.i⟩
theorem RowQ.add {w0 wr : World} {u : Value} {rs : List RuleD} {qs : List Value} (h : RowQ w0 wr u rs qs) (hB : Below w0.heap.size w0 wr) (hl : rs.length ≤ 1000000) (r : RuleD) (pv : Value) (hp : IsInts w0 pv r.args) :
    ∃ va vn vc w', (Builtin.append_ #[TRfS, TRfS] TRfS #[u, .slice (some ⟨wr.heap.size, 0, none⟩) 1 1]).run Tryz.prog (wr.alloc (.cells #[.string (S r.kind), .int .i64 r.a, .int .i64 r.b, .int .i64 r.stmt, pv] TRf)) = .ok (.slice va vn vc) w' ∧ vn = rs.length + 1 ∧ RowQ w0 w' (.slice va vn vc) (rs ++ [r]) (qs ++ [pv]) ∧ Below w0.heap.size wr w' ∧ Kept TRf wr w' := by
  obtain ⟨pa, pc, rfl⟩ := isInts_form hp
  obtain ⟨v', w', hr, ho, hb, hk⟩ := append_one wr w0.heap.size u rs.length 5 64 TRfS TRf (.agg #[.string ⟨#[]⟩, .int .i64 0, .int .i64 0, .int .i64 0, .slice none 0 0]) _ (ruleCellsQ r (.slice pa r.args.length pc)) h.o hB.size Tryz.underlying108 Tryz.infoRf (by decide) rfl rfl (fun x hx => by
    simp only [ruleCellsQ, List.mem_cons, List.not_mem_nil, or_false] at hx
    rcases hx with rfl | rfl | rfl | rfl | rfl <;> rfl) hl TRfS (by decide)
  obtain ⟨va, vc, rfl⟩ := owns_form ho
  refine ⟨va, _, vc, w', hr, rfl, ⟨by rw [List.length_append, List.length_append, h.l]; rfl, ?_, fun j hj => ?_⟩, hb, hk⟩
  · rw [zip_snoc ruleCellsQ rs qs h.l, List.length_append]
    exact ho
  · by_cases e : j < rs.length
    · rw [getD_snoc_left _ _ _ _ e, getD_snoc_left _ _ _ _ (by rw [h.l]; exact e)]
      exact h.i j e
    · have e2 : j = rs.length := by rw [List.length_append, List.length_singleton] at hj; omega
      rw [getD_snoc_last _ _ _ _ e2, getD_snoc_last _ _ _ _ (by rw [h.l]; exact e2)]
      exact hp
theorem RowQ.at {w0 w : World} {u : Value} {rs : List RuleD} {qs : List Value} (h : RowQ w0 w u rs qs) (j : Nat) (hj : j < rs.length) : ∃ g cap, u = .slice (some ⟨g, 0, none⟩) rs.length cap ∧ w.cell? ⟨g, j * 5, none⟩ = some (.string (S (rs.getD j default).kind)) ∧ w.cell? ⟨g, j * 5 + 1, none⟩ = some (.int .i64 (rs.getD j default).a) ∧ w.cell? ⟨g, j * 5 + 2, none⟩ = some (.int .i64 (rs.getD j default).b) ∧ w.cell? ⟨g, j * 5 + 3, none⟩ = some (.int .i64 (rs.getD j default).stmt) ∧ w.cell? ⟨g, j * 5 + 4, none⟩ = some (qs.getD j default) := by
  rcases h.o.2 with ⟨hv, h0⟩ | ⟨g, cap, cur, hv, _, _, hcap, _⟩
  · omega
  · refine ⟨g, cap, hv, ?_, ?_, ?_, ?_, ?_⟩
    all_goals
      have hz := zip_at ruleCellsQ rs qs h.l j hj
      have hlen : ∀ l ∈ List.zipWith ruleCellsQ rs qs, l.length = 5 := fun l hl => by
        obtain ⟨i, hi, rfl⟩ := List.mem_iff_getElem.1 hl
        simp [ruleCellsQ]
    · have := h.o.cells (show u.ownBlock = some g by rw [hv]; rfl) (j * 5 + 0) _ (by rw [flatten_at _ 5 hlen j 0 _ hz (by decide)]; rfl)
      rw [Addr.add_lit] at this
      simpa [strV, intV] using this
    · have := h.o.cells (show u.ownBlock = some g by rw [hv]; rfl) (j * 5 + 1) _ (by rw [flatten_at _ 5 hlen j 1 _ hz (by decide)]; rfl)
      rw [Addr.add_lit] at this
      simpa [strV, intV] using this
    · have := h.o.cells (show u.ownBlock = some g by rw [hv]; rfl) (j * 5 + 2) _ (by rw [flatten_at _ 5 hlen j 2 _ hz (by decide)]; rfl)
      rw [Addr.add_lit] at this
      simpa [strV, intV] using this
    · have := h.o.cells (show u.ownBlock = some g by rw [hv]; rfl) (j * 5 + 3) _ (by rw [flatten_at _ 5 hlen j 3 _ hz (by decide)]; rfl)
      rw [Addr.add_lit] at this
      simpa [strV, intV] using this
    · have := h.o.cells (show u.ownBlock = some g by rw [hv]; rfl) (j * 5 + 4) _ (by rw [flatten_at _ 5 hlen j 4 _ hz (by decide)]; rfl)
      rw [Addr.add_lit] at this
      simpa [strV, intV] using this
/-- A row of the document's edges, in memory of its own. -/
def RowPd (w0 w : World) (u : Value) (es : List Pair) : Prop := w.ownsRow w0.heap.size TEd 2 u es.length (ecells es)
theorem RowPd.nil (w0 w : World) : RowPd w0 w (.slice none 0 0) [] := World.ownsRow_nil _ _ _ _
theorem RowPd.below {w0 w w' : World} {u : Value} {es : List Pair} (h : RowPd w0 w u es) (hb : Below w.heap.size w w') : RowPd w0 w' u es := owns_below h hb
theorem RowPd.add {w0 wr : World} {u : Value} {es : List Pair} (h : RowPd w0 wr u es) (hB : Below w0.heap.size w0 wr) (hl : es.length ≤ 1000000) (p : Pair) :
    ∃ va vn vc w', (Builtin.append_ #[TEdS, TEdS] TEdS #[u, .slice (some ⟨wr.heap.size, 0, none⟩) 1 1]).run Tryz.prog (wr.alloc (.cells #[.int .i64 p.1, .int .i64 p.2] TEd)) = .ok (.slice va vn vc) w' ∧ vn = es.length + 1 ∧ RowPd w0 w' (.slice va vn vc) (es ++ [p]) ∧ Below w0.heap.size wr w' := by
  obtain ⟨v', w', hr, ho, hb, -⟩ := append_one wr w0.heap.size u es.length 2 16 TEdS TEd (.agg #[.int .i64 0, .int .i64 0]) _ (pairCells p) h hB.size Tryz.underlying54 Tryz.infoEd (by decide) rfl rfl (fun x hx => by
    simp only [pairCells, List.mem_cons, List.not_mem_nil, or_false] at hx
    rcases hx with rfl | rfl <;> rfl) hl TEdS (by decide)
  obtain ⟨va, vc, rfl⟩ := owns_form ho
  refine ⟨va, _, vc, w', hr, rfl, ?_, hb⟩
  unfold RowPd
  rw [ecells_snoc, List.length_append]
  exact ho
theorem RowPd.form {w0 w : World} {u : Value} {es : List Pair} (h : RowPd w0 w u es) : ∃ a c, u = .slice a es.length c := owns_form h
theorem RowPd.isPairs {w0 w : World} {u : Value} {es : List Pair} (h : RowPd w0 w u es) : IsPairs w u es := by
  rcases h.2 with ⟨hv, h0⟩ | ⟨g, cap, cur, hv, hg, hh, hcap, hmax, hsz, hcur⟩
  · exact ⟨none, 0, by rw [hv, h0], fun j hj => absurd hj (by omega)⟩
  · have hp : ∀ j, j < es.length * 2 → w.cell? ⟨g, j, none⟩ = (ecells es)[j]? := fun j hj => by
      rw [Lib.cell_of_heap hh, ← hcur, List.getElem?_take_of_lt hj]
      simp
    refine ⟨_, cap, hv, fun j hj => ⟨g, rfl, ?_, ?_⟩⟩
    · rw [hp _ (by omega)]; exact (ecells_at es j hj).1
    · rw [hp _ (by omega)]; exact (ecells_at es j hj).2
/-- The document's edges, in a block of their own. -/
def EdgeBlk (w : World) (v : Value) (es : List Pair) : Prop := (v = .slice none 0 0 ∧ es = []) ∨ ∃ g c cur, v = .slice (some ⟨g, 0, none⟩) es.length c ∧ w.heap[g]? = some (.cells cur TEd (0, 0)) ∧ ∀ j, j < es.length * 2 → cur[j]? = (ecells es)[j]?
theorem EdgeBlk.isPairs {w : World} {v : Value} {es : List Pair} (h : EdgeBlk w v es) : IsPairs w v es := by
  rcases h with ⟨rfl, rfl⟩ | ⟨g, c, cur, hv, hh, hc⟩
  · exact ⟨none, 0, rfl, fun j hj => absurd hj (Nat.not_lt_zero _)⟩
  · refine ⟨_, c, hv, fun j hj => ⟨g, rfl, ?_, ?_⟩⟩
    · rw [Lib.cell_of_heap hh, hc _ (by omega)]; exact (ecells_at es j hj).1
    · rw [Lib.cell_of_heap hh, hc _ (by omega)]; exact (ecells_at es j hj).2
theorem EdgeBlk.keep {w w' : World} {v : Value} {es : List Pair} (h : EdgeBlk w v es) (hk : ∀ (b : Nat) (cs : Array Value), w.heap[b]? = some (.cells cs TEd (0, 0)) → w'.heap[b]? = some (.cells cs TEd (0, 0))) : EdgeBlk w' v es := by
  rcases h with h | ⟨g, c, cur, hv, hh, hc⟩
  · exact Or.inl h
  · exact Or.inr ⟨g, c, cur, hv, hk _ _ hh, hc⟩
theorem RowPd.blk {w0 w : World} {u : Value} {es : List Pair} (h : RowPd w0 w u es) : EdgeBlk w u es := by
  rcases h.2 with ⟨hv, h0⟩ | ⟨g, cap, cur, hv, hg, hh, hcap, hmax, hsz, hcur⟩
  · exact Or.inl ⟨hv, List.eq_nil_of_length_eq_zero h0⟩
  · refine Or.inr ⟨g, cap, cur, hv, hh, fun j hj => ?_⟩
    rw [← hcur, List.getElem?_take_of_lt hj]
    simp
/-- The rules that are no base, of the first k statements. -/
def nonBaseTo (P : ProgD) (k : Nat) : List RuleD := ((List.range k).map (ruleD P)).filter fun r => !(r.kind == kBase)
theorem nonBaseTo_all (P : ProgD) : nonBaseTo P P.stmts.length = nonBase P := rfl
theorem nonBaseTo_yes (P : ProgD) (k : Nat) (h : (ruleD P k).kind ≠ kBase) : nonBaseTo P (k + 1) = nonBaseTo P k ++ [ruleD P k] := by
  unfold nonBaseTo
  rw [List.range_succ, List.map_append, List.filter_append]
  simp [h]
theorem nonBaseTo_no (P : ProgD) (k : Nat) (h : (ruleD P k).kind = kBase) : nonBaseTo P (k + 1) = nonBaseTo P k := by
  unfold nonBaseTo
  rw [List.range_succ, List.map_append, List.filter_append]
  simp [h]
theorem nonBaseTo_len (P : ProgD) (k : Nat) : (nonBaseTo P k).length ≤ k := by
  unfold nonBaseTo
  have := List.length_filter_le (fun r : RuleD => !(r.kind == kBase)) ((List.range k).map (ruleD P))
  simpa using this
theorem rule_kinds5 {P : ProgD} (hc : checkE P = none) (r : RuleD) (hr : r ∈ rulesD P) (hb : r.kind ≠ kBase) : r.kind = kCopy ∨ r.kind = kLoad ∨ r.kind = kStore ∨ r.kind = kCall := by
  obtain ⟨k, hk, rfl⟩ := List.mem_map.1 hr
  have hk' := List.mem_range.1 hk
  obtain ⟨k1, -⟩ := stmt_parts ((right_of hc).st _ (getDmC hk'))
  simp only [kinds, List.contains_cons, List.contains_nil, Bool.or_false, Bool.or_eq_true, beq_iff_eq] at k1
  unfold ruleD at hb ⊢
  by_cases e1 : (P.stmts.getD k default).kind = kAddr
  · rw [if_pos e1] at hb; exact absurd rfl hb
  rw [if_neg e1] at hb ⊢
  by_cases e2 : (P.stmts.getD k default).kind = kNew
  · rw [if_pos e2] at hb; exact absurd rfl hb
  rw [if_neg e2] at hb ⊢
  by_cases e3 : (P.stmts.getD k default).kind = kFun
  · rw [if_pos e3] at hb; exact absurd rfl hb
  rw [if_neg e3] at hb ⊢
  show (P.stmts.getD k default).kind = _ ∨ (P.stmts.getD k default).kind = _ ∨ (P.stmts.getD k default).kind = _ ∨ (P.stmts.getD k default).kind = _
  rcases k1 with h | h | h | h | h | h | h <;> simp_all
theorem rowE_yes (P : ProgD) (hs : List (List Int)) (a m : Nat) (h : pairB P hs a m = true) : rowE P hs a (m + 1) = rowE P hs a m ++ [((a : Int), (m : Int))] := by
  unfold rowE
  rw [List.range_succ, List.filter_append, List.map_append]
  simp [h]
theorem rowE_no (P : ProgD) (hs : List (List Int)) (a m : Nat) (h : pairB P hs a m = false) : rowE P hs a (m + 1) = rowE P hs a m := by
  unfold rowE
  rw [List.range_succ, List.filter_append, List.map_append]
  simp [h]
theorem refEdges_succ (P : ProgD) (hs : List (List Int)) (m : Nat) : refEdges P hs (m + 1) = refEdges P hs m ++ rowE P hs m hs.length := by
  unfold refEdges
  rw [List.range_succ, List.flatMap_append]
  simp
theorem rowE_len (P : ProgD) (hs : List (List Int)) (a m : Nat) : (rowE P hs a m).length ≤ m := by
  unfold rowE
  have := List.length_filter_le (fun b : Nat => pairB P hs a b) (List.range m)
  simpa using this
theorem refEdges_len (P : ProgD) (hs : List (List Int)) (m : Nat) : (refEdges P hs m).length ≤ m * hs.length := by
  induction m with
  | zero => simp [refEdges]
  | succ m ih =>
    rw [refEdges_succ, List.length_append, Nat.succ_mul]
    have := rowE_len P hs m hs.length
    omega
end Go.Proofs.YtfajpkdpnpdfkaaGreatDoor

/-
  The document's EdgesOf, by a contract: its walk.
-/
namespace Go.Proofs.YtfajpkdpnpdfkaaGreatDoor
open Go.RowKit Go.Extern.Stop Go.Stop Go.Extern

/-- What EdgesOf tells. -/
def REdgesPost (P : ProgD) (hs : List (List Int)) (w w' : World) (e : Ending) : Prop := ∃ v, e = .returned v ∧ EdgeBlk w' v (refEdges P hs hs.length) ∧ Below w.heap.size w w'
theorem getD_take_lt {α : Type} (l : List α) (k j : Nat) (d : α) (h : j < k) : (l.take k).getD j d = l.getD j d := by
  simp [List.getD, List.getElem?_take_of_lt h]
theorem any_take_yes {α : Type} (d : α) (p : α → Bool) (zs : List α) (k : Nat) (h : k < zs.length) (h2 : p (zs.getD k d) = true) : zs.any p = true := by
  rw [List.any_eq_true]
  exact ⟨zs[k], List.getElem_mem h, by simpa [List.getD, h] using h2⟩
set_option maxRecDepth 100000 in
set_option maxHeartbeats 16000000 in
theorem refEdgesOf_any (P : ProgD) (v1 v2 v3 hv : Value) (hs : List (List Int)) (w : World) (hS : SmallP P) (hc : checkE P = none) (h : IsProg w v1 v2 v3 P) (hH : IsSets w hv hs) (hok : SetsOk P hs) :
    Calls Tryz.prog 20 #[.agg #[v1, v2, v3], hv] w fun e w' => REdgesPost P hs w w' e := by
  have H : Hid (IsProg w v1 v2 v3 P ∧ IsSets w hv hs ∧ SetsOk P hs ∧ SmallP P ∧ checkE P = none) := ⟨h, hH, hok, hS, hc⟩
  obtain ⟨⟨a1, c1, rfl, -, -⟩, ⟨a2, c2, rfl, -, -⟩, ⟨a3, c3, rfl, -, -⟩⟩ := h
  obtain ⟨ha, hcc, rfl, -⟩ := hH
  obtain ⟨n1, hn1⟩ : ∃ m, m = P.vars.length := ⟨_, rfl⟩
  obtain ⟨n2, hn2⟩ : ∃ m, m = P.funs.length := ⟨_, rfl⟩
  obtain ⟨n3, hn3⟩ : ∃ m, m = P.stmts.length := ⟨_, rfl⟩
  obtain ⟨n, hnn⟩ : ∃ m, m = hs.length := ⟨_, rfl⟩
  have HN : Hid (n1 = P.vars.length ∧ n2 = P.funs.length ∧ n3 = P.stmts.length ∧ n = hs.length) := ⟨hn1, hn2, hn3, hnn⟩
  have hn3l : n3 ≤ 80 := by rw [hn3]; exact (right_small hc).1
  have hnl : n ≤ 200 := by
    obtain ⟨s1, s2, s3⟩ := right_small hc
    have hpl := places_le P P.stmts.length
    have := hok.len
    omega
  rw [← hn1, ← hn2, ← hn3] at H ⊢
  rw [← hnn] at H ⊢
  have KN : Hid (∀ wx, Below w.heap.size w wx → Calls Tryz.prog 48 #[.agg #[.slice a1 n1 c1, .slice a2 n2 c2, .slice a3 n3 c3]] wx fun e w' => e = .returned (.int .i64 (n : Int)) ∧ Below wx.heap.size wx w') := fun wx hb => by
    have := refNodes_any P _ _ _ wx hS (H.out.1.below hb)
    rw [← H.out.2.2.1.len, ← HN.out.2.2.2] at this
    exact this
  obtain ⟨W, hW⟩ : ∃ W, W = w.alloc (.cells #[.slice a1 n1 c1, .slice a2 n2 c2, .slice a3 n3 c3] 26) := ⟨_, rfl⟩
  have hBW : Below w.heap.size w W := by rw [hW]; exact below1 w _
  have HBX : Hid (Box3 W w.heap.size (.slice a1 n1 c1) (.slice a2 n2 c2) (.slice a3 n3 c3)) := by
    show Box3 W _ _ _ _
    rw [hW]; exact box3_new w _ _ _ _
  have HX : Hid (∀ wx, Below W.heap.size W wx → Box3 wx w.heap.size (.slice a1 n1 c1) (.slice a2 n2 c2) (.slice a3 n3 c3) ∧ Below w.heap.size w wx ∧ Below W.heap.size W wx) := fun wx hb => ⟨HBX.out.below hb, hBW.trans (hb.mono hBW.size), hb⟩
  obtain ⟨⟨p0, p1, p2⟩, -, -⟩ := HX.out W (Below.refl _ _)
  have HWW : Hid (Below w.heap.size w W) := hBW
  clear hn1 hn2 hn3 hnn hS hc hok HBX
  go_enter Tryz.func20, Tryz.ntmps20
  go_upto_region 1 with fail
  rw [← hW]
  clear hW
  go_wp2_with fail
  refine (KN.out W hBW).mono ?_
  rintro e w1 ⟨rfl, hb1⟩
  have HB1 : Hid (Below W.heap.size W w1) := hb1
  clear p0 p1 p2 hb1 hBW KN
  go_wp2_with fail
  go_loopw [6, 7] (fun t6 t7 wr => ∃ (k : Nat) (qs : List Value), k ≤ n3 ∧ t7 = .int .i64 (k : Int) ∧ RowQ W wr t6 (nonBaseTo P k) qs ∧ Below W.heap.size W wr) (fun _ t7 _ => (n3 - intOf t7).toNat)
  case atStart => exact ⟨0, [], Nat.zero_le _, rfl, RowQ.nil _ _, HB1.out⟩
  case round =>
    clear HB1
    obtain ⟨k, qs, hk, rfl, hrow, hbr⟩ := hrel
    obtain ⟨ua, uc, rfl⟩ := owns_form hrow.o
    obtain ⟨rl, hrl⟩ : ∃ m, m = (nonBaseTo P k).length := ⟨_, rfl⟩
    have HRW : Hid (RowQ W wr (.slice ua rl uc) (nonBaseTo P k) qs ∧ Below W.heap.size W wr ∧ rl = (nonBaseTo P k).length ∧ rl ≤ 80) := by
      refine ⟨by rw [hrl]; exact hrow, hbr, hrl, ?_⟩
      have := nonBaseTo_len P k
      omega
    rw [← hrl]
    obtain ⟨⟨p0, p1, p2⟩, -, -⟩ := HX.out wr hbr
    clear hrow hrl hbr
    by_cases hlt : k < n3
    · have hki : (k : Int) < n3 := by omega
      obtain ⟨r, hr⟩ : ∃ r, r = ruleD P k := ⟨_, rfl⟩
      obtain ⟨kd, hkd⟩ : ∃ kd, kd = S r.kind := ⟨_, rfl⟩
      have hkl : kd.toList = r.kind := by rw [hkd, S_toList]
      obtain ⟨ra, hra⟩ : ∃ z, z = r.a := ⟨_, rfl⟩
      obtain ⟨rb, hrb⟩ : ∃ z, z = r.b := ⟨_, rfl⟩
      obtain ⟨rs, hrs⟩ : ∃ z, z = r.stmt := ⟨_, rfl⟩
      obtain ⟨na, hna⟩ : ∃ z, z = r.args.length := ⟨_, rfl⟩
      have HRD : Hid (r = ruleD P k ∧ kd = S r.kind ∧ ra = r.a ∧ rb = r.b ∧ rs = r.stmt ∧ na = r.args.length) := ⟨hr, hkd, hra, hrb, hrs, hna⟩
      have KR : Hid (Calls Tryz.prog 15 #[.agg #[.slice a1 n1 c1, .slice a2 n2 c2, .slice a3 n3 c3], .int .i64 (k : Int)] wr fun e w' => ∃ aa ac, e = .returned (.agg #[.string kd, .int .i64 ra, .int .i64 rb, .int .i64 rs, .slice aa na ac]) ∧ IsInts W (.slice aa na ac) r.args ∧ Below wr.heap.size wr w') := by
        refine (refRule_any P k _ _ _ W wr H.out.2.2.2.1 H.out.2.2.2.2 (H.out.1.below HWW.out) HRW.out.2.1 (by rw [← HN.out.2.2.1]; exact hlt)).mono ?_
        rintro e w' ⟨av, rfl, hi, hb⟩
        rw [← hr] at hi ⊢
        obtain ⟨aa, ac, rfl⟩ := isInts_form hi
        rw [hkd, hra, hrb, hrs, hna]
        exact ⟨aa, ac, rfl, hi, hb⟩
      clear hr hkd hra hrb hrs hna
      go_wp2_with fail
      refine KR.out.mono ?_
      rintro e w5 ⟨aa, ac, rfl, hai, hb5⟩
      have HA : Hid (IsInts W (.slice aa na ac) r.args ∧ RowQ W w5 (.slice ua rl uc) (nonBaseTo P k) qs ∧ Below W.heap.size W w5) := ⟨hai, HRW.out.1.below hb5, HRW.out.2.1.trans (hb5.mono HRW.out.2.1.size)⟩
      clear hai hb5 KR p0 p1 p2
      go_upto_region 7 with fail
      obtain ⟨W6, hW6⟩ : ∃ W6, W6 = w5.alloc (.cells #[.string kd, .int .i64 ra, .int .i64 rb, .int .i64 rs, .slice aa na ac] TRf) := ⟨_, rfl⟩
      have HG : Hid (W6.heap[w5.heap.size]? = some (.cells #[.string kd, .int .i64 ra, .int .i64 rb, .int .i64 rs, .slice aa na ac] TRf (0, 0)) ∧ RowQ W W6 (.slice ua rl uc) (nonBaseTo P k) qs ∧ Below W.heap.size W W6) := by
        have hb6 : Below w5.heap.size w5 W6 := by rw [hW6]; exact below1 w5 _
        refine ⟨by rw [hW6]; exact heap_new w5 _, HA.out.2.1.below hb6, HA.out.2.2.trans (hb6.mono HA.out.2.2.size)⟩
      rw [← hW6]
      clear hW6
      obtain ⟨g5, hg5⟩ : ∃ g, g = w5.heap.size := ⟨_, rfl⟩
      rw [← hg5] at HG ⊢
      clear hg5
      obtain ⟨⟨t0, t1, t2, t3, t4⟩, -⟩ := ruleCells HG.out.1
      by_cases hbs : r.kind = kBase
      · have g0 : (kd.toList == [98, 97, 115, 101]) = true := by rw [hkl, hbs]; decide
        have HNX : Hid (nonBaseTo P (k + 1) = nonBaseTo P k) := nonBaseTo_no P k (by rw [← HRD.out.1]; exact hbs)
        clear hbs hkl
        go_wp2_with fail
        go_roundw
        case rel => exact ⟨k + 1, qs, hlt, by go_num, by rw [HNX.out]; exact HG.out.2.1, HG.out.2.2⟩
        case measure => simp [intOf]; omega
      · have g0 : (kd.toList == [98, 97, 115, 101]) = false := by rw [hkl]; exact beq_eq_false_iff_ne.2 hbs
        have HNX : Hid (nonBaseTo P (k + 1) = nonBaseTo P k ++ [r]) := by
          show _ = _
          rw [HRD.out.1]; exact nonBaseTo_yes P k (by rw [← HRD.out.1]; exact hbs)
        obtain ⟨va, vn, vc, w7, hrun, hvn, hrow7, hb7, -⟩ := HG.out.2.1.add HG.out.2.2 (by rw [← HRW.out.2.2.1]; have := HRW.out.2.2.2; omega) r (.slice aa na ac) HA.out.1
        rw [← HRD.out.2.1, ← HRD.out.2.2.1, ← HRD.out.2.2.2.1, ← HRD.out.2.2.2.2.1] at hrun
        have HR7 : Hid ((Builtin.append_ #[TRfS, TRfS] TRfS #[.slice ua rl uc, .slice (some ⟨W6.heap.size, 0, none⟩) 1 1]).run Tryz.prog (W6.alloc (.cells #[.string kd, .int .i64 ra, .int .i64 rb, .int .i64 rs, .slice aa na ac] TRf)) = .ok (.slice va vn vc) w7) := hrun
        have HK7 : Hid (RowQ W w7 (.slice va vn vc) (nonBaseTo P (k + 1)) (qs ++ [.slice aa na ac]) ∧ Below W.heap.size W w7) := by
          refine ⟨?_, HG.out.2.2.trans hb7⟩
          rw [HNX.out]; exact hrow7
        clear hbs hkl hrun hrow7 hb7 hvn
        go_wp2_with (at_builtin; refine Lib.wpList_append_run _ rfl _ _ _ _ rfl _ _ rfl rfl _ _ HR7.out ?_)
        go_roundw
        case rel => exact ⟨k + 1, _, hlt, by go_num, HK7.out.1, HK7.out.2⟩
        case measure => simp [intOf]; omega
    · have hkn : k = n3 := by omega
      obtain ⟨w2, rfl⟩ : ∃ z, z = wr := ⟨_, rfl⟩
      have HR2 : Hid (RowQ W w2 (.slice ua rl uc) (nonBase P) qs ∧ Below W.heap.size W w2 ∧ rl = (nonBase P).length ∧ rl ≤ 80) := by
        have := HRW.out
        rw [hkn, HN.out.2.2.1, nonBaseTo_all] at this
        exact this
      have hrl80 : rl ≤ 80 := HR2.out.2.2.2
      have KE2 : Hid (∀ j, j < rl → ∃ (g : Nat) (kd : ByteArray) (ra rb rs : Int) (aa : Option Addr) (na ac : Nat), ua = some ⟨g, 0, none⟩ ∧ w2.cell? ⟨g, j * 5, none⟩ = some (.string kd) ∧ w2.cell? ⟨g, j * 5 + 1, none⟩ = some (.int .i64 ra) ∧ w2.cell? ⟨g, j * 5 + 2, none⟩ = some (.int .i64 rb) ∧ w2.cell? ⟨g, j * 5 + 3, none⟩ = some (.int .i64 rs) ∧ w2.cell? ⟨g, j * 5 + 4, none⟩ = some (.slice aa na ac) ∧ ∀ wx, Below w2.heap.size w2 wx → ∀ x y : Nat, Calls Tryz.prog 57 #[.agg #[.slice a1 n1 c1, .slice a2 n2 c2, .slice a3 n3 c3], .agg #[.string kd, .int .i64 ra, .int .i64 rb, .int .i64 rs, .slice aa na ac], .slice ha n hcc, .int .i64 (x : Int), .int .i64 (y : Int)] wx fun e w' => e = .returned (.bool (isEdgeB P hs ((nonBase P).getD j default) x y)) ∧ Below wx.heap.size wx w') := fun j hj => by
        have hj' : j < (nonBase P).length := by rw [← HR2.out.2.2.1]; exact hj
        obtain ⟨g, cap, hu, e0, e1, e2, e3, e4⟩ := HR2.out.1.at j hj'
        have hi := HR2.out.1.i j hj'
        have hmem : (nonBase P).getD j default ∈ nonBase P := getDmC hj'
        obtain ⟨r, hr⟩ : ∃ r, r = (nonBase P).getD j default := ⟨_, rfl⟩
        obtain ⟨av, hav⟩ : ∃ z, z = qs.getD j default := ⟨_, rfl⟩
        rw [← hr] at e0 e1 e2 e3 hi hmem ⊢
        rw [← hav] at e4 hi
        obtain ⟨aa, ac, rfl⟩ := isInts_form hi
        obtain ⟨hm1, hm2⟩ := List.mem_filter.1 hmem
        have hkb : r.kind ≠ kBase := by simpa using hm2
        obtain ⟨ha1, hb1, -, -⟩ := rule_names H.out.2.2.2.2 r hm1
        have hb1' := hb1 hkb
        have hv : P.vars.length ≤ hs.length := by rw [H.out.2.2.1.len]; unfold places; omega
        injection hu with hu1 _ _
        refine ⟨g, _, _, _, _, aa, _, ac, hu1, e0, e1, e2, e3, e4, fun wx hwx x y => ?_⟩
        have hbw : Below w.heap.size w wx := (HX.out w2 HR2.out.2.1).2.1.trans (hwx.mono (HX.out w2 HR2.out.2.1).2.1.size)
        have hbW : Below W.heap.size W wx := HR2.out.2.1.trans (hwx.mono HR2.out.2.1.size)
        exact refIsEdge_any P _ _ _ _ hs r (.slice aa _ ac) x y wx H.out.2.2.2.1 H.out.2.2.2.2 (H.out.1.below hbw) (H.out.2.1.below hbw) H.out.2.2.1 (hi.below hbW) (by omega) (by omega) (rule_kinds5 H.out.2.2.2.2 r hm1 hkb)
      have hki : ¬ (k : Int) < n3 := by omega
      clear HRW hkn hlt
      go_wp2_with fail
      clear p0 p1 p2
      go_loopw [9, 10] (fun t9 t10 wq => ∃ a : Nat, a ≤ n ∧ t10 = .int .i64 (a : Int) ∧ RowPd w2 wq t9 (refEdges P hs a) ∧ Below w2.heap.size w2 wq) (fun _ t10 _ => (n - intOf t10).toNat)
      case atStart => exact ⟨0, Nat.zero_le _, rfl, RowPd.nil _ _, Below.refl _ _⟩
      case round =>
        obtain ⟨wq, rfl⟩ : ∃ z, z = wr := ⟨_, rfl⟩
        obtain ⟨t9, rfl⟩ : ∃ z, z = u9 := ⟨_, rfl⟩
        obtain ⟨a, hal, rfl, hrow, hbq⟩ := hrel
        by_cases hla : a < n
        · have hai : (a : Int) < n := by omega
          have HQ0 : Hid (RowPd w2 wq t9 (refEdges P hs a) ∧ Below w2.heap.size w2 wq) := ⟨hrow, hbq⟩
          clear hrow hbq
          go_wp2_with fail
          go_loopw [9, 11] (fun t9 t11 wq => ∃ b : Nat, b ≤ n ∧ t11 = .int .i64 (b : Int) ∧ RowPd w2 wq t9 (refEdges P hs a ++ rowE P hs a b) ∧ Below w2.heap.size w2 wq) (fun _ t11 _ => (n - intOf t11).toNat)
          case atStart => exact ⟨0, Nat.zero_le _, rfl, by have := HQ0.out.1; simpa [rowE] using this, HQ0.out.2⟩
          case round =>
            clear HQ0
            obtain ⟨wq, rfl⟩ : ∃ z, z = wr := ⟨_, rfl⟩
            obtain ⟨b, hbl, rfl, hrow, hbq⟩ := hrel
            obtain ⟨oa, oc, rfl⟩ := hrow.form
            obtain ⟨on, hon⟩ : ∃ m, m = (refEdges P hs a ++ rowE P hs a b).length := ⟨_, rfl⟩
            rw [← hon]
            by_cases hlb : b < n
            · have hbi : (b : Int) < n := by omega
              have HQ : Hid (RowPd w2 wq (.slice oa on oc) (refEdges P hs a ++ rowE P hs a b) ∧ Below w2.heap.size w2 wq ∧ on = (refEdges P hs a ++ rowE P hs a b).length ∧ on ≤ 1000000) := by
                refine ⟨by rw [hon]; exact hrow, hbq, hon, ?_⟩
                have h1 := refEdges_len P hs a
                have h2 := rowE_len P hs a b
                have h3 : a * hs.length ≤ 200 * 200 := Nat.mul_le_mul (by omega) (by rw [← HN.out.2.2.2]; exact hnl)
                rw [hon, List.length_append]
                omega
              clear hrow hbq hon
              go_wp2_with fail
              go_loopw [12, 13] (fun t12 t13 wp => ∃ (k : Nat) (D : Bool), k ≤ rl ∧ t13 = .int .i64 (k : Int) ∧ t12 = .bool D ∧ Below wq.heap.size wq wp ∧ (D = true → pairB P hs a b = true) ∧ (D = false → a = b ∨ ((nonBase P).take k).any (fun r => isEdgeB P hs r a b) = false)) (fun _ t13 _ => (rl - intOf t13).toNat)
              case atStart => exact ⟨0, false, Nat.zero_le _, rfl, rfl, Below.refl _ _, fun q => (by cases q), fun _ => Or.inr rfl⟩
              case round =>
                obtain ⟨wp, rfl⟩ : ∃ z, z = wr := ⟨_, rfl⟩
                obtain ⟨k, D, hk, rfl, rfl, hbp, hD1, hD0⟩ := hrel
                have HP : Hid (Below wq.heap.size wq wp ∧ (D = true → pairB P hs a b = true) ∧ (D = false → a = b ∨ ((nonBase P).take k).any (fun r => isEdgeB P hs r a b) = false)) := ⟨hbp, hD1, hD0⟩
                clear hbp hD1 hD0
                have hcs : (k < rl ∧ D = false ∧ a ≠ b) ∨ ((¬ k < rl ∨ (k < rl ∧ D = true) ∨ (k < rl ∧ D = false ∧ a = b)) ∧ pairB P hs a b = D) := by
                  by_cases h1 : k < rl
                  · cases D with
                    | true => exact Or.inr ⟨Or.inr (Or.inl ⟨h1, rfl⟩), HP.out.2.1 rfl⟩
                    | false =>
                      by_cases h2 : a = b
                      · refine Or.inr ⟨Or.inr (Or.inr ⟨h1, rfl, h2⟩), ?_⟩
                        unfold pairB
                        simp [h2]
                      · exact Or.inl ⟨h1, rfl, h2⟩
                  · refine Or.inr ⟨Or.inl h1, ?_⟩
                    cases D with
                    | true => exact HP.out.2.1 rfl
                    | false =>
                      unfold pairB
                      rcases HP.out.2.2 rfl with q | q
                      · simp [q]
                      · rw [List.take_of_length_le (by rw [← HR2.out.2.2.1]; omega)] at q
                        rw [q, Bool.and_false]
                have HBP : Hid (Below w2.heap.size w2 wp) := HQ.out.2.1.trans (HP.out.1.mono HQ.out.2.1.size)
                rcases hcs with ⟨h1, rfl, h2⟩ | ⟨hx, hpair⟩
                · have hki : (k : Int) < rl := by omega
                  have hab : ¬ ((a : Int) = (b : Int)) := by omega
                  obtain ⟨g, kd, ra, rb, rs, aa, na, ac, rfl, e0, e1, e2, e3, e4, KC0⟩ := KE2.out k h1
                  have KC : Hid (∀ wx, Below wp.heap.size wp wx → Calls Tryz.prog 57 #[.agg #[.slice a1 n1 c1, .slice a2 n2 c2, .slice a3 n3 c3], .agg #[.string kd, .int .i64 ra, .int .i64 rb, .int .i64 rs, .slice aa na ac], .slice ha n hcc, .int .i64 (a : Int), .int .i64 (b : Int)] wx fun e w' => e = .returned (.bool (isEdgeB P hs ((nonBase P).getD k default) a b)) ∧ Below wx.heap.size wx w') := fun wx hwx => KC0 wx (HBP.out.trans (hwx.mono HBP.out.size)) a b
                  obtain ⟨R, hR⟩ : ∃ R, R = isEdgeB P hs ((nonBase P).getD k default) a b := ⟨_, rfl⟩
                  rw [← hR] at KC
                  have HPN : Hid (a = b ∨ ((nonBase P).take k).any (fun r => isEdgeB P hs r a b) = false) := HP.out.2.2 rfl
                  have HRR : Hid (R = isEdgeB P hs ((nonBase P).getD k default) a b ∧ k < (nonBase P).length) := ⟨hR, by rw [← HR2.out.2.2.1]; exact h1⟩
                  replace e0 := cell_keep HBP.out e0
                  replace e1 := cell_keep HBP.out e1
                  replace e2 := cell_keep HBP.out e2
                  replace e3 := cell_keep HBP.out e3
                  replace e4 := cell_keep HBP.out e4
                  obtain ⟨⟨p0, p1, p2⟩, -, -⟩ := HX.out wp (HR2.out.2.1.trans (HBP.out.mono HR2.out.2.1.size))
                  clear hR KC0
                  go_upto_region 20 with fail
                  go_region_held3 (fun wx => Below wp.heap.size wp wx ∧ wx.cell? ⟨w.heap.size, 0, none⟩ = some (.slice a1 n1 c1) ∧ wx.cell? ⟨w.heap.size, 1, none⟩ = some (.slice a2 n2 c2) ∧ wx.cell? ⟨w.heap.size, 2, none⟩ = some (.slice a3 n3 c3) ∧ wx.cell? ⟨g, k * 5, none⟩ = some (.string kd) ∧ wx.cell? ⟨g, k * 5 + 1, none⟩ = some (.int .i64 ra) ∧ wx.cell? ⟨g, k * 5 + 2, none⟩ = some (.int .i64 rb) ∧ wx.cell? ⟨g, k * 5 + 3, none⟩ = some (.int .i64 rs) ∧ wx.cell? ⟨g, k * 5 + 4, none⟩ = some (.slice aa na ac))
                    ((go_split_ands; first | exact ⟨(Below.refl _ _).drew, p0, p1, p2, e0, e1, e2, e3, e4⟩ | exact ⟨(Below.refl _ _).drew.trans hb8, cell_keep hb8 p0, cell_keep hb8 p1, cell_keep hb8 p2, cell_keep hb8 e0, cell_keep hb8 e1, cell_keep hb8 e2, cell_keep hb8 e3, cell_keep hb8 e4⟩))
                    ((go_at_call 57; refine (KC.out _ ?_).mono ?_; (go_split_ands; assumption); rintro e w8 ⟨rfl, hb8⟩))
                  have HB8 : Hid (Below wq.heap.size wq w8) := HP.out.1.trans (((Below.refl _ _).drew.trans hb8 : Below wp.heap.size wp w8).mono HP.out.1.size)
                  have HDN : Hid ((R = true → pairB P hs a b = true) ∧ (R = false → a = b ∨ ((nonBase P).take (k + 1)).any (fun r => isEdgeB P hs r a b) = false)) := by
                    refine ⟨fun q => ?_, fun q => Or.inr ?_⟩
                    · unfold pairB
                      rw [any_take_yes default _ _ k HRR.out.2 (by rw [← HRR.out.1]; exact q)]
                      simpa using h2
                    · refine any_take_no default _ _ k HRR.out.2 ?_ (by rw [← HRR.out.1]; exact q)
                      rcases HPN.out with q2 | q2
                      · exact absurd q2 h2
                      · exact q2
                  clear hb8 e0 e1 e2 e3 e4 p0 p1 p2 KC
                  go_wp2_with fail
                  go_roundw
                  case rel => exact ⟨k + 1, R, h1, by go_num, rfl, HB8.out, HDN.out⟩
                  case measure => simp [intOf]; omega
                · have HPR : Hid (pairB P hs a b = D) := hpair
                  clear hpair
                  have hbr := HQ.out.1.below HP.out.1
                  have HW2 : Hid (RowPd w2 wp (.slice oa on oc) (refEdges P hs a ++ rowE P hs a b)) := hbr
                  clear hbr
                  have HAD : Hid (∃ va vn vc w', (Builtin.append_ #[TEdS, TEdS] TEdS #[.slice oa on oc, .slice (some ⟨wp.heap.size, 0, none⟩) 1 1]).run Tryz.prog (wp.alloc (.cells #[.int .i64 (a : Int), .int .i64 (b : Int)] TEd)) = .ok (.slice va vn vc) w' ∧ vn = (refEdges P hs a ++ rowE P hs a b).length + 1 ∧ RowPd w2 w' (.slice va vn vc) ((refEdges P hs a ++ rowE P hs a b) ++ [((a : Int), (b : Int))]) ∧ Below w2.heap.size wp w') := HW2.out.add HBP.out (by rw [← HQ.out.2.2.1]; exact HQ.out.2.2.2) ((a : Int), (b : Int))
                  rcases hx with hx | ⟨hx, rfl⟩ | ⟨hx, rfl, hab⟩
                  · have hki : ¬ (k : Int) < rl := by omega
                    clear hx
                    cases D with
                    | true =>
                      obtain ⟨va, vn, vc, w9, hrun, hvn, hrow9, hb9⟩ := HAD.out
                      have HR9 : Hid ((Builtin.append_ #[TEdS, TEdS] TEdS #[.slice oa on oc, .slice (some ⟨wp.heap.size, 0, none⟩) 1 1]).run Tryz.prog (wp.alloc (.cells #[.int .i64 (a : Int), .int .i64 (b : Int)] TEd)) = .ok (.slice va vn vc) w9) := hrun
                      have HNX : Hid (RowPd w2 w9 (.slice va vn vc) (refEdges P hs a ++ rowE P hs a (b + 1)) ∧ Below w2.heap.size w2 w9) := by
                        refine ⟨?_, HBP.out.trans hb9⟩
                        rw [rowE_yes P hs a b HPR.out, ← List.append_assoc]
                        exact hrow9
                      clear hrun hvn hrow9 hb9 HAD
                      go_wp2_with (at_builtin; refine Lib.wpList_append_run _ rfl _ _ _ _ rfl _ _ rfl rfl _ _ HR9.out ?_)
                      go_roundw
                      case rel => exact ⟨b + 1, hlb, by go_num, HNX.out⟩
                      case measure => simp [intOf]; omega
                    | false =>
                      have HNX : Hid (RowPd w2 wp (.slice oa on oc) (refEdges P hs a ++ rowE P hs a (b + 1)) ∧ Below w2.heap.size w2 wp) := by
                        refine ⟨?_, HBP.out⟩
                        rw [rowE_no P hs a b HPR.out]
                        exact HW2.out
                      clear HAD
                      go_wp2_with fail
                      go_roundw
                      case rel => exact ⟨b + 1, hlb, by go_num, HNX.out⟩
                      case measure => simp [intOf]; omega
                  · have hki : (k : Int) < rl := by omega
                    clear hx
                    obtain ⟨va, vn, vc, w9, hrun, hvn, hrow9, hb9⟩ := HAD.out
                    have HR9 : Hid ((Builtin.append_ #[TEdS, TEdS] TEdS #[.slice oa on oc, .slice (some ⟨wp.heap.size, 0, none⟩) 1 1]).run Tryz.prog (wp.alloc (.cells #[.int .i64 (a : Int), .int .i64 (b : Int)] TEd)) = .ok (.slice va vn vc) w9) := hrun
                    have HNX : Hid (RowPd w2 w9 (.slice va vn vc) (refEdges P hs a ++ rowE P hs a (b + 1)) ∧ Below w2.heap.size w2 w9) := by
                      refine ⟨?_, HBP.out.trans hb9⟩
                      rw [rowE_yes P hs a b HPR.out, ← List.append_assoc]
                      exact hrow9
                    clear hrun hvn hrow9 hb9 HAD
                    go_wp2_with (at_builtin; refine Lib.wpList_append_run _ rfl _ _ _ _ rfl _ _ rfl rfl _ _ HR9.out ?_)
                    go_roundw
                    case rel => exact ⟨b + 1, hlb, by go_num, HNX.out⟩
                    case measure => simp [intOf]; omega
                  · have hki : (k : Int) < rl := by omega
                    subst hab
                    clear hx
                    have HNX : Hid (RowPd w2 wp (.slice oa on oc) (refEdges P hs a ++ rowE P hs a (a + 1)) ∧ Below w2.heap.size w2 wp) := by
                      refine ⟨?_, HBP.out⟩
                      rw [rowE_no P hs a a HPR.out]
                      exact HW2.out
                    clear HAD
                    go_wp2_with fail
                    go_roundw
                    case rel => exact ⟨a + 1, hlb, by go_num, HNX.out⟩
                    case measure => simp [intOf]; omega
            · have hbn : b = n := by omega
              subst hbn
              have HNX : Hid (RowPd w2 wq (.slice oa on oc) (refEdges P hs (a + 1)) ∧ Below w2.heap.size w2 wq) := by
                refine ⟨?_, hbq⟩
                rw [refEdges_succ, ← HN.out.2.2.2, hon]
                exact hrow
              clear hrow hbq hon
              go_wp2_with fail
              go_roundw
              case rel => exact ⟨a + 1, hla, by go_num, HNX.out⟩
              case measure => simp [intOf]; omega
        · have han : a = n := by omega
          subst han
          have HNX : Hid (EdgeBlk wq t9 (refEdges P hs hs.length) ∧ Below w.heap.size w wq) := by
            have hb2 := (HX.out w2 HR2.out.2.1).2.1
            refine ⟨?_, hb2.trans (hbq.mono hb2.size)⟩
            rw [← HN.out.2.2.2]
            exact hrow.blk
          clear hrow hbq
          go_wp2_with fail
          go_ret
          exact ⟨t9, rfl, HNX.out⟩
end Go.Proofs.YtfajpkdpnpdfkaaGreatDoor

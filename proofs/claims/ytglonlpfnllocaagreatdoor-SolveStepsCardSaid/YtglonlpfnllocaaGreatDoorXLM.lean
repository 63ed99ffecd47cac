/-
  From what a row lists of the package variables to where the errors of package api lie.
-/
import Derived.Test.YtglonlpfnllocaaGreatDoorRows
import Derived.Test.YtglonlpfnllocaaGreatDoorBase
import Derived.LaidLaws
import Derived.LaidHandle
import Derived.LaidSub
import Derived.LaidMore
import Derived.Stop.LaidErr
import Derived.Stop.Joined
import Derived.Test.YtglonlpfnllocaaGreatDoorXBM
import Derived.Lib.SmallJoins
import Derived.Deep.Strs
import Derived.ProofKit
import Derived.OpenShut
import Derived.Carry
import Derived.Test.YtglonlpfnllocaaGreatDoorXCM
import Derived.Test.YtglonlpfnllocaaGreatDoorXSM
import Derived.Deep.Matrix
namespace Go.Proofs.YtglonlpfnllocaaGreatDoor
open Go.ChangeShapes Go.WideShapes Go.RowKit

theorem Tryz.own : ownKnob Tryz.prog.godebug = none := by kernel_rfl
theorem Tryz.cellsES : Tryz.prog.cellsOf 241 = 1 := by kernel_rfl
theorem Tryz.cellsString : Tryz.prog.cellsOf 9 = 1 := by kernel_rfl
theorem Tryz.star : "*" ++ "errors.errorString" = "*errors.errorString" := by decide
theorem Tryz.rowES (u : TypeId) (h : Tryz.prog.typeName? 3 u = some "*errors.errorString") : u = 221 :=
  typeName_ptr_named (nm := "errors.errorString") (by rw [Tryz.star]; kernel_rfl) (by kernel_rfl) (by decide) u (by rw [Tryz.star]; exact h)

/-- One listed sentinel: its variable's cell; behind it the text; the row of cells is not frozen. -/
theorem sentinel_one {P : Program} {n nm : String} {text : List UInt8} {r : List (String × DataW Unit)} {W : World} {g : Nat} {ti tp te ts : TypeId} {ms : Array (String × TypeId)} {f : Field}
    (h : laidMet P ((n, .iface nm (.ptr (.agg [.lit (.string text)]))) :: r) W)
    (hg : P.globalNamed n = some g) (ht : (P.globals[g]?).map (·.type) = some ti) (hi : P.underlying ti = some (.interface ms)) (hrow : ∀ u, P.typeName? 3 u = some nm → u = tp)
    (hp : P.underlying tp = some (.pointer te)) (he : P.underlying te = some (.struct #[f])) (hft : f.type = ts) (hfo : f.offset = 0) (hs : P.underlying ts = some .string) (hc : P.cellsOf te = 1) (hcs : P.cellsOf ts = 1) :
    ∃ (a : Addr) (s : ByteArray), W.cell? ⟨g, 0, none⟩ = some (.iface tp (.pointer (some a))) ∧ W.cell? a = some (.string s) ∧ s.data.toList = text ∧ ∃ c t, W.heap[a.block]? = some (.cells c t (0, 0)) := by
  obtain ⟨ps, ⟨g0, t0, cs0, f0, p0, q0, hg0, ht0, hv0, hd0, _, e0⟩, _, hrows⟩ := h
  obtain rfl := Option.some.inj (hg.symm.trans hg0)
  obtain rfl := Option.some.inj (ht.symm.trans ht0)
  subst e0
  obtain ⟨l0⟩ := cs0
  have ok0 : ∀ u v, l0 = [.iface u v] → Value.okWide P W .any 0 u v := fun u v e => by
    subst e
    exact (hrows g 0 (by simp [MemPlace.row])).2 u v (by simpa using World.var?_cell hg0 hv0 0)
  obtain ⟨a0, s0, rfl, hc0, hs0, hz0, rfl⟩ := errorString_of_trod hi hrow hp he hft hfo hs hc hcs hd0 ok0
  exact ⟨a0, s0, by simpa using World.var?_cell hg0 hv0 0, hc0, hs0, (hrows a0.block a0.off (by simp [MemPlace.row])).1⟩

theorem sentinel_of {W : World} {l : List (String × DataW Unit)} (h : laidMetH Tryz.prog l W) (n : String) (text : List UInt8) (g : Nat)
    (hf : l.filter (fun x => x.1 == n) = [(n, .iface "*errors.errorString" (.ptr (.agg [.lit (.string text)])))])
    (hg : Tryz.prog.globalNamed n = some g) (ht : (Tryz.prog.globals[g]?).map (·.type) = some 31) :
    ∃ (a : Addr) (s : ByteArray), W.cell? ⟨g, 0, none⟩ = some (.iface 221 (.pointer (some a))) ∧ W.cell? a = some (.string s) ∧ s.data.toList = text ∧ ∃ c t, W.heap[a.block]? = some (.cells c t (0, 0)) := by
  have h1 := h.filter (fun x => x.1 == n)
  rw [hf] at h1
  have h2 : laidMet Tryz.prog [(n, .iface "*errors.errorString" (.ptr (.agg [.lit (.string text)])))] W := h1
  exact sentinel_one h2 hg ht Tryz.underlying31 Tryz.rowES Tryz.underlying221 Tryz.underlying241 rfl rfl Tryz.underlying9 Tryz.cellsES Tryz.cellsString

theorem Tryz.et : Tryz.prog.globalNamed "errors.errorType" = some 11 := by kernel_rfl
theorem Tryz.rt : (Tryz.prog.cutTypes.find? (·.1 == "internal/reflectlite.rtype")).map (·.2) = some 172 := by kernel_rfl
theorem Tryz.oneRow : ((List.range 253).filter fun t => Tryz.prog.rowNamed t [101, 114, 114, 111, 114]) = [31] := by kernel_rfl
theorem Tryz.size : Tryz.prog.types.size = 253 := by kernel_rfl
theorem handle_of {W : World} {l : List (String × DataW Unit)} (h : laidMetH Tryz.prog l W) (hf : l.filter (fun x => x.1 == "errors.errorType") = [("errors.errorType", Rows.laid_errors_errorType)]) :
    W.cell? ⟨11, 0, none⟩ = some (.iface 172 (.agg #[.pointer (some ⟨12, 31, none⟩)])) := by
  have h1 := h.filter (fun x => x.1 == "errors.errorType")
  rw [hf] at h1
  have h' : laidMet Tryz.prog [] W ∧ handlesMet Tryz.prog [("errors.errorType", Rows.laid_errors_errorType)] W := h1
  obtain ⟨name, u, ty, e1, e2, e3, e4, e5⟩ := h'.2 _ (List.mem_singleton.2 rfl)
  have en : name = [101, 114, 114, 111, 114] := (Option.some.inj e1).symm
  subst en
  obtain rfl := Option.some.inj (Tryz.rt.symm.trans e2)
  have hm : ty ∈ (List.range 253).filter fun t => Tryz.prog.rowNamed t [101, 114, 114, 111, 114] := List.mem_filter.2 ⟨List.mem_range.2 (by rw [← Tryz.size]; exact e3), e4⟩
  rw [Tryz.oneRow] at hm
  obtain rfl := List.mem_singleton.1 hm
  have hh : typeHandle Tryz.prog 31 = .pointer (some ⟨12, 31, none⟩) := by kernel_rfl
  rw [hh] at e5
  simpa using World.var?_cell Tryz.et e5 0
end Go.Proofs.YtglonlpfnllocaaGreatDoor

/-
  An api.Program that came in reads as plain data.
-/
namespace Go.Proofs.YtglonlpfnllocaaGreatDoor
open Go.ChangeShapes Go.WideShapes Go.ChangeAt Go.RowKit Go.Deep

section
variable {H : Type} {enc : TypeId × Value → H} {W : World}

theorem spot_none {a : Addr} {v : Value} (i : Nat) (h : W.cell? (a.add i) = some v) (h0 : ∃ u, W.cell? (a.add 0) = some u) : ∃ b o, a = ⟨b, o, none⟩ := by
  obtain ⟨u, hu⟩ := h0
  obtain ⟨b, off, spot⟩ := a
  have hspot : spot = none := by simpa [Addr.add] using World.cell?_spot hu
  subst hspot
  exact ⟨b, off, rfl⟩

theorem strs_read {fuel : Nat} {v : Value} {x : DataW H × List MemPlace} (h : DataW.trod enc Tryz.prog W 0 (fun _ => true) true fuel 22 [v] = some x) : ∃ ss, IsStrs W v ss := by
  rcases open_strs Tryz.underlying22 Tryz.underlying9 (by kernel_rfl) h with ⟨hcs, _⟩ | ⟨a, len, cap, m, Sx, hcs, _, hl, _, hm, _, hc⟩
  · simp at hcs
    exact ⟨[], none, 0, by simpa using hcs, Nat.le_refl _, fun j hj => absurd hj (Nat.not_lt_zero _)⟩
  · have hv : v = .slice (some a) len cap := by simpa using hcs
    have hm' : m = cap := by simpa using hm
    subst hm'
    refine ⟨(List.range len).map fun i => (Sx i).data.toList, some a, m, by simpa using hv, by simpa using hl, fun j hj => ?_⟩
    have hj' : j < len := by simpa using hj
    obtain ⟨b, o, rfl⟩ := spot_none j (hc j (by omega)).1 ⟨_, (hc 0 (by omega)).1⟩
    refine ⟨b, o, rfl, ?_⟩
    have := (hc j (by omega)).1
    rw [Addr.add_lit] at this
    rw [this]
    simp [List.getD, hj', S_of]
theorem ints_read {fuel : Nat} {v : Value} {x : DataW H × List MemPlace} (h : DataW.trod enc Tryz.prog W 0 (fun _ => true) true fuel 40 [v] = some x) : ∃ zs, IsCap W v zs := by
  rcases open_ints Tryz.underlying40 Tryz.underlying3 (by kernel_rfl) h with ⟨hcs, _⟩ | ⟨a, len, cap, zs, hcs, _, hl, _, hz, _, hc, _⟩
  · have hv : v = .slice none 0 0 := by simpa using hcs
    subst hv
    exact ⟨[], IsInts.nil _ _ _, none, 0, rfl, Nat.le_refl _⟩
  · have hv : v = .slice (some a) len cap := by simpa using hcs
    have hz' : zs.length = cap := by simpa using hz
    subst hv
    have hlt : (zs.take len).length = len := by rw [List.length_take]; omega
    refine ⟨zs.take len, ?_, some a, cap, by rw [hlt], by rw [hlt]; exact hl⟩
    by_cases h0 : len = 0
    · subst h0
      exact IsInts.nil _ _ _
    · obtain ⟨b, off, rfl, hc'⟩ := ints_at hc (by omega)
      refine isInts_of_cells hlt.symm fun j hj => ?_
      rw [hlt] at hj
      rw [hc' j (by omega)]
      simp [List.getD, hj]

theorem cells3 {a : Addr} {cs : List Value} (h : W.cells? 0 a 3 = some cs) : ∃ c0 c1 c2, cs = [c0, c1, c2] ∧ W.cell? (a.add 0) = some c0 ∧ W.cell? (a.add 1) = some c1 ∧ W.cell? (a.add 2) = some c2 := by
  obtain ⟨_, hl, hc⟩ := World.cells?_some h
  match cs, hl with
  | [c0, c1, c2], _ => exact ⟨c0, c1, c2, rfl, hc 0 (by decide), hc 1 (by decide), hc 2 (by decide)⟩
theorem cells4 {a : Addr} {cs : List Value} (h : W.cells? 0 a 4 = some cs) : ∃ c0 c1 c2 c3, cs = [c0, c1, c2, c3] ∧ W.cell? (a.add 0) = some c0 ∧ W.cell? (a.add 1) = some c1 ∧ W.cell? (a.add 2) = some c2 ∧ W.cell? (a.add 3) = some c3 := by
  obtain ⟨_, hl, hc⟩ := World.cells?_some h
  match cs, hl with
  | [c0, c1, c2, c3], _ => exact ⟨c0, c1, c2, c3, rfl, hc 0 (by decide), hc 1 (by decide), hc 2 (by decide), hc 3 (by decide)⟩

theorem cellsFun : Tryz.prog.cellsOf 60 = 3 := by kernel_rfl
theorem cellsStmt : Tryz.prog.cellsOf 45 = 4 := by kernel_rfl
theorem cellsInts : Tryz.prog.cellsOf 40 = 1 := by kernel_rfl
theorem cellsStr : Tryz.prog.cellsOf 9 = 1 := by kernel_rfl
theorem cellsInt : Tryz.prog.cellsOf 3 = 1 := by kernel_rfl

theorem fun_read {fuel b o : Nat} {cs : List Value} {x : DataW H × List MemPlace} (h : DataW.trod enc Tryz.prog W 0 (fun _ => true) true fuel 60 cs = some x) (hc : W.cells? 0 ⟨b, o, none⟩ 3 = some cs) : ∃ f, FunAt W b o f := by
  obtain ⟨c0, c1, c2, rfl, k0, k1, k2⟩ := cells3 hc
  obtain ⟨y0, y1, y2, n, _, _, h0, h1, h2⟩ := trod_struct3 Tryz.underlying60 h
  simp only [cellsStr, cellsInts, cellsInt] at h0 h1 h2
  obtain ⟨s, hs, _⟩ := DataW.trod_string Tryz.underlying9 h0
  obtain ⟨zs, hz⟩ := ints_read (enc := enc) (W := W) (v := c1) (by simpa using h1)
  obtain ⟨r, hr, _⟩ := DataW.trod_int Tryz.underlying3 h2
  have hs' : c0 = .string s := by simpa using hs
  have hr' : c2 = .int .i64 r := by simpa using hr
  subst hs' hr'
  rw [Addr.add_lit] at k0 k1 k2
  exact ⟨⟨s.data.toList, zs, r⟩, c1, by rw [S_of]; exact k0, k1, hz, k2⟩
theorem stmt_read {fuel b o : Nat} {cs : List Value} {x : DataW H × List MemPlace} (h : DataW.trod enc Tryz.prog W 0 (fun _ => true) true fuel 45 cs = some x) (hc : W.cells? 0 ⟨b, o, none⟩ 4 = some cs) : ∃ f, StmtAt W b o f := by
  obtain ⟨c0, c1, c2, c3, rfl, k0, k1, k2, k3⟩ := cells4 hc
  obtain ⟨y0, y1, y2, y3, n, _, _, h0, h1, h2, h3⟩ := Joins.trod_struct4 Tryz.underlying45 h
  simp only [cellsStr, cellsInts, cellsInt] at h0 h1 h2 h3
  obtain ⟨s, hs, _⟩ := DataW.trod_string Tryz.underlying9 h0
  obtain ⟨zs, hz⟩ := ints_read (enc := enc) (W := W) (v := c3) (by simpa using h3)
  obtain ⟨r, hr, _⟩ := DataW.trod_int Tryz.underlying3 h1
  obtain ⟨q, hq, _⟩ := DataW.trod_int Tryz.underlying3 h2
  have hs' : c0 = .string s := by simpa using hs
  have hr' : c1 = .int .i64 r := by simpa using hr
  have hq' : c2 = .int .i64 q := by simpa using hq
  subst hs' hr' hq'
  rw [Addr.add_lit] at k0 k1 k2 k3
  exact ⟨⟨s.data.toList, r, q, zs⟩, c3, by rw [S_of]; exact k0, k1, k2, k3, hz⟩

theorem list_of {α : Type} [Inhabited α] (n : Nat) (p : Nat → α → Prop) (h : ∀ i, i < n → ∃ x, p i x) : ∃ l : List α, l.length = n ∧ ∀ i, i < n → p i (l.getD i default) := by
  obtain ⟨f, hf⟩ := choose_lt h
  refine ⟨(List.range n).map f, by simp, fun i hi => ?_⟩
  have : ((List.range n).map f).getD i default = f i := by simp [List.getD, hi]
  rw [this]; exact hf i hi
theorem cells_spot {a : Addr} {n : Nat} {cs : List Value} (hn : 0 < n) (h : W.cells? 0 a n = some cs) : ∃ b o, a = ⟨b, o, none⟩ := by
  obtain ⟨_, hl, hc⟩ := World.cells?_some h
  have h0 := hc 0 hn
  obtain ⟨b, off, spot⟩ := a
  have : cs[0]? = some (cs[0]'(by omega)) := List.getElem?_eq_getElem (by omega)
  rw [this] at h0
  have hspot : spot = none := by simpa [Addr.add] using World.cell?_spot h0
  subst hspot
  exact ⟨b, off, rfl⟩

theorem funs_read {fuel : Nat} {v : Value} {x : DataW H × List MemPlace} (h : DataW.trod enc Tryz.prog W 0 (fun _ => true) true fuel 23 [v] = some x) : ∃ fs, IsFuns W v fs := by
  rcases open_slice Tryz.underlying23 h with ⟨hcs, _⟩ | ⟨a, len, cap, m, n, D, Pl, hcs, _, hl, _, hm, _, hc⟩
  · exact ⟨[], none, 0, by simpa using hcs, Nat.le_refl _, fun j hj => absurd hj (Nat.not_lt_zero _)⟩
  · have hv : v = .slice (some a) len cap := by simpa using hcs
    have hm' : m = cap := by simpa using hm
    subst hm'
    rw [cellsFun] at hc
    obtain ⟨fs, hfl, hf⟩ := list_of (α := FunD) len (fun i f => ∃ b o, a = ⟨b, o, none⟩ ∧ FunAt W b (o + i * 3) f) (fun i hi => by
      obtain ⟨cs0, hc0, _⟩ := hc 0 (by omega)
      obtain ⟨b, o, rfl⟩ : ∃ b o, a = ⟨b, o, none⟩ := cells_spot (n := 3) (by decide) (by simpa [Addr.add] using hc0)
      obtain ⟨cs', hci, ht⟩ := hc i (by omega)
      rw [Addr.add_lit] at hci
      obtain ⟨f, hf⟩ := fun_read ht hci
      exact ⟨f, b, o, rfl, hf⟩)
    refine ⟨fs, some a, m, by rw [hfl]; exact hv, by rw [hfl]; exact hl, fun j hj => ?_⟩
    obtain ⟨b, o, rfl, hfa⟩ := hf j (by omega)
    exact ⟨b, o, rfl, hfa⟩
theorem stmts_read {fuel : Nat} {v : Value} {x : DataW H × List MemPlace} (h : DataW.trod enc Tryz.prog W 0 (fun _ => true) true fuel 24 [v] = some x) : ∃ fs, IsStmts W v fs := by
  rcases open_slice Tryz.underlying24 h with ⟨hcs, _⟩ | ⟨a, len, cap, m, n, D, Pl, hcs, _, hl, _, hm, _, hc⟩
  · exact ⟨[], none, 0, by simpa using hcs, Nat.le_refl _, fun j hj => absurd hj (Nat.not_lt_zero _)⟩
  · have hv : v = .slice (some a) len cap := by simpa using hcs
    have hm' : m = cap := by simpa using hm
    subst hm'
    rw [cellsStmt] at hc
    obtain ⟨fs, hfl, hf⟩ := list_of (α := StmtD) len (fun i f => ∃ b o, a = ⟨b, o, none⟩ ∧ StmtAt W b (o + i * 4) f) (fun i hi => by
      obtain ⟨cs0, hc0, _⟩ := hc 0 (by omega)
      obtain ⟨b, o, rfl⟩ : ∃ b o, a = ⟨b, o, none⟩ := cells_spot (n := 4) (by decide) (by simpa [Addr.add] using hc0)
      obtain ⟨cs', hci, ht⟩ := hc i (by omega)
      rw [Addr.add_lit] at hci
      obtain ⟨f, hf⟩ := stmt_read ht hci
      exact ⟨f, b, o, rfl, hf⟩)
    refine ⟨fs, some a, m, by rw [hfl]; exact hv, by rw [hfl]; exact hl, fun j hj => ?_⟩
    obtain ⟨b, o, rfl, hfa⟩ := hf j (by omega)
    exact ⟨b, o, rfl, hfa⟩

set_option maxRecDepth 100000 in
/-- An api.Program that came in. -/
theorem prog_in {base : Nat} {v : Value} {d : DataW H} {p : List MemPlace} (hv : Value.okWide Tryz.prog W .any base 26 v) (h : DataW.Trod enc Tryz.prog W 0 (fun _ => true) true 26 v d p) :
    ∃ v1 v2 v3 P, v = .agg #[v1, v2, v3] ∧ IsProg W v1 v2 v3 P ∧ ∀ x ∈ p, x.block < W.heap.size := by
  have hlt : ∀ x ∈ p, x.block < W.heap.size := by obtain ⟨m, hm⟩ := h; exact DataW.trod_lt m _ _ _ hm
  obtain ⟨v0, v1, v2, y0, y1, y2, n, rfl, _, _, h0, h1, h2⟩ := Joins.open_agg3 Tryz.underlying26 (by kernel_rfl) (by kernel_rfl) hv h
  obtain ⟨ss, hs⟩ := strs_read h0
  obtain ⟨fs, hf⟩ := funs_read h1
  obtain ⟨ts, ht⟩ := stmts_read h2
  exact ⟨v0, v1, v2, ⟨ss, fs, ts⟩, rfl, ⟨hs, hf, ht⟩, hlt⟩
end
end Go.Proofs.YtglonlpfnllocaaGreatDoor

/-
  What the cards of this seat share: how arguments come in, how eight errors lie.
-/
namespace Go.Proofs.YtglonlpfnllocaaGreatDoor
open Go.ChangeShapes Go.WideShapes Go.ChangeAt Go.RowKit Go.Deep

theorem Tryz.laidOut : laidOutB Tryz.prog = true := by kernel_rfl
/-- Eight of the errors lie where their variables say. -/
theorem eight_of {W : World} {l : List (String × DataW Unit)} (h : laidMetH Tryz.prog l W)
    (f1 : l.filter (fun x => x.1 == "fingerpost/api.ErrBound") = [("fingerpost/api.ErrBound", Rows.laid_fingerpost_api_ErrBound)])
    (f2 : l.filter (fun x => x.1 == "fingerpost/api.ErrShape") = [("fingerpost/api.ErrShape", Rows.laid_fingerpost_api_ErrShape)])
    (f3 : l.filter (fun x => x.1 == "fingerpost/api.ErrKind") = [("fingerpost/api.ErrKind", Rows.laid_fingerpost_api_ErrKind)])
    (f4 : l.filter (fun x => x.1 == "fingerpost/api.ErrName") = [("fingerpost/api.ErrName", Rows.laid_fingerpost_api_ErrName)])
    (f6 : l.filter (fun x => x.1 == "fingerpost/api.ErrExist") = [("fingerpost/api.ErrExist", Rows.laid_fingerpost_api_ErrExist)])
    (f7 : l.filter (fun x => x.1 == "fingerpost/api.ErrFull") = [("fingerpost/api.ErrFull", Rows.laid_fingerpost_api_ErrFull)])
    (f8 : l.filter (fun x => x.1 == "fingerpost/api.ErrArgs") = [("fingerpost/api.ErrArgs", Rows.laid_fingerpost_api_ErrArgs)])
    (f9 : l.filter (fun x => x.1 == "fingerpost/api.ErrOrder") = [("fingerpost/api.ErrOrder", Rows.laid_fingerpost_api_ErrOrder)]) : ∃ a, Errs5 W a ∧ Three W a := by
  obtain ⟨a1, _, h1, _⟩ := sentinel_of h "fingerpost/api.ErrBound" _ 5 f1 (by kernel_rfl) (by kernel_rfl)
  obtain ⟨a2, _, h2, _⟩ := sentinel_of h "fingerpost/api.ErrShape" _ 6 f2 (by kernel_rfl) (by kernel_rfl)
  obtain ⟨a3, _, h3, _⟩ := sentinel_of h "fingerpost/api.ErrKind" _ 1 f3 (by kernel_rfl) (by kernel_rfl)
  obtain ⟨a4, _, h4, _⟩ := sentinel_of h "fingerpost/api.ErrName" _ 2 f4 (by kernel_rfl) (by kernel_rfl)
  obtain ⟨a6, _, h6, _⟩ := sentinel_of h "fingerpost/api.ErrExist" _ 3 f6 (by kernel_rfl) (by kernel_rfl)
  obtain ⟨a7, _, h7, _⟩ := sentinel_of h "fingerpost/api.ErrFull" _ 0 f7 (by kernel_rfl) (by kernel_rfl)
  obtain ⟨a8, _, h8, _⟩ := sentinel_of h "fingerpost/api.ErrArgs" _ 4 f8 (by kernel_rfl) (by kernel_rfl)
  obtain ⟨a9, _, h9, _⟩ := sentinel_of h "fingerpost/api.ErrOrder" _ 9 f9 (by kernel_rfl) (by kernel_rfl)
  exact ⟨fun i => if i = 1 then a1 else if i = 2 then a2 else if i = 3 then a3 else if i = 4 then a4 else if i = 6 then a6 else if i = 7 then a7 else if i = 8 then a8 else a9, ⟨h1, h2, h3, h4, h6, h7, h8⟩, ⟨h1, h9⟩⟩
theorem trod_low {H : Type} {enc : TypeId × Value → H} {W : World} {t : TypeId} {v : Value} {d : DataW H} {p : List MemPlace} (h : DataW.Trod enc Tryz.prog W 0 (fun _ => true) true t v d p) : ∀ x ∈ p, x.block < W.heap.size := by
  obtain ⟨m, hm⟩ := h
  exact DataW.trod_lt m _ _ _ hm
set_option maxRecDepth 100000 in
theorem ints_came {H : Type} {enc : TypeId × Value → H} {W : World} {base : Nat} {v : Value} {d : DataW H} {p : List MemPlace} (hv : Value.okWide Tryz.prog W .any base 40 v) (h : DataW.Trod enc Tryz.prog W 0 (fun _ => true) true 40 v d p) :
    ∃ zs, IsCap W v zs := by
  obtain ⟨a, n, c, rfl⟩ := okWide_slice Tryz.underlying40 hv
  obtain ⟨fuel, hf⟩ := h
  obtain ⟨zs, hz⟩ := ints_read (enc := enc) (W := W) (v := .slice a n c) (by simpa [Value.cells] using hf)
  exact ⟨zs, hz⟩
theorem choose_row {w : World} {n : Nat} {a : Addr} {A : Nat → Option Addr} {L : Nat → Nat} {Cp : Nat → Nat} {Z : Nat → List Int}
    (h : ∀ r, r < n → w.cell? (a.add r) = some (.slice (A r) (L r) (Cp r)) ∧ L r ≤ Cp r ∧ (Z r).length = Cp r ∧ (A r = none → Cp r = 0) ∧ ∀ a', A r = some a' → ∀ c, c < Cp r → w.cell? (a'.add c) = some (.int .i64 ((Z r).getD c 0))) (r : Nat) (hr : r < n) : IsInts w (.slice (A r) (L r) (Cp r)) ((Z r).take (L r)) := by
  obtain ⟨h1, h2, h3, h4, h5⟩ := h r hr
  have hlt : ((Z r).take (L r)).length = L r := by rw [List.length_take]; omega
  by_cases h0 : L r = 0
  · rw [h0, List.take_zero]; exact IsInts.nil _ _ _
  · cases hA : A r with
    | none => have := h4 hA; omega
    | some a' =>
      obtain ⟨b, off, rfl⟩ := spot_none 0 (h5 a' hA 0 (by omega)) ⟨_, h5 a' hA 0 (by omega)⟩
      refine Or.inr ⟨fun q => h0 (by rw [← hlt, q]; rfl), b, off, Cp r, by rw [hlt], fun j hj => ?_⟩
      rw [hlt] at hj
      have := h5 _ hA j (by omega)
      rw [Addr.add_lit] at this
      rw [this]
      simp [List.getD, hj]
set_option maxRecDepth 100000 in
theorem sets_came {H : Type} {enc : TypeId × Value → H} {W : World} {base : Nat} {v : Value} {d : DataW H} {p : List MemPlace} (hv : Value.okWide Tryz.prog W .any base 36 v) (h : DataW.Trod enc Tryz.prog W 0 (fun _ => true) true 36 v d p) :
    ∃ hs, IsSets W v hs := by
  obtain ⟨a, n, c, rfl⟩ := okWide_slice Tryz.underlying36 hv
  obtain ⟨fuel, hf⟩ := h
  rcases open_int_rows (enc := enc) (w := W) (cs := [.slice a n c]) Tryz.underlying36 Tryz.underlying40 Tryz.underlying3 (by kernel_rfl) (by kernel_rfl) (by simpa [Value.cells] using hf) with ⟨hcs, -⟩ | ⟨a', len, cap, A, L, Cp, Z, hcs, -, hl, -, -, hrows⟩
  · have e : Value.slice a n c = .slice none 0 0 := by simpa using hcs
    rw [e]
    exact ⟨[], none, 0, rfl, fun j hj => absurd hj (Nat.not_lt_zero _)⟩
  · have e : Value.slice a n c = .slice (some a') len cap := by simpa using hcs
    rw [e]
    have hl' : ((List.range len).map fun r => (Z r).take (L r)).length = len := by simp
    refine ⟨(List.range len).map fun r => (Z r).take (L r), some a', cap, by rw [hl'], fun j hj => ?_⟩
    rw [hl'] at hj
    have hc := (hrows j (by omega)).1
    obtain ⟨b, off, rfl⟩ := spot_none j hc ⟨_, (hrows 0 (by omega)).1⟩
    rw [Addr.add_lit] at hc
    refine ⟨b, off, _, rfl, hc, ?_⟩
    have := choose_row (w := W) (n := cap) (a := ⟨b, off, none⟩) (A := A) (L := L) (Cp := Cp) (Z := Z) (fun r hr => ⟨(hrows r hr).1, (hrows r hr).2.1, (hrows r hr).2.2.2.1, (hrows r hr).2.2.2.2.2.1, fun a' ha c hc => ((hrows r hr).2.2.2.2.2.2 a' ha).2 c hc⟩) j (by omega)
    simpa [List.getD, hj] using this
abbrev noArg : Value := .agg #[.slice none 0 0, .slice none 0 0, .slice none 0 0]
end Go.Proofs.YtglonlpfnllocaaGreatDoor

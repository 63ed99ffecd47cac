/-
  An api.Program that came in reads as plain data.
-/
import Derived.Test.YtdbcjeccmjpbiabDoorPA
import Derived.Lib.SmallJoins
import Derived.Deep.Strs
import Derived.ProofKit
import Derived.OpenShut
import Derived.Carry
namespace Go.Proofs.YtdbcjeccmjpbiabDoor
open Go.ChangeShapes Go.WideShapes Go.ChangeAt Go.RowKit Go.Deep

section
variable {H : Type} {enc : TypeId × Value → H} {W : World}

theorem spot_none {a : Addr} {v : Value} (i : Nat) (h : W.cell? (a.add i) = some v) (h0 : ∃ u, W.cell? (a.add 0) = some u) : ∃ b o, a = ⟨b, o, none⟩ := by
  obtain ⟨u, hu⟩ := h0
  obtain ⟨b, off, spot⟩ := a
  have hspot : spot = none := by simpa [Addr.add] using World.cell?_spot hu
  subst hspot
  exact ⟨b, off, rfl⟩

theorem strs_read {fuel : Nat} {v : Value} {x : DataW H × List MemPlace} (h : DataW.trod enc Tryd.prog W 0 (fun _ => true) true fuel 22 [v] = some x) : ∃ ss, IsStrs W v ss := by
  rcases open_strs Tryd.underlying22 Tryd.underlying9 (by kernel_rfl) h with ⟨hcs, _⟩ | ⟨a, len, cap, m, Sx, hcs, _, hl, _, hm, _, hc⟩
  · simp at hcs
    exact ⟨[], none, 0, by simpa using hcs, Nat.le_refl _, fun j hj => absurd hj (Nat.not_lt_zero _)⟩
  · have hv : v = .slice (some a) len cap := by simpa using hcs
    have hm' : m = cap := by simpa using hm
    subst hm'
    refine ⟨(List.range len).map fun i => (Sx i).data.toList, some a, m, by simpa using hv, by simpa using hl, fun j hj => ?_⟩
    have hj' : j < len := by simpa using hj
    obtain ⟨b, o, rfl⟩ := spot_none j (hc j (by omega)).1 ⟨_, (hc 0 (by omega)).1⟩
    refine ⟨b, o, rfl, ?_⟩
    have := (hc j (by omega)).1
    rw [Addr.add_lit] at this
    rw [this]
    simp [List.getD, hj', S_of]
theorem ints_read {fuel : Nat} {v : Value} {x : DataW H × List MemPlace} (h : DataW.trod enc Tryd.prog W 0 (fun _ => true) true fuel 27 [v] = some x) : ∃ zs, IsCap W v zs := by
  rcases open_ints Tryd.underlying27 Tryd.underlying3 (by kernel_rfl) h with ⟨hcs, _⟩ | ⟨a, len, cap, zs, hcs, _, hl, _, hz, _, hc, _⟩
  · have hv : v = .slice none 0 0 := by simpa using hcs
    subst hv
    exact ⟨[], IsInts.nil _ _ _, none, 0, rfl, Nat.le_refl _⟩
  · have hv : v = .slice (some a) len cap := by simpa using hcs
    have hz' : zs.length = cap := by simpa using hz
    subst hv
    have hlt : (zs.take len).length = len := by rw [List.length_take]; omega
    refine ⟨zs.take len, ?_, some a, cap, by rw [hlt], by rw [hlt]; exact hl⟩
    by_cases h0 : len = 0
    · subst h0
      exact IsInts.nil _ _ _
    · obtain ⟨b, off, rfl, hc'⟩ := ints_at hc (by omega)
      refine isInts_of_cells hlt.symm fun j hj => ?_
      rw [hlt] at hj
      rw [hc' j (by omega)]
      simp [List.getD, hj]

theorem cells3 {a : Addr} {cs : List Value} (h : W.cells? 0 a 3 = some cs) : ∃ c0 c1 c2, cs = [c0, c1, c2] ∧ W.cell? (a.add 0) = some c0 ∧ W.cell? (a.add 1) = some c1 ∧ W.cell? (a.add 2) = some c2 := by
  obtain ⟨_, hl, hc⟩ := World.cells?_some h
  match cs, hl with
  | [c0, c1, c2], _ => exact ⟨c0, c1, c2, rfl, hc 0 (by decide), hc 1 (by decide), hc 2 (by decide)⟩
theorem cells4 {a : Addr} {cs : List Value} (h : W.cells? 0 a 4 = some cs) : ∃ c0 c1 c2 c3, cs = [c0, c1, c2, c3] ∧ W.cell? (a.add 0) = some c0 ∧ W.cell? (a.add 1) = some c1 ∧ W.cell? (a.add 2) = some c2 ∧ W.cell? (a.add 3) = some c3 := by
  obtain ⟨_, hl, hc⟩ := World.cells?_some h
  match cs, hl with
  | [c0, c1, c2, c3], _ => exact ⟨c0, c1, c2, c3, rfl, hc 0 (by decide), hc 1 (by decide), hc 2 (by decide), hc 3 (by decide)⟩

theorem cellsFun : Tryd.prog.cellsOf 62 = 3 := by kernel_rfl
theorem cellsStmt : Tryd.prog.cellsOf 59 = 4 := by kernel_rfl
theorem cellsInts : Tryd.prog.cellsOf 27 = 1 := by kernel_rfl
theorem cellsStr : Tryd.prog.cellsOf 9 = 1 := by kernel_rfl
theorem cellsInt : Tryd.prog.cellsOf 3 = 1 := by kernel_rfl

theorem fun_read {fuel b o : Nat} {cs : List Value} {x : DataW H × List MemPlace} (h : DataW.trod enc Tryd.prog W 0 (fun _ => true) true fuel 62 cs = some x) (hc : W.cells? 0 ⟨b, o, none⟩ 3 = some cs) : ∃ f, FunAt W b o f := by
  obtain ⟨c0, c1, c2, rfl, k0, k1, k2⟩ := cells3 hc
  obtain ⟨y0, y1, y2, n, _, _, h0, h1, h2⟩ := trod_struct3 Tryd.underlying62 h
  simp only [cellsStr, cellsInts, cellsInt] at h0 h1 h2
  obtain ⟨s, hs, _⟩ := DataW.trod_string Tryd.underlying9 h0
  obtain ⟨zs, hz⟩ := ints_read (enc := enc) (W := W) (v := c1) (by simpa using h1)
  obtain ⟨r, hr, _⟩ := DataW.trod_int Tryd.underlying3 h2
  have hs' : c0 = .string s := by simpa using hs
  have hr' : c2 = .int .i64 r := by simpa using hr
  subst hs' hr'
  rw [Addr.add_lit] at k0 k1 k2
  exact ⟨⟨s.data.toList, zs, r⟩, c1, by rw [S_of]; exact k0, k1, hz, k2⟩
theorem stmt_read {fuel b o : Nat} {cs : List Value} {x : DataW H × List MemPlace} (h : DataW.trod enc Tryd.prog W 0 (fun _ => true) true fuel 59 cs = some x) (hc : W.cells? 0 ⟨b, o, none⟩ 4 = some cs) : ∃ f, StmtAt W b o f := by
  obtain ⟨c0, c1, c2, c3, rfl, k0, k1, k2, k3⟩ := cells4 hc
  obtain ⟨y0, y1, y2, y3, n, _, _, h0, h1, h2, h3⟩ := Joins.trod_struct4 Tryd.underlying59 h
  simp only [cellsStr, cellsInts, cellsInt] at h0 h1 h2 h3
  obtain ⟨s, hs, _⟩ := DataW.trod_string Tryd.underlying9 h0
  obtain ⟨zs, hz⟩ := ints_read (enc := enc) (W := W) (v := c3) (by simpa using h3)
  obtain ⟨r, hr, _⟩ := DataW.trod_int Tryd.underlying3 h1
  obtain ⟨q, hq, _⟩ := DataW.trod_int Tryd.underlying3 h2
  have hs' : c0 = .string s := by simpa using hs
  have hr' : c1 = .int .i64 r := by simpa using hr
  have hq' : c2 = .int .i64 q := by simpa using hq
  subst hs' hr' hq'
  rw [Addr.add_lit] at k0 k1 k2 k3
  exact ⟨⟨s.data.toList, r, q, zs⟩, c3, by rw [S_of]; exact k0, k1, k2, k3, hz⟩

theorem list_of {α : Type} [Inhabited α] (n : Nat) (p : Nat → α → Prop) (h : ∀ i, i < n → ∃ x, p i x) : ∃ l : List α, l.length = n ∧ ∀ i, i < n → p i (l.getD i default) := by
  obtain ⟨f, hf⟩ := choose_lt h
  refine ⟨(List.range n).map f, by simp, fun i hi => ?_⟩
  have : ((List.range n).map f).getD i default = f i := by simp [List.getD, hi]
  rw [this]; exact hf i hi
theorem cells_spot {a : Addr} {n : Nat} {cs : List Value} (hn : 0 < n) (h : W.cells? 0 a n = some cs) : ∃ b o, a = ⟨b, o, none⟩ := by
  obtain ⟨_, hl, hc⟩ := World.cells?_some h
  have h0 := hc 0 hn
  obtain ⟨b, off, spot⟩ := a
  have : cs[0]? = some (cs[0]'(by omega)) := List.getElem?_eq_getElem (by omega)
  rw [this] at h0
  have hspot : spot = none := by simpa [Addr.add] using World.cell?_spot h0
  subst hspot
  exact ⟨b, off, rfl⟩

theorem funs_read {fuel : Nat} {v : Value} {x : DataW H × List MemPlace} (h : DataW.trod enc Tryd.prog W 0 (fun _ => true) true fuel 23 [v] = some x) : ∃ fs, IsFuns W v fs := by
  rcases open_slice Tryd.underlying23 h with ⟨hcs, _⟩ | ⟨a, len, cap, m, n, D, Pl, hcs, _, hl, _, hm, _, hc⟩
  · exact ⟨[], none, 0, by simpa using hcs, Nat.le_refl _, fun j hj => absurd hj (Nat.not_lt_zero _)⟩
  · have hv : v = .slice (some a) len cap := by simpa using hcs
    have hm' : m = cap := by simpa using hm
    subst hm'
    rw [cellsFun] at hc
    obtain ⟨fs, hfl, hf⟩ := list_of (α := FunD) len (fun i f => ∃ b o, a = ⟨b, o, none⟩ ∧ FunAt W b (o + i * 3) f) (fun i hi => by
      obtain ⟨cs0, hc0, _⟩ := hc 0 (by omega)
      obtain ⟨b, o, rfl⟩ : ∃ b o, a = ⟨b, o, none⟩ := cells_spot (n := 3) (by decide) (by simpa [Addr.add] using hc0)
      obtain ⟨cs', hci, ht⟩ := hc i (by omega)
      rw [Addr.add_lit] at hci
      obtain ⟨f, hf⟩ := fun_read ht hci
      exact ⟨f, b, o, rfl, hf⟩)
    refine ⟨fs, some a, m, by rw [hfl]; exact hv, by rw [hfl]; exact hl, fun j hj => ?_⟩
    obtain ⟨b, o, rfl, hfa⟩ := hf j (by omega)
    exact ⟨b, o, rfl, hfa⟩
theorem stmts_read {fuel : Nat} {v : Value} {x : DataW H × List MemPlace} (h : DataW.trod enc Tryd.prog W 0 (fun _ => true) true fuel 24 [v] = some x) : ∃ fs, IsStmts W v fs := by
  rcases open_slice Tryd.underlying24 h with ⟨hcs, _⟩ | ⟨a, len, cap, m, n, D, Pl, hcs, _, hl, _, hm, _, hc⟩
  · exact ⟨[], none, 0, by simpa using hcs, Nat.le_refl _, fun j hj => absurd hj (Nat.not_lt_zero _)⟩
  · have hv : v = .slice (some a) len cap := by simpa using hcs
    have hm' : m = cap := by simpa using hm
    subst hm'
    rw [cellsStmt] at hc
    obtain ⟨fs, hfl, hf⟩ := list_of (α := StmtD) len (fun i f => ∃ b o, a = ⟨b, o, none⟩ ∧ StmtAt W b (o + i * 4) f) (fun i hi => by
      obtain ⟨cs0, hc0, _⟩ := hc 0 (by omega)
      obtain ⟨b, o, rfl⟩ : ∃ b o, a = ⟨b, o, none⟩ := cells_spot (n := 4) (by decide) (by simpa [Addr.add] using hc0)
      obtain ⟨cs', hci, ht⟩ := hc i (by omega)
      rw [Addr.add_lit] at hci
      obtain ⟨f, hf⟩ := stmt_read ht hci
      exact ⟨f, b, o, rfl, hf⟩)
    refine ⟨fs, some a, m, by rw [hfl]; exact hv, by rw [hfl]; exact hl, fun j hj => ?_⟩
    obtain ⟨b, o, rfl, hfa⟩ := hf j (by omega)
    exact ⟨b, o, rfl, hfa⟩

set_option maxRecDepth 100000 in
/-- An api.Program that came in. -/
theorem prog_in {base : Nat} {v : Value} {d : DataW H} {p : List MemPlace} (hv : Value.okWide Tryd.prog W .any base 26 v) (h : DataW.Trod enc Tryd.prog W 0 (fun _ => true) true 26 v d p) :
    ∃ v1 v2 v3 P, v = .agg #[v1, v2, v3] ∧ IsProg W v1 v2 v3 P ∧ ∀ x ∈ p, x.block < W.heap.size := by
  have hlt : ∀ x ∈ p, x.block < W.heap.size := by obtain ⟨m, hm⟩ := h; exact DataW.trod_lt m _ _ _ hm
  obtain ⟨v0, v1, v2, y0, y1, y2, n, rfl, _, _, h0, h1, h2⟩ := Joins.open_agg3 Tryd.underlying26 (by kernel_rfl) (by kernel_rfl) hv h
  obtain ⟨ss, hs⟩ := strs_read h0
  obtain ⟨fs, hf⟩ := funs_read h1
  obtain ⟨ts, ht⟩ := stmts_read h2
  exact ⟨v0, v1, v2, ⟨ss, fs, ts⟩, rfl, ⟨hs, hf, ht⟩, hlt⟩
end
end Go.Proofs.YtdbcjeccmjpbiabDoor

/-
  Package solve: how a solver begins in memory.
-/
import Derived.Test.YtglonlpfnllocaaGreatDoorWFM
import Derived.Test.YtglonlpfnllocaaGreatDoorW2M
import Derived.Test.YtglonlpfnllocaaGreatDoorZFM
import Derived.Deep.RegionHeld3
import Derived.Test.YtglonlpfnllocaaGreatDoorWE
import Derived.Test.YtglonlpfnllocaaGreatDoorXFM
namespace Go.Proofs.YtglonlpfnllocaaGreatDoor
open Go.RowKit Go.Extern.Stop Go.Stop Go.Extern Go.Maps

/-- A program in memory of one's own. -/
structure CopyP (B : Nat) (w : World) (P : ProgD) (v1 v2 v3 : Value) (ps qs : List Value) : Prop where
  o1 : w.ownsRow B 9 1 v1 P.vars.length (P.vars.map strV)
  l2 : ps.length = P.funs.length
  o2 : w.ownsRow B 60 3 v2 P.funs.length (List.zipWith funCells P.funs ps).flatten
  i2 : ∀ j, j < P.funs.length → w.ownsRow B 3 1 (ps.getD j default) (P.funs.getD j default).params.length ((P.funs.getD j default).params.map intV)
  l3 : qs.length = P.stmts.length
  o3 : w.ownsRow B 45 4 v3 P.stmts.length (List.zipWith stmtCells P.stmts qs).flatten
  i3 : ∀ j, j < P.stmts.length → w.ownsRow B 3 1 (qs.getD j default) (P.stmts.getD j default).args.length ((P.stmts.getD j default).args.map intV)
theorem CopyP.below {B : Nat} {w w' : World} {P : ProgD} {v1 v2 v3 : Value} {ps qs : List Value} (h : CopyP B w P v1 v2 v3 ps qs) (hb : Below w.heap.size w w') : CopyP B w' P v1 v2 v3 ps qs :=
  ⟨owns_below h.o1 hb, h.l2, owns_below h.o2 hb, fun j hj => owns_below (h.i2 j hj) hb, h.l3, owns_below h.o3 hb, fun j hj => owns_below (h.i3 j hj) hb⟩
theorem CopyS.toP {w0 w : World} {pb : Nat} {P : ProgD} {v1 v2 v3 : Value} {ps qs : List Value} (h : CopyS w0 w pb P v1 v2 v3 ps qs P.funs.length P.stmts.length) {B : Nat} (hB : B ≤ w0.heap.size) : CopyP B w P v1 v2 v3 ps qs :=
  ⟨owns_mono h.o1 hB, h.l2, owns_mono h.o2 hB, fun j hj => owns_mono (h.i2 j hj hj) hB, h.l3, owns_mono h.o3 hB, fun j hj => owns_mono (h.i3 j hj hj) hB⟩
theorem CopyP.isProg {B : Nat} {w : World} {P : ProgD} {v1 v2 v3 : Value} {ps qs : List Value} (h : CopyP B w P v1 v2 v3 ps qs) : IsProg w v1 v2 v3 P := by
  refine ⟨isStrs_of_owns h.o1, ?_, ?_⟩
  · rcases h.o2.2 with ⟨hv, h0⟩ | ⟨g, cap, cur, hv, _, _, hcap, _⟩
    · exact ⟨none, 0, by rw [hv, h0], by omega, fun j hj => absurd hj (by omega)⟩
    · refine ⟨_, cap, hv, hcap, fun j hj => ⟨g, 0, rfl, ps.getD j default, ?_, ?_, isCap_of_owns (h.i2 j hj), ?_⟩⟩
      all_goals
        have hz := zip_at funCells P.funs ps h.l2 j hj
        have hlen : ∀ l ∈ List.zipWith funCells P.funs ps, l.length = 3 := fun l hl => by
          obtain ⟨i, hi, rfl⟩ := List.mem_iff_getElem.1 hl
          simp [funCells]
      · have := h.o2.cells (show v2.ownBlock = some g by rw [hv]; rfl) (j * 3 + 0) _ (by rw [flatten_at _ 3 hlen j 0 _ hz (by decide)]; rfl)
        rw [Addr.add_lit] at this
        simpa [strV, intV] using this
      · have := h.o2.cells (show v2.ownBlock = some g by rw [hv]; rfl) (j * 3 + 1) _ (by rw [flatten_at _ 3 hlen j 1 _ hz (by decide)]; rfl)
        rw [Addr.add_lit] at this
        simpa [strV, intV] using this
      · have := h.o2.cells (show v2.ownBlock = some g by rw [hv]; rfl) (j * 3 + 2) _ (by rw [flatten_at _ 3 hlen j 2 _ hz (by decide)]; rfl)
        rw [Addr.add_lit] at this
        simpa [strV, intV] using this
  · rcases h.o3.2 with ⟨hv, h0⟩ | ⟨g, cap, cur, hv, _, _, hcap, _⟩
    · exact ⟨none, 0, by rw [hv, h0], by omega, fun j hj => absurd hj (by omega)⟩
    · refine ⟨_, cap, hv, hcap, fun j hj => ⟨g, 0, rfl, qs.getD j default, ?_, ?_, ?_, ?_, isCap_of_owns (h.i3 j hj)⟩⟩
      all_goals
        have hz := zip_at stmtCells P.stmts qs h.l3 j hj
        have hlen : ∀ l ∈ List.zipWith stmtCells P.stmts qs, l.length = 4 := fun l hl => by
          obtain ⟨i, hi, rfl⟩ := List.mem_iff_getElem.1 hl
          simp [stmtCells]
      · have := h.o3.cells (show v3.ownBlock = some g by rw [hv]; rfl) (j * 4 + 0) _ (by rw [flatten_at _ 4 hlen j 0 _ hz (by decide)]; rfl)
        rw [Addr.add_lit] at this
        simpa [strV, intV] using this
      · have := h.o3.cells (show v3.ownBlock = some g by rw [hv]; rfl) (j * 4 + 1) _ (by rw [flatten_at _ 4 hlen j 1 _ hz (by decide)]; rfl)
        rw [Addr.add_lit] at this
        simpa [strV, intV] using this
      · have := h.o3.cells (show v3.ownBlock = some g by rw [hv]; rfl) (j * 4 + 2) _ (by rw [flatten_at _ 4 hlen j 2 _ hz (by decide)]; rfl)
        rw [Addr.add_lit] at this
        simpa [strV, intV] using this
      · have := h.o3.cells (show v3.ownBlock = some g by rw [hv]; rfl) (j * 4 + 3) _ (by rw [flatten_at _ 4 hlen j 3 _ hz (by decide)]; rfl)
        rw [Addr.add_lit] at this
        simpa [strV, intV] using this
/-- A solver's parts, made. -/
structure NewDone (w1 : World) (P : ProgD) (M : Nat) (wx : World) (sb : Nat) (u1 u2 u3 : Value) (ps qs : List Value) (g k5 k6 k7 : Nat) : Prop where
  hb : Below w1.heap.size w1 wx
  low : w1.heap.size ≤ sb
  blk : wx.heap[sb]? = some (.cells #[u1, u2, u3, .slice (some ⟨g, 0, none⟩) M M, .slice none 0 0, .map (some k5), .map (some k6), .map (some k7)] TSol (0, 0))
  copy : CopyP w1.heap.size wx P u1 u2 u3 ps qs
  gat : w1.heap.size ≤ g ∧ wx.heap[g]? = some (.cells (Array.replicate M (.slice none 0 0)) TSI (0, 0))
  m5 : w1.heap.size ≤ k5 ∧ KMap TFa factLit okF wx k5 0 (fun _ => none)
  m6 : w1.heap.size ≤ k6 ∧ KMap 3 intLit okI wx k6 0 (fun _ => none)
  m7 : w1.heap.size ≤ k7 ∧ KMap 3 intLit okI wx k7 0 (fun _ => none)
  ne : k5 ≠ k6 ∧ k5 ≠ k7 ∧ k6 ≠ k7
/-- The solver of the parts. -/
abbrev newB (u1 u2 u3 : Value) (M g k5 k6 k7 : Nat) : SolB := ⟨u1, u2, u3, g, List.replicate M (.slice none 0 0), M, none, 0, k5, 0, k6, 0, fun _ => .nilIface, k7, 0, fun _ => .nilIface, fun _ => []⟩
theorem own_new {sb M g k5 k6 k7 : Nat} {u1 u2 u3 : Value} {k : Nat} (h : OwnB sb (newB u1 u2 u3 M g k5 k6 k7) (sol0 M) k) : k = sb ∨ k = g ∨ k = k5 ∨ k = k6 ∨ k = k7 := by
  rcases h with q | q | q | q | q | q | ⟨j, hj, q⟩ | ⟨a, ha, q⟩ | ⟨a, ha, q⟩
  · exact Or.inl q
  · exact Or.inr (Or.inl q)
  · exact Or.inr (Or.inr (Or.inl q))
  · exact Or.inr (Or.inr (Or.inr (Or.inl q)))
  · exact Or.inr (Or.inr (Or.inr (Or.inr q)))
  · cases q
  · have hj' : j < M := by simpa [sol0] using hj
    have : (List.replicate M (Value.slice none 0 0)).getD j .nilIface = .slice none 0 0 := by simp [List.getD, hj']
    rw [this] at q
    cases q
  · exact absurd rfl ha
  · exact absurd rfl ha
/-- What a row of another type keeps. -/
theorem NewDone.rowK {w1 wx : World} {P : ProgD} {M sb g k5 k6 k7 : Nat} {u1 u2 u3 : Value} {ps qs : List Value} (h : NewDone w1 P M wx sb u1 u2 u3 ps qs g k5 k6 k7) {w' : World} (hk : ∀ (k : Nat) (o : Obj), wx.heap[k]? = some o → ¬ OwnB sb (newB u1 u2 u3 M g k5 k6 k7) (sol0 M) k → w'.heap[k]? = some o)
    {B : Nat} {e : TypeId} {c n : Nat} {v : Value} {xs : List Value} (hr : wx.ownsRow B e c v n xs) (he : e ≠ TSol) (he2 : e ≠ TSI) : w'.ownsRow B e c v n xs := by
  refine ⟨hr.1, ?_⟩
  rcases hr.2 with q | ⟨b, cap, cur, q1, q2, q3, q4⟩
  · exact Or.inl q
  · refine Or.inr ⟨b, cap, cur, q1, q2, hk b _ q3 fun q => ?_, q4⟩
    obtain ⟨es5, c5, m5⟩ := h.m5.2.isMap
    obtain ⟨es6, c6, m6⟩ := h.m6.2.isMap
    obtain ⟨es7, c7, m7⟩ := h.m7.2.isMap
    rcases own_new q with rfl | rfl | rfl | rfl | rfl
    · exact ne_types q3 h.blk he rfl
    · exact ne_types q3 h.gat.2 he2 rfl
    · exact ne_map q3 m5 rfl
    · exact ne_map q3 m6 rfl
    · exact ne_map q3 m7 rfl
theorem NewDone.progK {w1 wx : World} {P : ProgD} {M sb g k5 k6 k7 : Nat} {u1 u2 u3 : Value} {ps qs : List Value} (h : NewDone w1 P M wx sb u1 u2 u3 ps qs g k5 k6 k7) {w' : World} (hk : ∀ (k : Nat) (o : Obj), wx.heap[k]? = some o → ¬ OwnB sb (newB u1 u2 u3 M g k5 k6 k7) (sol0 M) k → w'.heap[k]? = some o) : CopyP w1.heap.size w' P u1 u2 u3 ps qs :=
  ⟨h.rowK hk h.copy.o1 (by decide) (by decide), h.copy.l2, h.rowK hk h.copy.o2 (by decide) (by decide), fun j hj => h.rowK hk (h.copy.i2 j hj) (by decide) (by decide), h.copy.l3, h.rowK hk h.copy.o3 (by decide) (by decide), fun j hj => h.rowK hk (h.copy.i3 j hj) (by decide) (by decide)⟩
theorem NewDone.solM {w1 wx : World} {P : ProgD} {M sb g k5 k6 k7 : Nat} {u1 u2 u3 : Value} {ps qs : List Value} (h : NewDone w1 P M wx sb u1 u2 u3 ps qs g k5 k6 k7) :
    SolM wx w1.heap.size sb P.funs (newB u1 u2 u3 M g k5 k6 k7) (sol0 M) ∧ FunsK wx sb P.funs (newB u1 u2 u3 M g k5 k6 k7) (sol0 M) ∧ ProgK wx sb (newB u1 u2 u3 M g k5 k6 k7) (sol0 M) P ∧ ∀ k, OwnB sb (newB u1 u2 u3 M g k5 k6 k7) (sol0 M) k → w1.heap.size ≤ k := by
  have hlen : (sol0 M).has.length = M := by simp [sol0]
  have hus : ∀ j, j < M → (List.replicate M (Value.slice none 0 0)).getD j .nilIface = .slice none 0 0 := fun j hj => by simp [List.getD, hj]
  refine ⟨⟨?_, ⟨h.gat.1, by simp [sol0], ?_, fun j hj => ?_, fun i j hi hj _ => ?_⟩, World.ownsRow_nil _ _ _ _, ?_, ?_, fun a ha => absurd rfl ha, fun a b ha => absurd rfl ha, fun a j ha => absurd rfl ha, ?_, fun a ha => absurd rfl ha, fun a b ha => absurd rfl ha, h.ne, fun w' hk => ⟨(h.progK hk).isProg.funs, fun a j hj => absurd hj (Nat.not_lt_zero _)⟩, fun a => rfl⟩, ?_, fun w' hk => (h.progK hk).isProg, fun k hk => ?_⟩
  · rw [hlen]; exact h.blk
  · rw [List.toArray_replicate]; exact h.gat.2
  · rw [hlen] at hj
    have e0 : (sol0 M).has.getD j [] = [] := rep_at M j
    rw [hus j hj, e0]
    exact World.ownsRow_nil _ _ _ _
  · rw [hlen] at hi hj
    rw [hus i hi, hus j hj]
    exact Or.inl rfl
  · exact h.m5.2
  · exact h.m6.2
  · exact h.m7.2
  · obtain ⟨b, c, hv⟩ := owns_form h.copy.o2
    refine ⟨b, c, fun i => ps.getD i default, hv, fun w' hk i hi => ?_⟩
    have hp := h.progK hk
    rcases hp.o2.2 with ⟨_, h0⟩ | ⟨g2, cap, cur, q1, q2, q3, q4, q5, q6, q7⟩
    · omega
    · rw [hv] at q1
      injection q1 with q1 _ _
      refine ⟨g2, 0, q1, ?_, (isCap_of_owns (hp.i2 i hi)).1⟩
      have hz := zip_at funCells P.funs ps hp.l2 i hi
      have hl3 : ∀ l ∈ List.zipWith funCells P.funs ps, l.length = 3 := fun l hl => by
        obtain ⟨j, hj, rfl⟩ := List.mem_iff_getElem.1 hl
        simp [funCells]
      have h1 := flatten_at _ 3 hl3 i 1 _ hz (by decide)
      rw [← q7, List.getElem?_take, if_pos (by omega)] at h1
      rw [Nat.zero_add, Lib.cell_of_heap q3]
      simpa [funCells] using h1
  · obtain q | q | q | q | q := own_new hk
    · rw [q]; exact h.low
    · rw [q]; exact h.gat.1
    · rw [q]; exact h.m5.1
    · rw [q]; exact h.m6.1
    · rw [q]; exact h.m7.1
end Go.Proofs.YtglonlpfnllocaaGreatDoor

/-
  Package solve: New, its parts made.
-/
namespace Go.Proofs.YtglonlpfnllocaaGreatDoor
open Go.RowKit Go.Extern.Stop Go.Stop Go.Extern Go.Maps

/-- What is so while the solver's parts are made. -/
structure NewAt (w1 : World) (P : ProgD) (M : Nat) (wx : World) (p : Nat) (x5 x6 x7 : Bool) (y18 y20 y21 y22 y23 y24 : Value) : Prop where
  hb : Below w1.heap.size w1 wx
  copy : 1 ≤ p → ∃ u1 u2 u3 ps qs, y18 = .agg #[u1, u2, u3] ∧ CopyP w1.heap.size wx P u1 u2 u3 ps qs
  nodes : 2 ≤ p → y20 = .int .i64 (M : Int)
  has : 3 ≤ p → ∃ g, y21 = .slice (some ⟨g, 0, none⟩) M M ∧ w1.heap.size ≤ g ∧ wx.heap[g]? = some (.cells (Array.replicate M (.slice none 0 0)) TSI (0, 0))
  m5 : x5 = true → ∃ k, y22 = .map (some k) ∧ w1.heap.size ≤ k ∧ KMap TFa factLit okF wx k 0 (fun _ => none)
  m6 : x6 = true → ∃ k, y23 = .map (some k) ∧ w1.heap.size ≤ k ∧ KMap 3 intLit okI wx k 0 (fun _ => none)
  m7 : x7 = true → ∃ k, y24 = .map (some k) ∧ w1.heap.size ≤ k ∧ KMap 3 intLit okI wx k 0 (fun _ => none)
  d56 : x5 = true → x6 = true → y22 ≠ y23
  d57 : x5 = true → x7 = true → y22 ≠ y24
  d67 : x6 = true → x7 = true → y23 ≠ y24
theorem NewAt.step {w1 : World} {P : ProgD} {M : Nat} {wx wy : World} {p : Nat} {x5 x6 x7 : Bool} {y18 y20 y21 y22 y23 y24 : Value} (h : NewAt w1 P M wx p x5 x6 x7 y18 y20 y21 y22 y23 y24) (hb : Below wx.heap.size wx wy) : NewAt w1 P M wy p x5 x6 x7 y18 y20 y21 y22 y23 y24 := by
  refine ⟨h.hb.trans (hb.mono h.hb.size), fun q => ?_, h.nodes, fun q => ?_, fun q => ?_, fun q => ?_, fun q => ?_, h.d56, h.d57, h.d67⟩
  · obtain ⟨u1, u2, u3, ps, qs, e, c⟩ := h.copy q
    exact ⟨u1, u2, u3, ps, qs, e, c.below hb⟩
  · obtain ⟨g, e, l, c⟩ := h.has q
    exact ⟨g, e, l, block_keep hb c⟩
  · obtain ⟨k, e, l, c⟩ := h.m5 q
    exact ⟨k, e, l, c.below hb⟩
  · obtain ⟨k, e, l, c⟩ := h.m6 q
    exact ⟨k, e, l, c.below hb⟩
  · obtain ⟨k, e, l, c⟩ := h.m7 q
    exact ⟨k, e, l, c.below hb⟩
/-- Which may come up. -/
def newPhi (p : Nat) (x5 x6 x7 : Bool) (i : Nat) : Bool := (i == 1 && p == 0) || (i == 3 && p == 1) || (i == 4 && p == 2) || (i == 5 && !x5) || (i == 6 && !x6) || (i == 7 && !x7) || (i == 8 && p == 3 && x5 && x6 && x7)
theorem newPhi_cases {p : Nat} {x5 x6 x7 : Bool} {i : Nat} (h : newPhi p x5 x6 x7 i = true) (hn : ¬ (p = 3 ∧ x5 = true ∧ x6 = true ∧ x7 = true)) : (i = 1 ∧ p = 0) ∨ (i = 3 ∧ p = 1) ∨ (i = 4 ∧ p = 2) ∨ (i = 5 ∧ x5 = false) ∨ (i = 6 ∧ x6 = false) ∨ (i = 7 ∧ x7 = false) := by
  unfold newPhi at h
  simp only [Bool.or_eq_true, Bool.and_eq_true, beq_iff_eq, Bool.not_eq_true'] at h
  rcases h with (((((h | h) | h) | h) | h) | h) | h
  · exact Or.inl h
  · exact Or.inr (Or.inl h)
  · exact Or.inr (Or.inr (Or.inl h))
  · exact Or.inr (Or.inr (Or.inr (Or.inl h)))
  · exact Or.inr (Or.inr (Or.inr (Or.inr (Or.inl h))))
  · exact Or.inr (Or.inr (Or.inr (Or.inr (Or.inr h))))
  · exact absurd ⟨h.1.1.1.2, h.1.1.2, h.1.2, h.2⟩ hn
theorem right_params {P : ProgD} (h : checkE P = none) : ∀ f ∈ P.funs, f.params.length ≤ 3 := by
  have hf : funsE P = none := by
    unfold checkE at h
    split at h
    · cases h
    split at h
    · cases h
    split at h
    · cases h
    · rename_i q; exact q
  unfold funsE at hf
  split at hf
  · cases hf
  rename_i q
  have : (P.funs.all fun f => decide (f.params.length ≤ 3)) = true := by simpa using q
  exact fun f hm => of_decide_eq_true (List.all_eq_true.1 this f hm)
theorem isInts_heap {w w' : World} {v : Value} {zs : List Int} (h : IsInts w v zs) (hb : ∀ (k : Nat) (o : Obj), w.heap[k]? = some o → w'.heap[k]? = some o) (hs : w.heap.size ≤ w'.heap.size) : IsInts w' v zs := by
  have hb2 : Below w.heap.size w { w' with os := w.os, tape := w.tape, output := w.output } := ⟨rfl, rfl, rfl, hs, fun k hk => by
    have := hb k _ (Array.getElem?_eq_getElem hk)
    rw [Array.getElem?_eq_getElem hk]
    exact this⟩
  have h2 := h.below hb2
  rcases h2 with q | ⟨hz, b, o, c, rfl, hc⟩
  · exact Or.inl q
  · exact Or.inr ⟨hz, b, o, c, rfl, fun j hj => hc j hj⟩
/-- What New leaves. -/
def NewPost (a : Nat → Addr) (P : ProgD) (w w' : World) (e : Ending) : Prop :=
  (∃ t x, e = .returned (.tuple #[.pointer none, .iface t (.pointer (some x))]) ∧ (checkE P).isNone = false ∧ ErrV w' a (checkE P) (.iface t (.pointer (some x))) ∧ Below w.heap.size w w') ∨
  (checkE P = none ∧ ∃ (B sb : Nat) (m : SolB), e = .returned (.tuple #[.pointer (some ⟨sb, 0, none⟩), .nilIface]) ∧ SolM w' B sb P.funs m (newD P) ∧ FunsK w' sb P.funs m (newD P) ∧ ProgK w' sb m (newD P) P ∧ m.kn ≤ 100200000000000 ∧ m.en ≤ 100200000 ∧ m.rn ≤ 100 ∧ (∀ k, OwnB sb m (newD P) k → w.heap.size ≤ k) ∧ Below w.heap.size w w')
/-- So many rules are obeyed. -/
def obK (P : ProgD) (k : Nat) : SolD := ((rulesD P).take k).foldl (SolD.obey (places P P.stmts.length) P.funs) (sol0 (places P P.stmts.length))
theorem obK_next (P : ProgD) (k : Nat) (h : k < (rulesD P).length) : obK P (k + 1) = (obK P k).obey (places P P.stmts.length) P.funs ((rulesD P).getD k default) := by
  unfold obK
  rw [take_snoc (rulesD P) default k h, List.foldl_append]
  rfl
theorem obK_all (P : ProgD) : obK P (rulesD P).length = newD P := by
  unfold obK newD
  rw [List.take_length]
theorem once_obeys (n : Nat) (fs : List FunD) (rs : List RuleD) : ∀ {s : SolD}, EdgeOnce s → EdgeOnce (rs.foldl (SolD.obey n fs) s) := by
  induction rs with
  | nil => exact fun h => h
  | cons r rs ih => exact fun h => ih (h.obey n fs r)
theorem once0 (n : Nat) : EdgeOnce (sol0 n) := fun _ => List.nodup_nil
structure ObOk (P : ProgD) (L : List (List Int)) (k : Nat) : Prop where
  ok : SolOk (places P P.stmts.length) P.funs L ((rulesD P).take k) (obK P k)
  once : EdgeOnce (obK P k)
  len : ∀ a, ((obK P k).rules a).length ≤ k
theorem obOk_of {P : ProgD} {j : Nat} (hc : checkE P = none) (hk : FixK P j) (k : Nat) (hl : k ≤ (rulesD P).length) : ObOk P (iterD P j) k := by
  have hlen := iterD_len P j
  have hcl : ∀ r ∈ rulesD P, ClR (places P P.stmts.length) P.funs (iterD P j) r := fun r hr => by
    have := clR_of (hk.closed hc) (fun r hr => by rw [hlen]; exact rule_fit hc r hr) (ask_kinds hc) r hr
    rw [hlen] at this
    exact this
  have hm : ∀ r ∈ (rulesD P).take k, r ∈ rulesD P := fun r hr => List.mem_of_mem_take hr
  have h1 := (obeys_ok ((rulesD P).take k) (SolOk.start (places P P.stmts.length) P.funs (iterD P j)) (fun r hr => rule_fit hc r (hm r hr)) (fun r hr => hcl r (hm r hr)) (fun r hr => ask_kinds hc r (hm r hr))).1
  refine ⟨h1, once_obeys _ _ _ (once0 _), fun a => ?_⟩
  have h2 := obeys_rules_len (places P P.stmts.length) P.funs ((rulesD P).take k) a (sol0 (places P P.stmts.length))
  rw [List.length_take] at h2
  have h3 : ((sol0 (places P P.stmts.length)).rules a).length = 0 := rfl
  unfold obK
  omega
set_option maxRecDepth 100000 in
set_option maxHeartbeats 16000000 in
theorem newS_any (a : Nat → Addr) (P : ProgD) (v1 v2 v3 : Value) (w : World) (hS : SmallP P) (h : IsProg w v1 v2 v3 P) (hE : Errs5 w a) :
    Calls Tryz.prog 8 #[.agg #[v1, v2, v3]] w fun e w' => NewPost a P w w' e := by
  have H : Hid (IsProg w v1 v2 v3 P ∧ Errs5 w a ∧ SmallP P) := ⟨h, hE, hS⟩
  obtain ⟨⟨a1, c1, rfl, -, -⟩, ⟨a2, c2, rfl, -, -⟩, ⟨a3, c3, rfl, -, -⟩⟩ := h
  obtain ⟨n1, hn1⟩ : ∃ m, m = P.vars.length := ⟨_, rfl⟩
  obtain ⟨n2, hn2⟩ : ∃ m, m = P.funs.length := ⟨_, rfl⟩
  obtain ⟨n3, hn3⟩ : ∃ m, m = P.stmts.length := ⟨_, rfl⟩
  rw [← hn1, ← hn2, ← hn3] at H ⊢
  obtain ⟨W, hW⟩ : ∃ W, W = w.alloc (.cells #[.slice a1 n1 c1, .slice a2 n2 c2, .slice a3 n3 c3] 26) := ⟨_, rfl⟩
  have hBW : Below w.heap.size w W := by rw [hW]; exact below1 w _
  have HX : Hid (Box3 W w.heap.size (.slice a1 n1 c1) (.slice a2 n2 c2) (.slice a3 n3 c3)) := by show Box3 _ _ _ _ _; rw [hW]; exact box3_new w _ _ _ _
  have KO : Hid _ := of_any a P (.slice a1 n1 c1) (.slice a2 n2 c2) (.slice a3 n3 c3) W hS (H.out.1.below hBW) (H.out.2.1.below hBW)
  have HB : Hid (Below w.heap.size w W) := hBW
  obtain ⟨p0, p1, p2⟩ := HX.out
  clear hn1 hn2 hn3 hE hS hBW
  go_enter Tryz.func8, Tryz.ntmps8
  go_upto_region 1 with fail
  rw [← hW]
  clear hW
  go_wp2_with fail
  refine Calls.mono KO.out ?_
  rintro e w1 ⟨rv, ev, rfl, hcs, hb1⟩
  have HB1 : Hid (Below W.heap.size W w1) := hb1
  rcases hcs with ⟨hck, rfl, hr⟩ | ⟨hcb, rfl, hev⟩
  case inr =>
    obtain ⟨t, x, rfl⟩ : ∃ t x, ev = .iface t (.pointer (some x)) := by
      rcases hev.cases with ⟨q, _⟩ | ⟨_, q⟩
      · rw [q] at hcb; cases hcb
      · exact q
    have HP : Hid (NewPost a P w w1 (.returned (.tuple #[.pointer none, .iface t (.pointer (some x))]))) := Or.inl ⟨t, x, rfl, hcb, hev, HB.out.trans (hb1.mono HB.out.size)⟩
    clear KO p0 p1 p2 hb1 hcb hev
    go_wp2_with fail
    go_ret2
    exact HP.out
  obtain ⟨ra, rc, rfl, hrr⟩ := hr
  clear KO p0 p1 p2 hb1
  obtain ⟨p0, p1, p2⟩ := HX.out.below HB1.out
  obtain ⟨M, hM⟩ : ∃ M, M = places P P.stmts.length := ⟨_, rfl⟩
  obtain ⟨N, hN⟩ : ∃ N, N = w.heap.size := ⟨_, rfl⟩
  obtain ⟨nr, hnr⟩ : ∃ n, n = (rulesD P).length := ⟨_, rfl⟩
  have HM : Hid (M = places P P.stmts.length ∧ checkE P = none ∧ nr = (rulesD P).length ∧ N = w.heap.size) := ⟨hM, hck, hnr, hN⟩
  have hMl : M ≤ 1000 := by
    obtain ⟨s1, s2, s3⟩ := right_small hck
    have := places_le P P.stmts.length
    omega
  have KC : Hid (∀ wx, Below w1.heap.size w1 wx → Calls Tryz.prog 26 #[.agg #[.slice a1 n1 c1, .slice a2 n2 c2, .slice a3 n3 c3]] wx fun e w' => ∃ u1 u2 u3 ps qs, e = .returned (.agg #[u1, u2, u3]) ∧ CopyP w1.heap.size w' P u1 u2 u3 ps qs ∧ Below wx.heap.size wx w') := fun wx hb => by
    refine (copied_any P _ _ _ wx H.out.2.2 (((H.out.1.below HB.out).below HB1.out).below hb)).mono ?_
    rintro e w' ⟨pb, u1, u2, u3, ps, qs, rfl, hc⟩
    exact ⟨u1, u2, u3, ps, qs, rfl, hc.toP hb.size, hc.blw⟩
  have KN : Hid (∀ wx, Below w1.heap.size w1 wx → Calls Tryz.prog 27 #[.agg #[.slice a1 n1 c1, .slice a2 n2 c2, .slice a3 n3 c3]] wx fun e w' => e = .returned (.int .i64 (M : Int)) ∧ Below wx.heap.size wx w') := fun wx hb => by
    have := nodes_any a P _ _ _ wx H.out.2.2 (((H.out.1.below HB.out).below HB1.out).below hb) (((H.out.2.1.below HB.out).below HB1.out).below hb)
    unfold nodesD at this
    rw [hck, ← hM] at this
    exact this
  have HP : Hid (∀ wx, Below w1.heap.size w1 wx → Below w1.heap.size w1 wx ∧ wx.cell? ⟨N, 0, none⟩ = some (.slice a1 n1 c1) ∧ wx.cell? ⟨N, 1, none⟩ = some (.slice a2 n2 c2) ∧ wx.cell? ⟨N, 2, none⟩ = some (.slice a3 n3 c3)) := fun wx hb => by
    rw [hN]; exact ⟨hb, (HX.out.below HB1.out).below hb⟩
  rw [← hnr]
  rw [← hN] at p0 p1 p2
  have HRR : Hid (∀ j, j < nr → ∃ b, ra = some ⟨b, 0, none⟩ ∧ RuleAt w1 b j ((rulesD P).getD j default)) := fun j hj => hrr j (by rw [← hnr]; exact hj)
  clear hM hnr hrr hck
  rw [← hN]
  clear hN
  go_upto_region 4 with fail
  go_cut [6] (fun s6 wx => ∃ sb u1 u2 u3 ps qs g k5 k6 k7, s6 = .pointer (some ⟨sb, 0, none⟩) ∧ NewDone w1 P M wx sb u1 u2 u3 ps qs g k5 k6 k7)
  case first =>
    refine wp_region_noPanic ?_
    refine wp_region_held_drew (S := fun wx => Below w1.heap.size w1 wx ∧ wx.cell? ⟨N, 0, none⟩ = some (.slice a1 n1 c1) ∧ wx.cell? ⟨N, 1, none⟩ = some (.slice a2 n2 c2) ∧ wx.cell? ⟨N, 2, none⟩ = some (.slice a3 n3 c3)) (by kernel_rfl) (HP.out _ (Below.refl _ _).drew) (fun hHeld => ?_)
    refine wpAnyH_take (i := 0) (oi := _) (v := .agg #[.slice a1 n1 c1, .slice a2 n2 c2, .slice a3 n3 c3]) rfl (by kernel_rfl) (by kernel_rfl) (by kernel_rfl) (fun _ _ _ h => h) (Or.inl ⟨by rfl, ?_⟩) hHeld ?_
    · (intro w hSw; obtain ⟨_, _, _, _⟩ := hSw; go_simp)
    simp only [Act.put, List.setIfInBounds_toArray]
    refine wpAnyH_take (i := 2) (oi := _) (v := .agg #[.slice a1 n1 c1, .slice a2 n2 c2, .slice a3 n3 c3]) rfl (by kernel_rfl) (by kernel_rfl) (by kernel_rfl) (fun _ _ _ h => h) (Or.inl ⟨by rfl, ?_⟩) hHeld ?_
    · (intro w hSw; obtain ⟨_, _, _, _⟩ := hSw; go_simp)
    simp only [List.getElem_toArray, List.getElem_cons_succ, List.getElem_cons_zero, Act.put, List.setIfInBounds_toArray, List.set_cons_zero, List.set_cons_succ]
    clear hHeld p0 p1 p2
    refine wpAnyH_inv (Inv := (fun fuel listed ac wx => ∃ (p : Nat) (x5 x6 x7 : Bool) (y18 y20 y21 y22 y23 y24 : Value), p ≤ 3 ∧ fuel + p + (x5.toNat + x6.toNat + x7.toNat) = 9 ∧ listed = #[true, decide (1 ≤ p), true, decide (2 ≤ p), decide (3 ≤ p), x5, x6, x7, false, false, false] ∧ ac = { tmps := #[.agg #[.slice a1 n1 c1, .slice a2 n2 c2, .slice a3 n3 c3], .pointer (some ⟨N, 0, none⟩), .pointer none, .nilIface, .slice ra nr rc, .nilIface, undef, undef, undef, .tuple #[.slice ra nr rc, .nilIface], .agg #[.slice a1 n1 c1, .slice a2 n2 c2, .slice a3 n3 c3], .tuple #[.slice ra nr rc, .nilIface], .slice ra nr rc, .nilIface, .nilIface, .bool false, undef, .agg #[.slice a1 n1 c1, .slice a2 n2 c2, .slice a3 n3 c3], y18, .agg #[.slice a1 n1 c1, .slice a2 n2 c2, .slice a3 n3 c3], y20, y21, y22, y23, y24, undef, undef, undef, undef, undef, undef, undef, undef, undef, undef, undef, undef, undef], defers := [] } ∧ NewAt w1 P M wx p x5 x6 x7 y18 y20 y21 y22 y23 y24)) ?_ _ _ _ _ ⟨0, false, false, false, undef, undef, undef, undef, undef, undef, by decide, rfl, rfl, rfl, ?_⟩
    case refine_2 => exact ⟨(Below.refl _ _).drew, fun q => absurd q (by decide), fun q => absurd q (by decide), fun q => absurd q (by decide), fun q => (by cases q), fun q => (by cases q), fun q => (by cases q), fun q => (by cases q), fun q => (by cases q), fun q => (by cases q)⟩
    rintro fuel listed ac wx ⟨p, x5, x6, x7, y18, y20, y21, y22, y23, y24, hp, hfu, rfl, rfl, hat⟩
    have t5 := x5.toNat_le
    have t6 := x6.toNat_le
    have t7 := x7.toNat_le
    by_cases hall : p = 3 ∧ x5 = true ∧ x6 = true ∧ x7 = true
    · left
      obtain ⟨rfl, rfl, rfl, rfl⟩ := hall
      obtain rfl : fuel = 3 := by simp at hfu; omega
      obtain ⟨u1, u2, u3, ps, qs, rfl, hcp⟩ := hat.copy (by decide)
      obtain rfl := hat.nodes (by decide)
      obtain ⟨g, rfl, hg1, hg2⟩ := hat.has (by decide)
      obtain ⟨k5, rfl, l5, m5⟩ := hat.m5 rfl
      obtain ⟨k6, rfl, l6, m6⟩ := hat.m6 rfl
      obtain ⟨k7, rfl, l7, m7⟩ := hat.m7 rfl
      have d56 : k5 ≠ k6 := fun e => hat.d56 rfl rfl (by rw [e])
      have d57 : k5 ≠ k7 := fun e => hat.d57 rfl rfl (by rw [e])
      have d67 : k6 ≠ k7 := fun e => hat.d67 rfl rfl (by rw [e])
      obtain ⟨e1, e2, rfl⟩ := owns_form hcp.o1
      obtain ⟨e3, e4, rfl⟩ := owns_form hcp.o2
      obtain ⟨e5, e6, rfl⟩ := owns_form hcp.o3
      obtain ⟨l1, hl1⟩ : ∃ x, x = P.vars.length := ⟨_, rfl⟩
      obtain ⟨l2, hl2⟩ : ∃ x, x = P.funs.length := ⟨_, rfl⟩
      obtain ⟨l3, hl3⟩ : ∃ x, x = P.stmts.length := ⟨_, rfl⟩
      rw [← hl1, ← hl2, ← hl3] at hcp ⊢
      have hb9 : Below wx.heap.size wx (wx.alloc (.cells #[.slice e1 l1 e2, .slice e3 l2 e4, .slice e5 l3 e6, .slice (some ⟨g, 0, none⟩) M M, .slice none 0 0, .map (some k5), .map (some k6), .map (some k7)] TSol)) := below1 wx _
      have HN : Hid (NewDone w1 P M (wx.alloc (.cells #[.slice e1 l1 e2, .slice e3 l2 e4, .slice e5 l3 e6, .slice (some ⟨g, 0, none⟩) M M, .slice none 0 0, .map (some k5), .map (some k6), .map (some k7)] TSol)) wx.heap.size (.slice e1 l1 e2) (.slice e3 l2 e4) (.slice e5 l3 e6) ps qs g k5 k6 k7) :=
        ⟨hat.hb.trans (hb9.mono hat.hb.size), hat.hb.size, heap_new wx _, hcp.below hb9, ⟨hg1, block_keep hb9 hg2⟩, ⟨l5, m5.below hb9⟩, ⟨l6, m6.below hb9⟩, ⟨l7, m7.below hb9⟩, d56, d57, d67⟩
      have HBX : Hid (Below w1.heap.size w1 wx) := hat.hb
      clear hcp hg1 hg2 l5 m5 l6 m6 l7 m7 d56 d57 d67 hl1 hl2 hl3 hb9 hat hfu hp t5 t6 t7
      refine wpAnyH_ready (rs := [8]) (by kernel_rfl) (by simp) ?_
      refine AllReadyH.cons (o := _) rfl (fun K hK => ?_) AllReadyH.nil
      go_simp
      refine hK.out _ _ (HP.out _ HBX.out) (fun hHeld => ?_)
      clear hK K hHeld
      simp only [List.setIfInBounds_toArray, List.set_cons_zero, List.set_cons_succ]
      refine wpAnyH_ready (rs := [9]) (by kernel_rfl) (by simp) ?_
      refine AllReadyH.cons (o := _) rfl (fun K hK => ?_) AllReadyH.nil
      go_simp
      refine hK.out _ _ (HP.out _ HN.out.hb) (fun hHeld => ?_)
      clear hK K hHeld
      simp only [List.setIfInBounds_toArray, List.set_cons_zero, List.set_cons_succ]
      refine wpAnyH_ready (rs := [10]) (by kernel_rfl) (by simp) ?_
      refine AllReadyH.cons (o := _) rfl (fun K hK => ?_) AllReadyH.nil
      go_simp
      refine hK.out _ _ (HP.out _ HN.out.hb) (fun hHeld => ?_)
      clear hK K hHeld
      simp only [List.setIfInBounds_toArray, List.set_cons_zero, List.set_cons_succ]
      refine wpAnyH_done (by kernel_rfl) ?_ _
      refine NoPanic.normal ?_
      go_wp2_with fail
      go_meet
      exact ⟨_, _, _, _, ps, qs, g, k5, k6, k7, rfl, HN.out⟩
    · right
      obtain ⟨f, rfl⟩ : ∃ f, fuel = f + 1 := ⟨fuel - 1, by omega⟩
      refine ⟨f, rfl, ?_, fun i hi => ?_⟩
      · rcases (by omega : p = 0 ∨ p = 1 ∨ p = 2 ∨ p = 3) with rfl | rfl | rfl | rfl <;> cases x5 <;> cases x6 <;> cases x7 <;> first | kernel_rfl | exact absurd ⟨rfl, rfl, rfl, rfl⟩ hall
      have hphi : newPhi p x5 x6 x7 i = true := by
        rcases (by omega : p = 0 ∨ p = 1 ∨ p = 2 ∨ p = 3) with rfl | rfl | rfl | rfl <;> cases x5 <;> cases x6 <;> cases x7 <;> exact mem_all hi (by kernel_rfl)
      clear hi
      rcases newPhi_cases hphi hall with ⟨rfl, rfl⟩ | ⟨rfl, rfl⟩ | ⟨rfl, rfl⟩ | ⟨rfl, rfl⟩ | ⟨rfl, rfl⟩ | ⟨rfl, rfl⟩
      · refine ⟨_, rfl, fun K hK => ?_⟩
        clear hphi hall
        go_simp
        refine (KC.out wx hat.hb).mono ?_
        rintro e w' ⟨u1, u2, u3, ps, qs, rfl, hcp, hb9⟩
        have h9 := hat.step hb9
        go_wp2_with fail
        refine hK.out _ _ ⟨HP.out _ h9.hb, ⟨1, x5, x6, x7, .agg #[u1, u2, u3], y20, y21, y22, y23, y24, by decide, by omega, rfl, rfl, ?_⟩⟩
        exact ⟨h9.hb, fun _ => ⟨u1, u2, u3, ps, qs, rfl, hcp⟩, fun q => absurd q (by decide), fun q => absurd q (by decide), h9.m5, h9.m6, h9.m7, h9.d56, h9.d57, h9.d67⟩
      · refine ⟨_, rfl, fun K hK => ?_⟩
        clear hphi hall
        go_simp
        refine (KN.out wx hat.hb).mono ?_
        rintro e w' ⟨rfl, hb9⟩
        have h9 := hat.step hb9
        go_wp2_with fail
        refine hK.out _ _ ⟨HP.out _ h9.hb, ⟨2, x5, x6, x7, y18, .int .i64 (M : Int), y21, y22, y23, y24, by decide, by omega, rfl, rfl, ?_⟩⟩
        exact ⟨h9.hb, fun _ => h9.copy (by decide), fun _ => rfl, fun q => absurd q (by decide), h9.m5, h9.m6, h9.m7, h9.d56, h9.d57, h9.d67⟩
      · refine ⟨_, rfl, fun K hK => ?_⟩
        clear hphi hall
        have hmk := make_rows M (by omega) wx
        obtain rfl := hat.nodes (by decide)
        have hb9 : Below wx.heap.size wx (wx.alloc (.cells (Array.replicate M (.slice none 0 0)) TSI)) := below1 wx _
        have h9 := hat.step hb9
        go_simp
        refine hK.out _ _ ⟨HP.out _ h9.hb, ⟨3, x5, x6, x7, y18, .int .i64 (M : Int), .slice (some ⟨wx.heap.size, 0, none⟩) M M, y22, y23, y24, by decide, by omega, rfl, rfl, ?_⟩⟩
        exact ⟨h9.hb, fun _ => h9.copy (by decide), fun _ => rfl, fun _ => ⟨wx.heap.size, rfl, hat.hb.size, heap_new wx _⟩, h9.m5, h9.m6, h9.m7, h9.d56, h9.d57, h9.d67⟩
      · refine ⟨_, rfl, fun K hK => ?_⟩
        clear hphi hall
        have hb9 : Below wx.heap.size wx (wx.alloc (.map #[] 0)) := below1 wx _
        have h9 := hat.step hb9
        have hne : ∀ (y : Value) (tk : TypeId) (κ : Type) (lit : κ → Lit) (ok : κ → Prop) (f : κ → Option Value), (∃ k, y = .map (some k) ∧ w1.heap.size ≤ k ∧ KMap tk lit ok wx k 0 f) → y ≠ .map (some wx.heap.size) := fun y tk κ lit ok f h e => by
          obtain ⟨k, rfl, -, hk⟩ := h
          injection e with e
          injection e with e
          have := hk.lt
          omega
        go_simp
        refine hK.out _ _ ⟨HP.out _ h9.hb, ⟨p, true, x6, x7, y18, y20, y21, .map (some wx.heap.size), y23, y24, hp, by have e1 : true.toNat = 1 := rfl; have e0 : false.toNat = 0 := rfl; omega, rfl, rfl, ?_⟩⟩
        exact ⟨h9.hb, h9.copy, h9.nodes, h9.has, fun _ => ⟨_, rfl, hat.hb.size, KMap.made _ _ _ wx⟩, h9.m6, h9.m7, fun _ q => Ne.symm (hne _ _ _ _ _ _ (hat.m6 q)), fun _ q => Ne.symm (hne _ _ _ _ _ _ (hat.m7 q)), h9.d67⟩
      · refine ⟨_, rfl, fun K hK => ?_⟩
        clear hphi hall
        have hb9 : Below wx.heap.size wx (wx.alloc (.map #[] 0)) := below1 wx _
        have h9 := hat.step hb9
        have hne : ∀ (y : Value) (tk : TypeId) (κ : Type) (lit : κ → Lit) (ok : κ → Prop) (f : κ → Option Value), (∃ k, y = .map (some k) ∧ w1.heap.size ≤ k ∧ KMap tk lit ok wx k 0 f) → y ≠ .map (some wx.heap.size) := fun y tk κ lit ok f h e => by
          obtain ⟨k, rfl, -, hk⟩ := h
          injection e with e
          injection e with e
          have := hk.lt
          omega
        go_simp
        refine hK.out _ _ ⟨HP.out _ h9.hb, ⟨p, x5, true, x7, y18, y20, y21, y22, .map (some wx.heap.size), y24, hp, by have e1 : true.toNat = 1 := rfl; have e0 : false.toNat = 0 := rfl; omega, rfl, rfl, ?_⟩⟩
        exact ⟨h9.hb, h9.copy, h9.nodes, h9.has, h9.m5, fun _ => ⟨_, rfl, hat.hb.size, KMap.made _ _ _ wx⟩, h9.m7, fun q _ => hne _ _ _ _ _ _ (hat.m5 q), h9.d57, fun _ q => Ne.symm (hne _ _ _ _ _ _ (hat.m7 q))⟩
      · refine ⟨_, rfl, fun K hK => ?_⟩
        clear hphi hall
        have hb9 : Below wx.heap.size wx (wx.alloc (.map #[] 0)) := below1 wx _
        have h9 := hat.step hb9
        have hne : ∀ (y : Value) (tk : TypeId) (κ : Type) (lit : κ → Lit) (ok : κ → Prop) (f : κ → Option Value), (∃ k, y = .map (some k) ∧ w1.heap.size ≤ k ∧ KMap tk lit ok wx k 0 f) → y ≠ .map (some wx.heap.size) := fun y tk κ lit ok f h e => by
          obtain ⟨k, rfl, -, hk⟩ := h
          injection e with e
          injection e with e
          have := hk.lt
          omega
        go_simp
        refine hK.out _ _ ⟨HP.out _ h9.hb, ⟨p, x5, x6, true, y18, y20, y21, y22, y23, .map (some wx.heap.size), hp, by have e1 : true.toNat = 1 := rfl; have e0 : false.toNat = 0 := rfl; omega, rfl, rfl, ?_⟩⟩
        exact ⟨h9.hb, h9.copy, h9.nodes, h9.has, h9.m5, h9.m6, fun _ => ⟨_, rfl, hat.hb.size, KMap.made _ _ _ wx⟩, h9.d56, fun q _ => hne _ _ _ _ _ _ (hat.m5 q), fun q _ => hne _ _ _ _ _ _ (hat.m6 q)⟩
  case rest =>
  obtain ⟨sb, u1, u2, u3, ps, qs, g, k5, k6, k7, rfl, hN⟩ := hcut
  obtain ⟨j, hj⟩ := fixK_ex HM.out.2.1
  have HOB : Hid (∀ k, k ≤ nr → ObOk P (iterD P j) k) := fun k hk => obOk_of HM.out.2.1 hj k (by rw [← HM.out.2.2.1]; exact hk)
  obtain ⟨hM0, hF0, hP0, hO0⟩ := hN.solM
  have HN0 : Hid (SolM wc w1.heap.size sb P.funs (newB u1 u2 u3 M g k5 k6 k7) (obK P 0) ∧ FunsK wc sb P.funs (newB u1 u2 u3 M g k5 k6 k7) (obK P 0) ∧ ProgK wc sb (newB u1 u2 u3 M g k5 k6 k7) (obK P 0) P ∧ (∀ k, OwnB sb (newB u1 u2 u3 M g k5 k6 k7) (obK P 0) k → w1.heap.size ≤ k) ∧ Below w1.heap.size w1 wc) := by
    have e0 : obK P 0 = sol0 M := by unfold obK; rw [← HM.out.1]; rfl
    show _ ∧ _
    rw [e0]
    exact ⟨hM0, hF0, hP0, hO0, hN.hb⟩
  have HKB : Hid (∀ wr m' s', SolStepR wc wr sb (newB u1 u2 u3 M g k5 k6 k7) m' (obK P 0) s' → Below w1.heap.size w1 wr) := fun wr m' s' hs => by
    have hb := HN0.out.2.2.2.2
    refine ⟨hs.os.trans hb.os, hs.tape.trans hb.tape, hs.output.trans hb.output, Nat.le_trans hb.size hs.size, fun k hk => ?_⟩
    have h1 := hb.block k hk
    rw [Array.getElem?_eq_getElem hk] at h1 ⊢
    exact hs.keep k _ h1 fun q => absurd (HN0.out.2.2.2.1 k q) (Nat.not_le.2 hk)
  have HSZ : Hid (M * (M + P.funs.length) ≤ 900000 ∧ M + P.funs.length ≤ 999 ∧ nr ≤ 80 ∧ (∀ i, i < P.funs.length → (P.funs.getD i default).params.length ≤ 1000) ∧ ∀ r ∈ rulesD P, r.args.length ≤ 1000000) := by
    obtain ⟨s1, s2, s3⟩ := right_small HM.out.2.1
    have hpl := places_le P P.stmts.length
    have hM2 : M ≤ 200 := by rw [HM.out.1]; omega
    have h1 : M * (M + P.funs.length) ≤ 200 * 300 := Nat.mul_le_mul hM2 (by omega)
    refine ⟨by omega, by omega, by rw [HM.out.2.2.1, rulesD_len]; exact s1, fun i hi => ?_, fun r hr => ?_⟩
    · have := right_params HM.out.2.1 (P.funs.getD i default) (by simp [List.getD, hi])
      omega
    · obtain ⟨k, hk, rfl⟩ := List.mem_map.1 hr
      have hk' : k < P.stmts.length := List.mem_range.1 hk
      have := H.out.2.2.2.2.2.2 (P.stmts.getD k default) (by simp [List.getD, hk'])
      unfold ruleD
      repeat' split
      all_goals first | (simp only [List.length_nil]; omega) | (simp only []; omega)
  have hnrl : nr ≤ 80 := HSZ.out.2.2.1
  clear hM0 hF0 hP0 hO0 hN hj KC KN
  go_wp2_with fail
  go_loopw [29] (fun t wr => ∃ (k : Nat) (m' : SolB), k ≤ nr ∧ t = .int .i64 k ∧ SolM wr w1.heap.size sb P.funs m' (obK P k) ∧ SolStepR wc wr sb (newB u1 u2 u3 M g k5 k6 k7) m' (obK P 0) (obK P k) ∧ m'.kn ≤ k * 1002000000000 ∧ m'.en ≤ k * 1002000 ∧ m'.rn ≤ k) (fun t _ => (nr - intOf t).toNat)
  case atStart => exact ⟨0, _, Nat.zero_le _, rfl, HN0.out.1, ⟨fun _ _ q _ => q, fun _ q => Or.inl q, rfl, rfl, rfl, Nat.le_refl _, rfl, rfl, rfl⟩, Nat.le_refl _, Nat.le_refl _, Nat.le_refl _⟩
  case round =>
    obtain ⟨k, m1, hk, rfl, hM, hS, hkn, hen, hrn⟩ := hrel
    by_cases hlt : k < nr
    · have hki : (k : Int) < nr := by omega
      obtain ⟨b, rfl, hR⟩ := HRR.out k hlt
      have hbr := HKB.out wr _ _ hS
      obtain ⟨av, q0, q1, q2, q3, q4, q5, -⟩ := hR
      replace q0 := cell_keep hbr q0
      replace q1 := cell_keep hbr q1
      replace q2 := cell_keep hbr q2
      replace q3 := cell_keep hbr q3
      replace q4 := cell_keep hbr q4
      obtain ⟨r, hr⟩ : ∃ r, r = (rulesD P).getD k default := ⟨_, rfl⟩
      rw [← hr] at q0 q1 q2 q3 q5
      obtain ⟨kd, hkd⟩ : ∃ x, x = S r.kind := ⟨_, rfl⟩
      obtain ⟨ra, hra⟩ : ∃ x, x = r.a := ⟨_, rfl⟩
      obtain ⟨rb, hrb⟩ : ∃ x, x = r.b := ⟨_, rfl⟩
      obtain ⟨rs, hrs⟩ : ∃ x, x = r.stmt := ⟨_, rfl⟩
      rw [← hkd] at q0
      rw [← hra] at q1
      rw [← hrb] at q2
      rw [← hrs] at q3
      obtain ⟨ava, avc, rfl⟩ := isInts_form q5
      obtain ⟨na, hna⟩ : ∃ x, x = r.args.length := ⟨_, rfl⟩
      rw [← hna] at q4 q5
      obtain ⟨W2, hW2⟩ : ∃ z, z = wr.alloc (.cells #[.string kd, .int .i64 ra, .int .i64 rb, .int .i64 rs, .slice ava na avc] TRu) := ⟨_, rfl⟩
      have hb2 : Below wr.heap.size wr W2 := by rw [hW2]; exact below1 wr _
      have hS2 : SolStepR wc W2 sb (newB u1 u2 u3 M g k5 k6 k7) m1 (obK P 0) (obK P k) := hS.trans (SolStep.refl hb2 sb m1 (obK P k)).toR
      have hM2 := hM.below hb2
      have hkl : k < (rulesD P).length := by rw [← HM.out.2.2.1]; exact hlt
      have hrm : r ∈ rulesD P := by rw [hr]; simp [List.getD, hkl]
      have hob := HOB.out k hk
      have KO : Hid (Calls Tryz.prog 28 #[.pointer (some ⟨sb, 0, none⟩), .agg #[.string kd, .int .i64 ra, .int .i64 rb, .int .i64 rs, .slice ava na avc]] W2 fun e w' => e = .returned (.tuple #[]) ∧ ObeyPost W2 w1.heap.size sb P.funs m1 (obK P k) (obK P (k + 1)) w') := by
        have hcl := (HOB.out (k + 1) hlt).ok.cl r (by rw [hr, take_snoc (rulesD P) default k hkl]; exact List.mem_append_right _ (List.mem_singleton.2 rfl))
        have hq5 : ∀ w', (∀ (i : Nat) (o : Obj), W2.heap[i]? = some o → ¬ OwnB sb m1 (obK P k) i → w'.heap[i]? = some o) → IsInts w' (.slice ava na avc) r.args := fun w' hkk => by
          have hown : ∀ i, i < w1.heap.size → ¬ OwnB sb m1 (obK P k) i := fun i hi q => by
            rcases hS2.own i q with q | q
            · exact absurd (HN0.out.2.2.2.1 i q) (Nat.not_le.2 hi)
            · exact absurd (Nat.le_trans HN0.out.2.2.2.2.size q) (Nat.not_le.2 hi)
          have hall : ∀ (i : Nat) (o : Obj), w1.heap[i]? = some o → w'.heap[i]? = some o := fun i o hi =>
            hkk i o (block_keep hb2 (block_keep hbr hi)) (hown i (Array.getElem?_eq_some_iff.1 hi).1)
          refine isInts_heap (by rw [hna] at q5; rw [hna]; exact q5) hall ?_
          rcases Nat.eq_zero_or_pos w1.heap.size with h0 | h0
          · rw [h0]; exact Nat.zero_le _
          · have := hall (w1.heap.size - 1) _ (Array.getElem?_eq_getElem (by omega))
            have := (Array.getElem?_eq_some_iff.1 this).1
            omega
        have := obeyS_any hM2 (HN0.out.2.1.step hS2) hob.ok hob.once r (.slice ava na avc) (rule_fit HM.out.2.1 r hrm) hcl (ask_kinds HM.out.2.1 r hrm) (by rw [← HM.out.1]; exact HSZ.out.1) (by rw [← HM.out.1]; exact HSZ.out.2.1) (fun a => by have := hob.len a; have := HSZ.out.2.2.1; omega) (HSZ.out.2.2.2.2 r hrm) HSZ.out.2.2.2.1 hq5 (by omega) (by omega) (by omega)
        rw [obK_next P k hkl, ← hr]
        rw [← hkd, ← hra, ← hrb, ← hrs] at this
        exact this
      have HS2 : Hid (SolStepR wc W2 sb (newB u1 u2 u3 M g k5 k6 k7) m1 (obK P 0) (obK P k) ∧ m1.kn ≤ k * 1002000000000 ∧ m1.en ≤ k * 1002000 ∧ m1.rn ≤ k) := ⟨hS2, hkn, hen, hrn⟩
      clear hM hS hkn hen hrn hbr hr hkd hra hrb hrs hna hb2 hS2 hM2 hkl hrm hob q5
      obtain ⟨nb, hnb⟩ : ∃ b, b = wr.heap.size := ⟨_, rfl⟩
      have hbx : W2.heap[nb]? = some (.cells #[.string kd, .int .i64 ra, .int .i64 rb, .int .i64 rs, .slice ava na avc] TRu (0, 0)) := by rw [hW2, hnb]; exact heap_new wr _
      have e0 : W2.cell? ⟨nb, 0, none⟩ = some (.string kd) := by rw [Lib.cell_of_heap hbx]; rfl
      have e1 : W2.cell? ⟨nb, 1, none⟩ = some (.int .i64 ra) := by rw [Lib.cell_of_heap hbx]; rfl
      have e2 : W2.cell? ⟨nb, 2, none⟩ = some (.int .i64 rb) := by rw [Lib.cell_of_heap hbx]; rfl
      have e3 : W2.cell? ⟨nb, 3, none⟩ = some (.int .i64 rs) := by rw [Lib.cell_of_heap hbx]; rfl
      have e4 : W2.cell? ⟨nb, 4, none⟩ = some (.slice ava na avc) := by rw [Lib.cell_of_heap hbx]; rfl
      clear hbx
      go_upto_region 8 with fail
      rw [← hW2, ← hnb]
      clear hW2 hnb q0 q1 q2 q3 q4
      go_wp2_with fail
      refine Calls.mono KO.out ?_
      rintro e w3 ⟨rfl, m2, g1, g2, g3, g4, g5⟩
      have H3 : Hid (SolM w3 w1.heap.size sb P.funs m2 (obK P (k + 1)) ∧ SolStepR wc w3 sb (newB u1 u2 u3 M g k5 k6 k7) m2 (obK P 0) (obK P (k + 1)) ∧ m2.kn ≤ (k + 1) * 1002000000000 ∧ m2.en ≤ (k + 1) * 1002000 ∧ m2.rn ≤ k + 1) := by
        obtain ⟨z1, z2, z3, z4⟩ := HS2.out
        exact ⟨g1, z1.trans g2, by omega, by omega, by omega⟩
      clear g1 g2 g3 g4 g5 KO e0 e1 e2 e3 e4
      go_wp2_with fail
      go_roundw
      case rel => exact ⟨k + 1, m2, hlt, by go_num, H3.out⟩
      case measure => simp [intOf]; omega
    · have hkn0 : k = nr := by omega
      subst hkn0
      have HQ : Hid (NewPost a P w wr (.returned (.tuple #[.pointer (some ⟨sb, 0, none⟩), .nilIface]))) := by
        have e1 : obK P k = newD P := by rw [HM.out.2.2.1]; exact obK_all P
        have hb := HKB.out wr _ _ hS
        have hb1 := HB.out.trans (HB1.out.mono HB.out.size)
        rw [e1] at hM hS
        have hk1 : k * 1002000000000 ≤ 80 * 1002000000000 := Nat.mul_le_mul hnrl (Nat.le_refl _)
        have hk2 : k * 1002000 ≤ 80 * 1002000 := Nat.mul_le_mul hnrl (Nat.le_refl _)
        refine Or.inr ⟨HM.out.2.1, w1.heap.size, sb, m1, rfl, hM, HN0.out.2.1.step hS, HN0.out.2.2.1.step hS, by omega, by omega, by omega, fun i hi => ?_, hb1.trans (hb.mono hb1.size)⟩
        rcases hS.own i hi with q | q
        · exact Nat.le_trans hb1.size (HN0.out.2.2.2.1 i q)
        · exact Nat.le_trans hb1.size (Nat.le_trans HN0.out.2.2.2.2.size q)
      clear hM hS hkn hen hrn
      go_wp2_with fail
      go_ret2
      exact HQ.out
end Go.Proofs.YtglonlpfnllocaaGreatDoor

/-
  The document's run: a State in memory, and what a store does to it.
-/
import Derived.Test.YtdbcjeccmjpbiabDoorRI
import Derived.Test.YtdbcjeccmjpbiabDoorRJ
namespace Go.Proofs.YtdbcjeccmjpbiabDoor
open Go.RowKit Go.Extern.Stop Go.Stop Go.Extern

abbrev TRV : TypeId := 52
def valCells (o : Option Ref) : List Value := [.string (valK o), .int .i64 (valN o)]
def vcells (os : List (Option Ref)) : List Value := (os.map valCells).flatten
theorem vcells_nil : vcells [] = [] := rfl
theorem vcells_cons (o : Option Ref) (os : List (Option Ref)) : vcells (o :: os) = .string (valK o) :: .int .i64 (valN o) :: vcells os := rfl
theorem vcells_len (os : List (Option Ref)) : (vcells os).length = os.length * 2 := by
  induction os with
  | nil => rfl
  | cons o r ih => rw [vcells_cons]; simp [ih]; omega
theorem vcells_at (os : List (Option Ref)) (j : Nat) (h : j < os.length) : (vcells os)[j * 2]? = some (.string (valK (os.getD j none))) ∧ (vcells os)[j * 2 + 1]? = some (.int .i64 (valN (os.getD j none))) := by
  induction os generalizing j with
  | nil => simp at h
  | cons o r ih =>
    rw [vcells_cons]
    cases j with
    | zero => exact ⟨rfl, rfl⟩
    | succ j =>
      have := ih j (by simpa using h)
      rw [show (j + 1) * 2 = j * 2 + 1 + 1 by omega]
      simpa using this
theorem vcells_set (os : List (Option Ref)) (j : Nat) (o : Option Ref) : ((vcells os).set (j * 2) (.string (valK o))).set (j * 2 + 1) (.int .i64 (valN o)) = vcells (os.set j o) := by
  induction os generalizing j with
  | nil => rfl
  | cons a r ih =>
    rw [vcells_cons]
    cases j with
    | zero => rfl
    | succ j =>
      rw [show (j + 1) * 2 = j * 2 + 1 + 1 by omega]
      simp only [List.set_cons_succ]
      rw [ih j]
      rfl
theorem vcells_snoc (os : List (Option Ref)) (o : Option Ref) : vcells (os ++ [o]) = vcells os ++ valCells o := by
  unfold vcells; simp

/-- A cell of a row of one's own gets another value. -/
theorem owns_set {w : World} {B g c : Nat} {e : TypeId} {k n : Nat} {xs : List Value} (h : w.ownsRow B e k (.slice (some ⟨g, 0, none⟩) n c) n xs) (i : Nat) (x : Value) : (w.setCell ⟨g, i, none⟩ x).ownsRow B e k (.slice (some ⟨g, 0, none⟩) n c) n (xs.set i x) := by
  obtain ⟨hl, h2⟩ := h
  refine ⟨by simpa using hl, Or.inr ?_⟩
  rcases h2 with ⟨q, _⟩ | ⟨g', cap, cur, hv, hg, hh, hcap, hmax, hsz, hcur⟩
  · cases q
  · cases hv
    refine ⟨g, c, cur.setIfInBounds i x, rfl, hg, set_block _ _ _ _ _ _ hh x, hcap, hmax, by simpa using hsz, ?_⟩
    rw [← hcur]
    simp [List.take_set]
theorem owns_set_other {w : World} {B g : Nat} {e : TypeId} {k n : Nat} {v : Value} {xs : List Value} (h : w.ownsRow B e k v n xs) (hne : ∀ g', v.ownBlock = some g' → g' ≠ g) (i : Nat) (x : Value) : (w.setCell ⟨g, i, none⟩ x).ownsRow B e k v n xs := by
  refine ⟨h.1, ?_⟩
  rcases h.2 with h2 | ⟨g', cap, cur, hv, hg, hh, r⟩
  · exact Or.inl h2
  · refine Or.inr ⟨g', cap, cur, hv, hg, ?_, r⟩
    have := hne g' (by rw [hv]; rfl)
    simp only [World.setCell, Array.getElem?_modify]
    rw [if_neg (fun q => this q.symm)]
    exact hh
theorem owns_cell {w : World} {B g c : Nat} {e : TypeId} {k n : Nat} {xs : List Value} (h : w.ownsRow B e k (.slice (some ⟨g, 0, none⟩) n c) n xs) (i : Nat) (hi : i < n * k) : w.cell? ⟨g, i, none⟩ = xs[i]? := by
  obtain ⟨hl, h2⟩ := h
  rcases h2 with ⟨q, _⟩ | ⟨g', cap, cur, hv, hg, hh, hcap, hmax, hsz, hcur⟩
  · cases q
  · cases hv
    rw [Lib.cell_of_heap hh, ← hcur, List.getElem?_take_of_lt hi]
    simp

theorem Tryd.infoRV : (Tryd.prog.info? 52).map (fun i => (i.zero, i.size, i.bytes)) = some (some (.agg #[.string ⟨#[]⟩, .int .i64 0]), 2, 24) := by kernel_rfl
/-- The numbers of a state's references are there. -/
structure StOk (n1 n2 : Nat) (s : StD) : Prop where
  okv : ∀ r ∈ s.vars, OkO n1 n2 s.things.length r
  okt : ∀ r ∈ s.things, OkO n1 n2 s.things.length r
theorem StOk.get {n1 n2 : Nat} {s : StD} (h : StOk n1 n2 s) (r : Ref) : OkO n1 n2 s.things.length (s.get r) := by
  cases r using ref_cases with
  | var i => exact getD_ok h.okv i
  | thing i => exact getD_ok h.okt i
  | fn i => intro x hx; cases hx
theorem StOk.put {n1 n2 : Nat} {s : StD} (h : StOk n1 n2 s) (r : Ref) {x : Option Ref} (hx : OkO n1 n2 s.things.length x) : StOk n1 n2 (s.put r x) := by
  cases r using ref_cases with
  | var i => exact ⟨mem_set_ok h.okv i hx, h.okt⟩
  | thing i =>
    have hl : (s.put (.thing i) x).things.length = s.things.length := put_things
    exact ⟨by rw [hl]; exact h.okv, by rw [hl]; exact mem_set_ok h.okt i hx⟩
  | fn i => exact h
theorem StOk.addT {n1 n2 : Nat} {s : StD} (h : StOk n1 n2 s) (k : Int) : StOk n1 n2 (addT s k) := by
  have hlen : (Go.Proofs.YtdbcjeccmjpbiabDoor.addT s k).things.length = s.things.length + 1 := by simp [Go.Proofs.YtdbcjeccmjpbiabDoor.addT]
  refine ⟨?_, ?_⟩
  · rw [hlen]
    exact fun r hr => ok_more (h.okv r hr)
  · rw [hlen]
    intro r hr
    rcases List.mem_append.1 hr with q | q
    · exact ok_more (h.okt r q)
    · rw [List.mem_singleton.1 q]
      intro x hx; cases hx

/-- A State in memory of its own. -/
structure RSt (w : World) (B Bt sb : Nat) (n1 : Nat) (s : StD) (xv xt xp : Value) : Prop where
  low : B ≤ sb
  hBt : B ≤ Bt
  hBw : Bt ≤ w.heap.size
  blk : w.heap[sb]? = some (.cells #[xv, xt, xp] 55 (0, 0))
  rv : w.ownsRow B TRV 2 xv n1 (vcells s.vars)
  rvb : ∀ g, xv.ownBlock = some g → g < Bt
  rt : w.ownsRow Bt TRV 2 xt s.things.length (vcells s.things)
  rp : w.ownsRow Bt 3 1 xp s.places.length (s.places.map intV)
  lp : s.places.length = s.things.length
  ls : s.vars.length = n1

section
variable {w w' : World} {B Bt sb n1 : Nat} {s : StD} {xv xt xp : Value}
theorem RSt.below (h : RSt w B Bt sb n1 s xv xt xp) (hb : Below w.heap.size w w') : RSt w' B Bt sb n1 s xv xt xp :=
  ⟨h.low, h.hBt, Nat.le_trans h.hBw hb.size, block_keep hb h.blk, owns_below h.rv hb, h.rvb, owns_below h.rt hb, owns_below h.rp hb, h.lp, h.ls⟩
theorem RSt.size (h : RSt w B Bt sb n1 s xv xt xp) : B ≤ w.heap.size := Nat.le_trans h.hBt h.hBw
theorem RSt.cells (h : RSt w B Bt sb n1 s xv xt xp) : w.cell? ⟨sb, 0, none⟩ = some xv ∧ w.cell? ⟨sb, 1, none⟩ = some xt ∧ w.cell? ⟨sb, 2, none⟩ = some xp := by
  refine ⟨?_, ?_, ?_⟩
  · rw [Lib.cell_of_heap h.blk]; rfl
  · rw [Lib.cell_of_heap h.blk]; rfl
  · rw [Lib.cell_of_heap h.blk]; rfl
theorem RSt.frz (h : RSt w B Bt sb n1 s xv xt xp) (i : Nat) : w.frozen? ⟨sb, i, none⟩ = false := frozen_of_block h.blk i
/-- The row of the variables. -/
theorem RSt.vrow (h : RSt w B Bt sb n1 s xv xt xp) (hn : 0 < n1) : ∃ g cap cs, xv = .slice (some ⟨g, 0, none⟩) n1 cap ∧ B ≤ g ∧ g < Bt ∧ g ≠ sb ∧ w.heap[g]? = some (.cells cs TRV (0, 0)) ∧ ∀ i, i < n1 → w.cell? ⟨g, i * 2, none⟩ = some (.string (valK (s.vars.getD i none))) ∧ w.cell? ⟨g, i * 2 + 1, none⟩ = some (.int .i64 (valN (s.vars.getD i none))) := by
  have h0 := h.rv
  rcases h0.2 with ⟨q, e⟩ | ⟨g, cap, cur, hv, hg, hh, hcap, hmax, hsz, hcur⟩
  · omega
  · rw [hv] at h0
    refine ⟨g, cap, cur, hv, hg, h.rvb g (by rw [hv]; rfl), ne_block hh h.blk (by decide), hh, fun i hi => ?_⟩
    have := vcells_at s.vars i (by rw [h.ls]; exact hi)
    rw [owns_cell h0 (i * 2) (by omega), owns_cell h0 (i * 2 + 1) (by omega)]
    exact this
/-- The row of the things. -/
theorem RSt.trow (h : RSt w B Bt sb n1 s xv xt xp) (hn : 0 < s.things.length) : ∃ g cap cs, xt = .slice (some ⟨g, 0, none⟩) s.things.length cap ∧ Bt ≤ g ∧ g ≠ sb ∧ w.heap[g]? = some (.cells cs TRV (0, 0)) ∧ ∀ i, i < s.things.length → w.cell? ⟨g, i * 2, none⟩ = some (.string (valK (s.things.getD i none))) ∧ w.cell? ⟨g, i * 2 + 1, none⟩ = some (.int .i64 (valN (s.things.getD i none))) := by
  have h0 := h.rt
  rcases h0.2 with ⟨q, e⟩ | ⟨g, cap, cur, hv, hg, hh, hcap, hmax, hsz, hcur⟩
  · omega
  · rw [hv] at h0
    refine ⟨g, cap, cur, hv, hg, ne_block hh h.blk (by decide), hh, fun i hi => ?_⟩
    have := vcells_at s.things i hi
    rw [owns_cell h0 (i * 2) (by omega), owns_cell h0 (i * 2 + 1) (by omega)]
    exact this
theorem own_form {g n c : Nat} {g' : Nat} (h : (Value.slice (some ⟨g, 0, none⟩) n c).ownBlock = some g') : g' = g := by
  simp [Value.ownBlock] at h; exact h.symm
/-- A variable gets a value. -/
theorem RSt.putV (h : RSt w B Bt sb n1 s xv xt xp) {g cap : Nat} (hv : xv = .slice (some ⟨g, 0, none⟩) n1 cap) {j : Nat} (hj : j < n1) (x : Option Ref) :
    RSt ((w.setCell ⟨g, j * 2, none⟩ (.string (valK x))).setCell ⟨g, j * 2 + 1, none⟩ (.int .i64 (valN x))) B Bt sb n1 (s.put (.var j) x) xv xt xp := by
  obtain ⟨g', cap', cs, hv', hg, hgt, hgs, hh, -⟩ := h.vrow (by omega)
  rw [hv] at hv'
  cases hv'
  have hk1 := kept_setCell (i := j * 2) hh (.string (valK x))
  have hh1 := set_block _ _ (j * 2) _ _ _ hh (.string (valK x))
  have hk2 := kept_setCell (i := j * 2 + 1) hh1 (.int .i64 (valN x))
  have hnt : ∀ q, xt.ownBlock = some q → q ≠ g := fun q hq => by have := (h.rt.lt q hq).1; omega
  refine ⟨h.low, h.hBt, by simpa using h.hBw, hk2 _ _ _ _ (hk1 _ _ _ _ h.blk (by decide)) (by decide), ?_, h.rvb, ?_, ?_, h.lp, by simpa [StD.put] using h.ls⟩
  · have h0 := h.rv
    rw [hv] at h0 ⊢
    have := owns_set (owns_set h0 (j * 2) (.string (valK x))) (j * 2 + 1) (.int .i64 (valN x))
    rw [vcells_set] at this
    exact this
  · exact owns_set_other (owns_set_other h.rt hnt _ _) hnt _ _
  · exact owns_kept (owns_kept h.rp hk1 (by decide)) hk2 (by decide)
/-- A thing gets a value. -/
theorem RSt.putT (h : RSt w B Bt sb n1 s xv xt xp) {g cap : Nat} (hv : xt = .slice (some ⟨g, 0, none⟩) s.things.length cap) {j : Nat} (hj : j < s.things.length) (x : Option Ref) :
    RSt ((w.setCell ⟨g, j * 2, none⟩ (.string (valK x))).setCell ⟨g, j * 2 + 1, none⟩ (.int .i64 (valN x))) B Bt sb n1 (s.put (.thing j) x) xv xt xp := by
  obtain ⟨g', cap', cs, hv', hg, hgs, hh, -⟩ := h.trow (by omega)
  rw [hv] at hv'
  cases hv'
  have hk1 := kept_setCell (i := j * 2) hh (.string (valK x))
  have hh1 := set_block _ _ (j * 2) _ _ _ hh (.string (valK x))
  have hk2 := kept_setCell (i := j * 2 + 1) hh1 (.int .i64 (valN x))
  have hnv : ∀ q, xv.ownBlock = some q → q ≠ g := fun q hq => by have := h.rvb q hq; omega
  have hl : (s.put (.thing j) x).things.length = s.things.length := put_things
  refine ⟨h.low, h.hBt, by simpa using h.hBw, hk2 _ _ _ _ (hk1 _ _ _ _ h.blk (by decide)) (by decide), ?_, h.rvb, ?_, ?_, ?_, h.ls⟩
  · exact owns_set_other (owns_set_other h.rv hnv _ _) hnv _ _
  · rw [hl]
    have h0 := h.rt
    rw [hv] at h0 ⊢
    have := owns_set (owns_set h0 (j * 2) (.string (valK x))) (j * 2 + 1) (.int .i64 (valN x))
    rw [vcells_set] at this
    exact this
  · exact owns_kept (owns_kept h.rp hk1 (by decide)) hk2 (by decide)
  · rw [hl]; exact h.lp
/-- A thing more. -/
theorem RSt.addT (h : RSt w B Bt sb n1 s xv xt xp) (k : Int) (hl : s.things.length ≤ 1000000) :
    ∃ v' w2, (Builtin.append_ #[53, 53] 53 #[xt, .slice (some ⟨w.heap.size, 0, none⟩) 1 1]).run Tryd.prog (w.alloc (.cells #[.string ⟨#[110, 111, 110, 101]⟩, .int .i64 0] TRV)) = .ok v' w2 ∧ w2.cell? ⟨sb, 1, none⟩ = some xt ∧ w2.frozen? ⟨sb, 1, none⟩ = false ∧ (∃ a n c, v' = .slice a n c) ∧
      ∃ v2' w3, (Builtin.append_ #[27, 27] 27 #[xp, .slice (some ⟨(w2.setCell ⟨sb, 1, none⟩ v').heap.size, 0, none⟩) 1 1]).run Tryd.prog ((w2.setCell ⟨sb, 1, none⟩ v').alloc (.cells #[.int .i64 k] 3)) = .ok v2' w3 ∧ (w2.setCell ⟨sb, 1, none⟩ v').cell? ⟨sb, 2, none⟩ = some xp ∧ w3.cell? ⟨sb, 2, none⟩ = some xp ∧ w3.frozen? ⟨sb, 2, none⟩ = false ∧ (∃ a n c, v2' = .slice a n c) ∧
        RSt (w3.setCell ⟨sb, 2, none⟩ v2') B Bt sb n1 (addT s k) xv v' v2' ∧ Below B w (w3.setCell ⟨sb, 2, none⟩ v2') := by
  obtain ⟨v', w2, hr, ho, hb2, hk2⟩ := append_one w Bt xt s.things.length 2 24 53 TRV (.agg #[.string ⟨#[]⟩, .int .i64 0]) (vcells s.things) (valCells none) h.rt h.hBw Tryd.underlying53 Tryd.infoRV (by decide) rfl rfl (fun x hx => by
    simp only [valCells, List.mem_cons, List.not_mem_nil, or_false] at hx
    rcases hx with rfl | rfl <;> rfl) hl 53 (by decide)
  have hm2 : w2.heap[sb]? = some (.cells #[xv, xt, xp] 55 (0, 0)) := hk2 _ _ _ _ h.blk (by decide)
  have hset := kept_setCell (i := 1) hm2 v'
  obtain ⟨wm, hwm⟩ : ∃ wm, wm = w2.setCell ⟨sb, 1, none⟩ v' := ⟨_, rfl⟩
  rw [← hwm] at hset
  have hmm : wm.heap[sb]? = some (.cells #[xv, v', xp] 55 (0, 0)) := by rw [hwm, set_block _ _ _ _ _ _ hm2]; rfl
  have hszm : wm.heap.size = w2.heap.size := by rw [hwm]; simp
  have hb2' : Below B w wm := by rw [hwm]; exact (hb2.mono h.hBt).setCell h.low _
  have hpm : wm.ownsRow Bt 3 1 xp s.places.length (s.places.map intV) := owns_kept (owns_kept h.rp hk2 (by decide)) hset (by decide)
  have htm : wm.ownsRow Bt TRV 2 v' (s.things.length + 1) (vcells s.things ++ valCells none) := owns_kept ho hset (by decide)
  have hvm : wm.ownsRow B TRV 2 xv n1 (vcells s.vars) := owns_kept (owns_low h.rv h.rvb hb2) hset (by decide)
  have hBm : Bt ≤ wm.heap.size := by rw [hszm]; exact Nat.le_trans h.hBw hb2.size
  obtain ⟨v2', w3, hr3, ho3, hb3, hk3⟩ := append_one wm Bt xp s.places.length 1 8 27 3 (.int .i64 0) (s.places.map intV) [intV k] hpm hBm Tryd.underlying27 Tryd.infoInt (by decide) rfl rfl (fun x hx => by rw [List.mem_singleton.1 hx]; rfl) (by rw [h.lp]; exact hl) 27 (by decide)
  have hm3 : w3.heap[sb]? = some (.cells #[xv, v', xp] 55 (0, 0)) := hk3 _ _ _ _ hmm (by decide)
  have hset3 := kept_setCell (i := 2) hm3 v2'
  refine ⟨v', w2, hr, by rw [Lib.cell_of_heap hm2]; rfl, Lib.frozen_of_heap hm2 1, by obtain ⟨_, _, e⟩ := owns_form ho; exact ⟨_, _, _, e⟩, v2', w3, by rw [← hwm]; exact hr3, by rw [← hwm, Lib.cell_of_heap hmm]; rfl, by rw [Lib.cell_of_heap hm3]; rfl, Lib.frozen_of_heap hm3 2, by obtain ⟨_, _, e⟩ := owns_form ho3; exact ⟨_, _, _, e⟩, ?_, ?_⟩
  · have hlen : (Go.Proofs.YtdbcjeccmjpbiabDoor.addT s k).things.length = s.things.length + 1 := by simp [Go.Proofs.YtdbcjeccmjpbiabDoor.addT]
    refine ⟨h.low, h.hBt, ?_, by rw [set_block _ _ _ _ _ _ hm3]; rfl, ?_, h.rvb, ?_, ?_, ?_, h.ls⟩
    · simpa using Nat.le_trans hBm hb3.size
    · exact owns_kept (owns_low hvm h.rvb hb3) hset3 (by decide)
    · rw [hlen]
      have := owns_kept (owns_kept htm hk3 (by decide)) hset3 (by decide)
      rw [← vcells_snoc] at this
      exact this
    · have := owns_kept ho3 hset3 (by decide)
      simpa [Go.Proofs.YtdbcjeccmjpbiabDoor.addT] using this
    · simp [Go.Proofs.YtdbcjeccmjpbiabDoor.addT, h.lp]
  · exact hb2'.trans ((hb3.mono h.hBt).setCell h.low _)
end
end Go.Proofs.YtdbcjeccmjpbiabDoor

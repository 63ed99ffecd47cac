/-
  Package cons: rows of edges; slices.IndexFunc and slices.DeleteFunc at edges, by contracts.
-/
import Derived.Test.YtglonlpfnllocaaGreatDoorCAM
import Derived.Test.YtglonlpfnllocaaGreatDoorPZ8M
import Derived.Lib.SliceRun
import Derived.Test.YtglonlpfnllocaaGreatDoorShelfS
import Derived.Shelf.SlSortCmp.WholeK
import Derived.Deep.RegionHeld3
import Derived.Shelf.SlicesE.Equal
import Derived.Laws.StructEq
import Derived.BigQuiet
import Derived.Shelf.SlSortCmp.NoneTotal
import Derived.Test.YtglonlpfnllocaaGreatDoorCRM
import Derived.Test.YtglonlpfnllocaaGreatDoorXSM
namespace Go.Proofs.YtglonlpfnllocaaGreatDoor
open Go.RowKit Go.Extern.Stop Go.Stop Go.Extern

/-- A row of edges that may be written. -/
structure RowE (w : World) (g : Nat) (xs : List Pair) : Prop where
  pos : ∀ j, j < xs.length * 2 → w.cell? ⟨g, j, none⟩ = (ecells xs)[j]? ∧ w.frozen? ⟨g, j, none⟩ = false
theorem frozen_set (w : World) (p q : Addr) (x : Value) : (w.setCell p x).frozen? q = w.frozen? q := by
  unfold World.frozen? World.setCell
  simp only [Array.getElem?_modify]
  by_cases e : p.block = q.block
  · rw [if_pos e]
    cases w.heap[q.block]? with
    | none => rfl
    | some o => cases o <;> rfl
  · rw [if_neg e]
abbrev setE (w : World) (g i : Nat) (p : Pair) : World := (w.setCell ⟨g, i * 2, none⟩ (.int .i64 p.1)).setCell ⟨g, i * 2 + 1, none⟩ (.int .i64 p.2)
theorem RowE.lt {w : World} {g : Nat} {xs : List Pair} (h : RowE w g xs) (hx : 0 < xs.length) : g < w.heap.size := by
  have := (h.pos 0 (by omega)).1
  have h0 := (ecells_at xs 0 hx).1
  rw [Nat.zero_mul] at h0
  rw [h0] at this
  exact lt_of_cell this
theorem RowE.pair {w : World} {g : Nat} {xs : List Pair} (h : RowE w g xs) (j : Nat) (hj : j < xs.length) : w.cell? ⟨g, j * 2, none⟩ = some (.int .i64 (xs.getD j default).1) ∧ w.cell? ⟨g, j * 2 + 1, none⟩ = some (.int .i64 (xs.getD j default).2) ∧ w.frozen? ⟨g, j * 2, none⟩ = false ∧ w.frozen? ⟨g, j * 2 + 1, none⟩ = false := by
  obtain ⟨h1, h2⟩ := h.pos (j * 2) (by omega)
  obtain ⟨h3, h4⟩ := h.pos (j * 2 + 1) (by omega)
  obtain ⟨e1, e2⟩ := ecells_at xs j hj
  exact ⟨by rw [h1, e1], by rw [h3, e2], h2, h4⟩
theorem RowE.below {w w' : World} {g : Nat} {xs : List Pair} (h : RowE w g xs) (hb : Below w.heap.size w w') : RowE w' g xs := by
  refine ⟨fun j hj => ?_⟩
  obtain ⟨h1, h2⟩ := h.pos j hj
  have hl : j < (ecells xs).length := by rw [ecells_len]; exact hj
  rw [List.getElem?_eq_getElem hl] at h1 ⊢
  have hg := lt_of_cell h1
  refine ⟨cell_keep hb h1, ?_⟩
  rw [← h2]
  unfold World.frozen?
  rw [hb.block g hg]
theorem RowE.drewN {w : World} {g : Nat} {xs : List Pair} (h : RowE w g xs) (n : Nat) : RowE (w.drewN n) g xs := ⟨h.pos⟩
theorem RowE.set {w : World} {g : Nat} {xs : List Pair} (h : RowE w g xs) (i : Nat) (hi : i < xs.length) (p : Pair) : RowE (setE w g i p) g (xs.set i p) := by
  refine ⟨fun j hj => ?_⟩
  rw [List.length_set] at hj
  obtain ⟨h1, h2⟩ := h.pos j hj
  refine ⟨?_, by rw [frozen_set, frozen_set]; exact h2⟩
  rw [← ecells_set]
  obtain ⟨e1, e2⟩ := h.pair i hi
  by_cases q1 : j = i * 2 + 1
  · subst q1
    have hc : (w.setCell ⟨g, i * 2, none⟩ (.int .i64 p.1)).cell? ⟨g, i * 2 + 1, none⟩ = some (.int .i64 (xs.getD i default).2) := by
      rw [World.cell?_setCell_other _ _ _ _ (fun e => by injection e; omega)]; exact e2.1
    rw [World.cell?_setCell_same _ _ _ hc, List.getElem?_set_self (by rw [List.length_set, ecells_len]; exact hj)]
  · rw [World.cell?_setCell_other _ _ _ _ (fun e => by injection e; omega), List.getElem?_set_ne (by omega)]
    by_cases q2 : j = i * 2
    · subst q2
      rw [World.cell?_setCell_same _ _ _ e1, List.getElem?_set_self (by rw [ecells_len]; exact hj)]
    · rw [World.cell?_setCell_other _ _ _ _ (fun e => by injection e; omega), List.getElem?_set_ne (by omega)]
      exact h1
theorem ecells_append (xs ys : List Pair) : ecells (xs ++ ys) = ecells xs ++ ecells ys := by unfold ecells; simp
theorem RowE.take {w : World} {g : Nat} {xs : List Pair} (h : RowE w g xs) (k : Nat) : RowE w g (xs.take k) := by
  refine ⟨fun j hj => ?_⟩
  have hl : (xs.take k).length ≤ xs.length := by simp; omega
  obtain ⟨h1, h2⟩ := h.pos j (by omega)
  refine ⟨?_, h2⟩
  have : ecells xs = ecells (xs.take k) ++ ecells (xs.drop k) := by rw [← ecells_append, List.take_append_drop]
  rw [h1, this, List.getElem?_append_left (by rw [ecells_len]; exact hj)]
/-- Cells behind a row are written. -/
theorem RowE.setCells {w : World} {g : Nat} {xs : List Pair} (h : RowE w g xs) (vs : List Value) : ∀ o, xs.length * 2 ≤ o → RowE (w.setCells g o vs) g xs := by
  induction vs generalizing w with
  | nil => intro o _; exact h
  | cons v r ih =>
    intro o ho
    have h1 : RowE (w.setCell ⟨g, o, none⟩ v) g xs := ⟨fun j hj => by
      obtain ⟨h1, h2⟩ := h.pos j hj
      refine ⟨?_, by rw [frozen_set]; exact h2⟩
      rw [World.cell?_setCell_other _ _ _ _ (fun e => by injection e; omega)]
      exact h1⟩
    exact ih h1 (o + 1) (by omega)
theorem below_setCells {B : Nat} {w0 w : World} {g : Nat} (h : Below B w0 w) (hg : B ≤ g) (vs : List Value) : ∀ o, Below B w0 (w.setCells g o vs) := by
  induction vs generalizing w with
  | nil => intro o; exact h
  | cons v r ih => intro o; exact ih (h.setCell hg _) (o + 1)
theorem RowE.of_owns {w : World} {B : Nat} {u : Value} {es : List Pair} (h : w.ownsRow B TE 2 u es.length (ecells es)) (hn : 0 < es.length) : ∃ g cap, u = .slice (some ⟨g, 0, none⟩) es.length cap ∧ es.length ≤ cap ∧ B ≤ g ∧ RowE w g es := by
  rcases h.2 with ⟨q, e⟩ | ⟨g, cap, cur, hv, hg, hh, hcap, hmax, hsz, hcur⟩
  · omega
  · refine ⟨g, cap, hv, hcap, hg, ⟨fun j hj => ⟨?_, Lib.frozen_of_heap hh j⟩⟩⟩
    rw [Lib.cell_of_heap hh, ← hcur, List.getElem?_take_of_lt hj]
    simp

def selfB (p : Pair) : Bool := p.1 == p.2
theorem tidy1_any (p : Pair) (w : World) : Calls Tryz.prog 144 #[.agg #[.int .i64 p.1, .int .i64 p.2]] w fun e w' => e = .returned (.bool (selfB p)) ∧ Below w.heap.size w w' := by
  obtain ⟨D, hD⟩ : ∃ D, D = selfB p := ⟨_, rfl⟩
  have hd : (p.1 == p.2) = D := hD.symm
  rw [← hD]
  clear hD
  go_enter Tryz.func144, Tryz.ntmps144
  go_wp2_with fail
  go_ret
  exact ⟨by first | rfl | (rw [← hd]; rfl), below1 w _⟩

set_option maxHeartbeats 4000000 in
theorem indexE_any (es : List Pair) (w : World) (g cap : Nat) (hn : es.length ≤ 1000000) (h : RowE w g es) :
    Calls Tryz.prog 156 #[.slice (some ⟨g, 0, none⟩) es.length cap, .func (.func 144) #[] #[]] w fun e w' => ((e = .returned (.int .i64 (-1)) ∧ ∀ j, j < es.length → selfB (es.getD j default) = false) ∨ ∃ k : Nat, k < es.length ∧ e = .returned (.int .i64 (k : Int)) ∧ selfB (es.getD k default) = true ∧ ∀ j, j < k → selfB (es.getD j default) = false) ∧ Below w.heap.size w w' := by
  have H : Hid (RowE w g es) := h
  obtain ⟨n, hnn⟩ : ∃ n, n = es.length := ⟨_, rfl⟩
  rw [← hnn] at hn ⊢
  have HN : Hid (n = es.length) := hnn
  clear h hnn
  go_enter Tryz.func156, Tryz.ntmps156
  go_wp2_with fail
  go_loopw [8] (fun t wr => ∃ k : Nat, k ≤ n ∧ t = .int .i64 k ∧ (∀ j, j < k → selfB (es.getD j default) = false) ∧ Below w.heap.size w wr) (fun t _ => (n - intOf t).toNat)
  case atStart => exact ⟨0, Nat.zero_le _, rfl, fun j hj => absurd hj (Nat.not_lt_zero _), Below.refl _ _⟩
  case round =>
    obtain ⟨k, hk, rfl, hall, hwr⟩ := hrel
    by_cases hlt : k < n
    · obtain ⟨e0, e1, -, -⟩ := (H.out.below hwr).pair k (by rw [← HN.out]; exact hlt)
      have hki : (k : Int) < n := by omega
      have HK : Hid (Calls Tryz.prog 144 #[.agg #[.int .i64 (es.getD k default).1, .int .i64 (es.getD k default).2]] wr fun e w' => e = .returned (.bool (selfB (es.getD k default))) ∧ Below wr.heap.size wr w') := tidy1_any _ wr
      obtain ⟨x, hx⟩ : ∃ x, x = (es.getD k default).1 := ⟨_, rfl⟩
      obtain ⟨y, hy⟩ : ∃ y, y = (es.getD k default).2 := ⟨_, rfl⟩
      rw [← hx] at e0 HK
      rw [← hy] at e1 HK
      have HA : Hid (∀ j, j < k → selfB (es.getD j default) = false) := hall
      obtain ⟨D, hD⟩ : ∃ D, D = selfB (es.getD k default) := ⟨_, rfl⟩
      rw [← hD] at HK
      have HD : Hid (D = selfB (es.getD k default)) := hD
      clear hx hy hall hD
      go_wp2_with fail
      refine HK.out.mono ?_
      rintro e w2 ⟨rfl, hB2⟩
      cases D with
      | true =>
        go_wp2_with fail
        go_ret
        exact ⟨Or.inr ⟨k, hlt, rfl, HD.out.symm, HA.out⟩, hwr.trans (hB2.mono hwr.size)⟩
      | false =>
        go_wp2_with fail
        go_roundw
        case rel =>
          refine ⟨k + 1, hlt, by go_num, fun j hj => ?_, hwr.trans (hB2.mono hwr.size)⟩
          by_cases e : j = k
          · rw [e]; exact HD.out.symm
          · exact HA.out j (by omega)
        case measure => simp [intOf]; omega
    · have hkn : k = n := by omega
      subst hkn
      have HA : Hid (∀ j, j < k → selfB (es.getD j default) = false) := hall
      clear hall
      go_wp2_with fail
      go_ret
      exact ⟨Or.inl ⟨rfl, HA.out⟩, hwr⟩
end Go.Proofs.YtglonlpfnllocaaGreatDoor

/-
  Package cons: slices.DeleteFunc at edges, by a contract.
-/
namespace Go.Proofs.YtglonlpfnllocaaGreatDoor
open Go.RowKit Go.Extern.Stop Go.Stop Go.Extern

/-- 'clear' of a slice of edges. -/
theorem run_clearE (w : World) (ty : TypeId) (b o n c : Nat) (hn : 0 < n) (hc : ∀ j, j < n * 2 → (w.cell? ⟨b, o + j, none⟩).isSome = true) (hf : ∀ j, j < n * 2 → w.frozen? ⟨b, o + j, none⟩ = false) :
    (Builtin.clear_ #[TSE] ty #[.slice (some ⟨b, o, none⟩) n c]).run Tryz.prog w = .ok (.tuple #[]) (w.setCells b o (List.replicate (n * 2) (.int .i64 0))) := by
  have hzc : (Builtin.zeroCells (Value.agg #[.int .i64 0, .int .i64 0]).cells n).toList = List.replicate (n * 2) (.int .i64 0) := by
    have hz : (Value.agg #[.int .i64 0, .int .i64 0]).cells = #[.int .i64 0, .int .i64 0] := by rfl
    rw [hz]
    simp only [Builtin.zeroCells, Array.toList_map, Array.toList_range]
    apply List.ext_getElem
    · simp
    · intro i h1 h2
      simp only [List.getElem_map, List.getElem_replicate]
      have h : i % 2 = 0 ∨ i % 2 = 1 := by omega
      rcases h with h | h <;> simp [h]
  have hst := run_storeCells_cells (P := Tryz.prog) b o (List.replicate (n * 2) (.int .i64 0)) 0 w (by simpa using hc) (by simpa using hf) (by intro v hv'; rw [List.eq_of_mem_replicate hv']; rfl)
  simp only [Nat.add_zero] at hst
  obtain ⟨m, rfl⟩ : ∃ m, n = m + 1 := ⟨n - 1, by omega⟩
  simp [Builtin.clear_, run_underlying Tryz.underlying105, Tryz.zeroValue139, hzc, hst]

def keepE (es : List Pair) : List Pair := es.filter fun p => !selfB p
theorem keepE_snoc (es : List Pair) (k : Nat) (h : k < es.length) : keepE (es.take (k + 1)) = keepE (es.take k) ++ (if selfB (es.getD k default) then [] else [es.getD k default]) := by
  unfold keepE
  rw [take_snoc es default k h, List.filter_append]
  congr 1
  by_cases e : selfB (es.getD k default) = true
  · rw [if_pos e, List.filter_cons_of_neg (by rw [e]; decide), List.filter_nil]
  · rw [if_neg e, List.filter_cons_of_pos (by simpa using e), List.filter_nil]
theorem keepE_all (es : List Pair) (h : ∀ j, j < es.length → selfB (es.getD j default) = false) : keepE es = es := by
  unfold keepE
  rw [List.filter_eq_self]
  intro p hp
  obtain ⟨j, hj, rfl⟩ := List.mem_iff_getElem.1 hp
  have := h j hj
  rw [show es.getD j default = es[j] by simp [List.getD, hj]] at this
  simp [this]
theorem keepE_len (es : List Pair) : (keepE es).length ≤ es.length := List.length_filter_le _ _
/-- How far slices.DeleteFunc has come: j were looked at, i stay. -/
structure DelI (es xs : List Pair) (i j : Nat) : Prop where
  len : xs.length = es.length
  le : j ≤ es.length
  got : xs.take i = keepE (es.take j)
  lt : i < j
  rest : ∀ l, j ≤ l → xs.getD l default = es.getD l default
theorem DelI.cnt {es xs : List Pair} {i j : Nat} (h : DelI es xs i j) : (keepE (es.take j)).length = i := by
  rw [← h.got, List.length_take, h.len]
  have := h.le; have := h.lt; omega
theorem DelI.skip {es xs : List Pair} {i j : Nat} (h : DelI es xs i j) (hj : j < es.length) (hs : selfB (es.getD j default) = true) : DelI es xs i (j + 1) :=
  ⟨h.len, hj, by rw [keepE_snoc es j hj, if_pos hs, List.append_nil]; exact h.got, by have := h.lt; omega, fun l hl => h.rest l (by omega)⟩
theorem take_set_last {α : Type} (xs : List α) (i : Nat) (x : α) (h : i < xs.length) : (xs.set i x).take (i + 1) = xs.take i ++ [x] := by
  rw [List.take_succ_eq_append_getElem (by simpa using h)]
  simp [List.take_set_of_le]
theorem getD_set_otherE {α : Type} (l : List α) (i j : Nat) (x d : α) (h : i ≠ j) : (l.set i x).getD j d = l.getD j d := by simp [List.getD, h]
theorem DelI.stay {es xs : List Pair} {i j : Nat} (h : DelI es xs i j) (hj : j < es.length) (hs : selfB (es.getD j default) = false) : DelI es (xs.set i (es.getD j default)) (i + 1) (j + 1) := by
  have hi : i < xs.length := by rw [h.len]; have := h.lt; omega
  refine ⟨by simpa using h.len, hj, ?_, by have := h.lt; omega, fun l hl => ?_⟩
  · rw [keepE_snoc es j hj, if_neg (by rw [hs]; decide), take_set_last _ _ _ hi, h.got]
  · rw [getD_set_otherE _ _ _ _ _ (by have := h.lt; omega)]
    exact h.rest l (by omega)

set_option maxRecDepth 100000 in
set_option maxHeartbeats 8000000 in
theorem deleteE_any (es : List Pair) (w : World) (B g cap : Nat) (hn : es.length ≤ 1000000) (hcap : es.length ≤ cap) (hB : B ≤ g) (hg : g < w.heap.size) (h : RowE w g es) :
    Calls Tryz.prog 143 #[.slice (some ⟨g, 0, none⟩) es.length cap, .func (.func 144) #[] #[]] w fun e w' => e = .returned (.slice (some ⟨g, 0, none⟩) (keepE es).length cap) ∧ RowE w' g (keepE es) ∧ Below B w w' := by
  have H : Hid (RowE w g es) := h
  obtain ⟨n, hnn⟩ : ∃ n, n = es.length := ⟨_, rfl⟩
  have KI := indexE_any es w g cap hn h
  rw [← hnn] at hn hcap KI ⊢
  have HK : Hid (Calls Tryz.prog 156 #[.slice (some ⟨g, 0, none⟩) n cap, .func (.func 144) #[] #[]] w fun e w' => ((e = .returned (.int .i64 (-1)) ∧ ∀ j, j < n → selfB (es.getD j default) = false) ∨ ∃ k : Nat, k < n ∧ e = .returned (.int .i64 (k : Int)) ∧ selfB (es.getD k default) = true ∧ ∀ j, j < k → selfB (es.getD j default) = false) ∧ Below w.heap.size w w') := KI
  have HN : Hid (n = es.length ∧ B ≤ g) := ⟨hnn, hB⟩
  have hBw : B ≤ w.heap.size := by omega
  clear h hnn KI hB
  go_enter Tryz.func143, Tryz.ntmps143
  go_wp2_with fail
  refine HK.out.mono ?_
  rintro e w1 ⟨hcase, hB1⟩
  have H1 : Hid (RowE w1 g es) := H.out.below hB1
  have HB1 : Hid (Below B w w1) := hB1.mono hBw
  have hg1 : g < w1.heap.size := Nat.lt_of_lt_of_le hg hB1.size
  clear HK hB1 H hg
  rcases hcase with ⟨rfl, hall⟩ | ⟨k0, hk0, rfl, hyes, hall⟩
  · have hk : keepE es = es := keepE_all es (by rw [← HN.out.1]; exact hall)
    have HX : Hid (keepE es = es) := hk
    clear hall hk
    go_wp2_with fail
    go_ret
    exact ⟨by rw [HX.out, ← HN.out.1]; first | done | rfl, by rw [HX.out]; exact H1.out, HB1.out⟩
  · have HI0 : Hid (DelI es es k0 (k0 + 1)) := by
      have hle : k0 < es.length := by rw [← HN.out.1]; exact hk0
      refine ⟨rfl, hle, ?_, Nat.lt_succ_self _, fun _ _ => rfl⟩
      rw [keepE_snoc es k0 hle, if_pos hyes, List.append_nil, keepE_all (es.take k0) (fun j hj => ?_)]
      rw [List.length_take] at hj
      have : (es.take k0).getD j default = es.getD j default := by simp only [List.getD]; rw [List.getElem?_take_of_lt (by omega)]
      rw [this]
      exact hall j (by omega)
    have hne : ((k0 : Int) == -1) = false := by simp
    clear hall hyes
    go_wp2_with fail
    try rw [hne]
    clear hne
    go_loopw [5, 6] (fun ti tj wr => ∃ (i j : Nat) (xs : List Pair), ti = .int .i64 i ∧ tj = .int .i64 j ∧ j ≤ n ∧ i < j ∧ DelI es xs i j ∧ RowE wr g xs ∧ Below B w wr ∧ g < wr.heap.size) (fun _ tj _ => (n - intOf tj).toNat)
    case atStart => exact ⟨k0, k0 + 1, es, rfl, by go_num, hk0, Nat.lt_succ_self _, HI0.out, H1.out, HB1.out, hg1⟩
    case round =>
      obtain ⟨i, j, xs, rfl, rfl, hj, hij, hI, hR, hwr, hgr⟩ := hrel
      have hxl : xs.length = n := by rw [hI.len, ← HN.out.1]
      have hBr : B ≤ wr.heap.size := Nat.le_trans HN.out.2 (Nat.le_of_lt hgr)
      by_cases hlt : j < n
      · obtain ⟨e0, e1, -, -⟩ := hR.pair j (by omega)
        rw [hI.rest j (Nat.le_refl _)] at e0 e1
        have hji : (j : Int) < n := by omega
        have hii : (i : Int) < n := by omega
        have hje : j < es.length := by rw [← HN.out.1]; exact hlt
        obtain ⟨p, hp⟩ : ∃ p, p = es.getD j default := ⟨_, rfl⟩
        rw [← hp] at e0 e1
        obtain ⟨x, hx⟩ : ∃ x, x = p.1 := ⟨_, rfl⟩
        obtain ⟨y, hy⟩ : ∃ y, y = p.2 := ⟨_, rfl⟩
        obtain ⟨D, hD⟩ : ∃ D, D = selfB p := ⟨_, rfl⟩
        obtain ⟨W2, hW2⟩ : ∃ W2, W2 = wr.alloc (.cells #[.int .i64 x, .int .i64 y] TE) := ⟨_, rfl⟩
        have HT : Hid (Calls Tryz.prog 144 #[.agg #[.int .i64 x, .int .i64 y]] W2 fun e w' => e = .returned (.bool D) ∧ Below W2.heap.size W2 w') := by
          have := tidy1_any p W2
          rw [← hx, ← hy, ← hD] at this
          exact this
        rw [← hx] at e0
        rw [← hy] at e1
        have hB2 : Below wr.heap.size wr W2 := by rw [hW2]; exact below1 wr _
        have hbx : W2.heap[wr.heap.size]? = some (.cells #[.int .i64 x, .int .i64 y] TE (0, 0)) := by rw [hW2]; exact heap_new wr _
        have HI : Hid (DelI es xs i j ∧ D = selfB (es.getD j default) ∧ x = (es.getD j default).1 ∧ y = (es.getD j default).2) := ⟨hI, by rw [hD, hp], by rw [hx, hp], by rw [hy, hp]⟩
        have HR2 : Hid (RowE W2 g xs ∧ Below B w W2) := ⟨hR.below hB2, hwr.trans (hB2.mono hBr)⟩
        have hg2 : g < W2.heap.size := Nat.lt_of_lt_of_le hgr hB2.size
        have hgn : g ≠ wr.heap.size := by omega
        clear hp hx hy hD hI hR
        go_upto_region 8 with fail
        rw [← hW2]
        clear hW2
        have b0 : W2.cell? ⟨wr.heap.size, 0, none⟩ = some (.int .i64 x) := by rw [Lib.cell_of_heap hbx]; rfl
        have b1 : W2.cell? ⟨wr.heap.size, 1, none⟩ = some (.int .i64 y) := by rw [Lib.cell_of_heap hbx]; rfl
        go_wp2_with fail
        refine HT.out.mono ?_
        rintro e w3 ⟨rfl, hB3⟩
        replace b0 := cell_keep hB3 b0
        replace b1 := cell_keep hB3 b1
        have HR3 : Hid (RowE w3 g xs ∧ Below B w w3) := ⟨HR2.out.1.below hB3, HR2.out.2.trans (hB3.mono (Nat.le_trans HN.out.2 (Nat.le_of_lt hg2)))⟩
        have hg3 : g < w3.heap.size := Nat.lt_of_lt_of_le hg2 hB3.size
        clear e0 e1 hB3 HR2 hbx
        cases D with
        | true =>
          go_wp2_with fail
          go_roundw
          case rel => exact ⟨i, j + 1, xs, rfl, by go_num, hlt, by omega, HI.out.1.skip hje HI.out.2.1.symm, HR3.out.1, HR3.out.2, hg3⟩
          case measure => simp [intOf]; omega
        | false =>
          obtain ⟨q0, q1, f0, f1⟩ := HR3.out.1.pair i (by rw [HI.out.1.len]; omega)
          obtain ⟨q0v, hq0⟩ : ∃ v, v = (xs.getD i default).1 := ⟨_, rfl⟩
          obtain ⟨q1v, hq1⟩ : ∃ v, v = (xs.getD i default).2 := ⟨_, rfl⟩
          rw [← hq0] at q0
          rw [← hq1] at q1
          clear hq0 hq1
          have HS : Hid (RowE (setE w3 g i (x, y)) g (xs.set i (es.getD j default)) ∧ Below B w (setE w3 g i (x, y)) ∧ DelI es (xs.set i (es.getD j default)) (i + 1) (j + 1)) := by
            refine ⟨?_, (HR3.out.2.setCell HN.out.2 _).setCell HN.out.2 _, HI.out.1.stay hje HI.out.2.1.symm⟩
            have := HR3.out.1.set i (by rw [HI.out.1.len]; omega) (es.getD j default)
            rw [HI.out.2.2.1, HI.out.2.2.2]
            exact this
          have hgs : g < (setE w3 g i (x, y)).heap.size := by simpa using hg3
          go_wp2_with fail
          go_roundw
          case rel => exact ⟨i + 1, j + 1, xs.set i (es.getD j default), by go_num, by go_num, hlt, by omega, HS.out.2.2, HS.out.1, HS.out.2.1, hgs⟩
          case measure => simp [intOf]; omega
      · have hjn : j = n := by omega
        subst hjn
        have hcnt := hI.cnt
        have htk : es.take j = es := List.take_of_length_le (by rw [← HN.out.1]; exact Nat.le_refl _)
        have hgot := hI.got
        rw [htk] at hcnt hgot
        have hcl := fun ty => run_clearE wr ty g (i * 2) (j - i) (cap - i) (by omega) (fun t ht => by rw [(hR.pos (i * 2 + t) (by omega)).1, List.getElem?_eq_getElem (by rw [ecells_len]; omega)]; rfl) (fun t ht => (hR.pos (i * 2 + t) (by omega)).2)
        have HE : Hid (RowE (wr.setCells g (i * 2) (List.replicate ((j - i) * 2) (.int .i64 0))) g (keepE es) ∧ Below B w (wr.setCells g (i * 2) (List.replicate ((j - i) * 2) (.int .i64 0))) ∧ (keepE es).length = i) := by
          refine ⟨?_, below_setCells hwr HN.out.2 _ _, hcnt⟩
          rw [← hgot]
          refine (hR.take i).setCells _ _ ?_
          rw [hgot, hcnt]; exact Nat.le_refl _
        have hic : i ≤ cap := by omega
        have hij2 : (i : Int) ≤ j := by omega
        have hijc : (j : Int) ≤ cap := by omega
        clear hcnt htk hgot hI hR
        go_wp2_with fail
        go_ret
        exact ⟨by rw [HE.out.2.2]; rfl, HE.out.1, HE.out.2.1⟩
end Go.Proofs.YtglonlpfnllocaaGreatDoor

/-
  Package cons: slices.SortFunc at edges, by a contract.
-/
namespace Go.Proofs.YtglonlpfnllocaaGreatDoor
open Go.RowKit Go.Extern.Stop Go.Stop Go.Extern Go.Sort

/-- Which of two edges is the lesser one. -/
def cfE (x y : Pair) : Int := if Lib.compareInt x.1 y.1 ≠ 0 then Lib.compareInt x.1 y.1 else Lib.compareInt x.2 y.2
def ltE (x y : Pair) : Prop := x.1 < y.1 ∨ (x.1 = y.1 ∧ x.2 < y.2)
theorem ltOf_cfE (x y : Pair) : ltOf cfE x y = true ↔ ltE x y := by
  unfold ltOf cfE ltE Lib.compareInt
  by_cases h1 : x.1 < y.1
  · simp [h1]
  · by_cases h2 : y.1 < x.1
    · have : ¬ x.1 = y.1 := by omega
      simp [h1, h2, this]
    · have h3 : x.1 = y.1 := by omega
      by_cases h4 : x.2 < y.2
      · simp [h3, h4]
      · by_cases h5 : y.2 < x.2 <;> simp [h3, h4, h5]
theorem ltOf_false (x y : Pair) : ltOf cfE x y = false ↔ ¬ ltE x y := by
  rw [← ltOf_cfE]; simp
theorem swoE : SWO (ltOf cfE) where
  irrefl x := by rw [ltOf_false]; unfold ltE; omega
  trans x y z h1 h2 := by rw [ltOf_cfE] at *; unfold ltE at *; omega
  ntrans x y z h1 h2 := by rw [ltOf_false] at *; unfold ltE at *; omega

set_option maxHeartbeats 2000000 in
theorem orInt_any (w : World) (b c : Nat) (x y : Int) (e0 : w.cell? ⟨b, 0, none⟩ = some (.int .i64 x)) (e1 : w.cell? ⟨b, 1, none⟩ = some (.int .i64 y)) :
    Calls Tryz.prog 147 #[.slice (some ⟨b, 0, none⟩) 2 c] w fun e w' => e = .returned (.int .i64 (if x ≠ 0 then x else y)) ∧ w' = w := by
  obtain ⟨R, hR⟩ : ∃ R, R = (if x ≠ 0 then x else y) := ⟨_, rfl⟩
  have HR : Hid (R = (if x ≠ 0 then x else y)) := hR
  rw [← hR]
  clear hR
  go_enter Tryz.func147, Tryz.ntmps147
  go_wp2_with fail
  go_loopw [8] (fun t wr => ∃ k : Nat, k ≤ 2 ∧ t = .int .i64 k ∧ (1 ≤ k → x = 0) ∧ (2 ≤ k → y = 0) ∧ wr = w) (fun t _ => (2 - intOf t).toNat)
  case atStart => exact ⟨0, by omega, rfl, by omega, by omega, rfl⟩
  case round =>
    obtain ⟨k, hk, rfl, h1, h2, hwr⟩ := hrel
    obtain rfl := hwr.symm
    have hc : k = 0 ∨ k = 1 ∨ k = 2 := by omega
    rcases hc with rfl | rfl | rfl
    · by_cases hx : x = 0
      · have HX : Hid (x = 0) := hx
        clear h1 h2
        go_wp2_with fail
        go_roundw
        case rel => refine ⟨1, by omega, by go_num, fun _ => HX.out, by omega, ?_⟩; first | rfl | trivial
        case measure => simp [intOf]
      · have hX : Hid (R = x) := by show R = _; rw [HR.out, if_pos hx]
        clear h1 h2
        go_wp2_with fail
        go_ret
        exact ⟨by rw [hX.out]; first | done | rfl, rfl⟩
    · have hx := h1 (by omega)
      by_cases hy : y = 0
      · have HX : Hid (x = 0 ∧ y = 0) := ⟨hx, hy⟩
        clear h1 h2 hx
        go_wp2_with fail
        go_roundw
        case rel => refine ⟨2, by omega, by go_num, fun _ => HX.out.1, fun _ => HX.out.2, ?_⟩; first | rfl | trivial
        case measure => simp [intOf]
      · have hX : Hid (R = y) := by show R = _; rw [HR.out, if_neg (by rw [hx]; simp)]
        clear h1 h2 hx
        go_wp2_with fail
        go_ret
        exact ⟨by rw [hX.out]; first | done | rfl, rfl⟩
    · have hX : Hid (R = 0) := by show R = _; rw [HR.out, h1 (by omega), h2 (by omega)]; simp
      clear h1 h2
      go_wp2_with fail
      go_ret
      exact ⟨by rw [hX.out]; first | done | rfl, rfl⟩

theorem keep4c {w0 w : World} {p0 p1 p2 p3 : Addr} {v0 v1 v2 v3 : Value} (k0 : w0.cell? p0 = some v0) (k1 : w0.cell? p1 = some v1) (k2 : w0.cell? p2 = some v2) (k3 : w0.cell? p3 = some v3) (hb : Below w0.heap.size w0 w) : w.cell? p0 = some v0 ∧ w.cell? p1 = some v1 ∧ w.cell? p2 = some v2 ∧ w.cell? p3 = some v3 :=
  ⟨cell_keep hb k0, cell_keep hb k1, cell_keep hb k2, cell_keep hb k3⟩
theorem below_alC {w0 w : World} (h : Below w0.heap.size w0 w) (o : Obj) : Below w0.heap.size w0 (w.alloc o) := h.alloc h.size o
theorem grow3 (W : World) (a b c : Obj) : (((W.alloc a).alloc b).alloc c).drew = grow (W.drewN 1) #[a, b, c] := by
  rw [alloc_eq_grow, alloc_eq_grow, alloc_eq_grow, grow_grow, grow_grow]; rfl
set_option maxRecDepth 100000 in
set_option maxHeartbeats 4000000 in
theorem tidy2_any (x y : Pair) (W : World) : Calls Tryz.prog 146 #[.agg #[.int .i64 x.1, .int .i64 x.2], .agg #[.int .i64 y.1, .int .i64 y.2]] W fun e w' => e = .returned (.int .i64 (cfE x y)) ∧ ∃ q os', w' = grow (W.drewN q) os' := by
  obtain ⟨x1, hx1⟩ : ∃ z, z = x.1 := ⟨_, rfl⟩
  obtain ⟨x2, hx2⟩ : ∃ z, z = x.2 := ⟨_, rfl⟩
  obtain ⟨y1, hy1⟩ : ∃ z, z = y.1 := ⟨_, rfl⟩
  obtain ⟨y2, hy2⟩ : ∃ z, z = y.2 := ⟨_, rfl⟩
  obtain ⟨F, hF⟩ : ∃ F : Int → Int → Int, F = Lib.compareInt := ⟨_, rfl⟩
  have HR : Hid (cfE x y = (if F x1 y1 ≠ 0 then F x1 y1 else F x2 y2)) := by show _ = _; unfold cfE; rw [hF, hx1, hx2, hy1, hy2]
  have HC : Hid (∀ wx p q, Calls Tryz.prog 148 #[.int .i64 p, .int .i64 q] wx fun e w' => e = .returned (.int .i64 (F p q)) ∧ w' = wx) := fun wx p q => by rw [hF]; exact Tryz.cmp_Compare_int p q wx
  rw [← hx1, ← hx2, ← hy1, ← hy2]
  clear hx1 hx2 hy1 hy2 hF
  obtain ⟨W2, hW2⟩ : ∃ W2, W2 = (W.alloc (.cells #[.int .i64 x1, .int .i64 x2] TE)).alloc (.cells #[.int .i64 y1, .int .i64 y2] TE) := ⟨_, rfl⟩
  have a0 : W2.cell? ⟨W.heap.size, 0, none⟩ = some (.int .i64 x1) := by rw [hW2]; exact cell_keep (below1 _ _) (by simp)
  have a1 : W2.cell? ⟨W.heap.size, 1, none⟩ = some (.int .i64 x2) := by rw [hW2]; exact cell_keep (below1 _ _) (by simp)
  have b0 : W2.cell? ⟨W.heap.size + 1, 0, none⟩ = some (.int .i64 y1) := by rw [hW2]; exact new_cell _ _ _ _ _ _ (by simp) rfl
  have b1 : W2.cell? ⟨W.heap.size + 1, 1, none⟩ = some (.int .i64 y2) := by rw [hW2]; exact new_cell _ _ _ _ _ _ (by simp) rfl
  have HO : Hid (∀ wx : World, Calls Tryz.prog 147 #[.slice (some ⟨wx.heap.size, 0, none⟩) 2 2] (wx.alloc (.cells #[.int .i64 (F x1 y1), .int .i64 (F x2 y2)] 3)) fun e w' => e = .returned (.int .i64 (if F x1 y1 ≠ 0 then F x1 y1 else F x2 y2)) ∧ w' = wx.alloc (.cells #[.int .i64 (F x1 y1), .int .i64 (F x2 y2)] 3)) := fun wx => orInt_any _ wx.heap.size 2 (F x1 y1) (F x2 y2) (by simp) (by simp)
  obtain ⟨R, hR⟩ : ∃ R, R = (if F x1 y1 ≠ 0 then F x1 y1 else F x2 y2) := ⟨_, rfl⟩
  rw [← hR] at HR HO
  rw [HR.out]
  clear hR
  go_enter Tryz.func146, Tryz.ntmps146
  go_upto_region 1 with fail
  rw [← hW2]
  have HW2 : Hid (W2 = (W.alloc (.cells #[.int .i64 x1, .int .i64 x2] TE)).alloc (.cells #[.int .i64 y1, .int .i64 y2] TE)) := hW2
  clear hW2
  go_region_held3 (fun wx => wx.cell? ⟨W.heap.size, 0, none⟩ = some (.int .i64 x1) ∧ wx.cell? ⟨W.heap.size, 1, none⟩ = some (.int .i64 x2) ∧ wx.cell? ⟨W.heap.size + 1, 0, none⟩ = some (.int .i64 y1) ∧ wx.cell? ⟨W.heap.size + 1, 1, none⟩ = some (.int .i64 y2))
    ((go_split_ands; refine keep4c a0 a1 b0 b1 ?_; repeat (with_reducible first | assumption | exact Below.refl _ _ | refine Below.drew ?_ | refine below_alC ?_ _)))
    (first
      | (go_at_call 148; refine (HC.out _ _ _).mono ?_; rintro e wq ⟨rfl, hwq⟩; obtain rfl := hwq.symm; clear hwq)
      | (go_at_call 147; first
          | (refine (HO.out W2.drew).mono ?_; rintro e wq ⟨rfl, hwq⟩; obtain rfl := hwq.symm; clear hwq)
          | (refine (HO.out W2).mono ?_; rintro e wq ⟨rfl, hwq⟩; obtain rfl := hwq.symm; clear hwq)))
  go_wp2_with fail
  go_ret
  refine ⟨rfl, 1, #[.cells #[.int .i64 x1, .int .i64 x2] TE, .cells #[.int .i64 y1, .int .i64 y2] TE, .cells #[.int .i64 (F x1 y1), .int .i64 (F x2 y2)] 3], ?_⟩
  rw [HW2.out]
  exact grow3 W _ _ _

abbrev encE (x : Pair) : List Value := pairCells x
theorem toArray_at (es : List Pair) (q : Nat) (h : q < es.length) : (es.toArray)[q]! = es.getD q default := by
  rw [getElem!_pos es.toArray q (by simpa using h)]
  simp [List.getD, h]
theorem ecells_flat (es : List Pair) (t : Nat) (h : t < es.length * 2) : (ecells es)[t]? = some ((flatK encE 2 es.toArray)[t]!) := by
  rw [get_flatK _ _ _ _ (by simpa using h)]
  obtain ⟨q, hq⟩ : ∃ q, t = q * 2 ∨ t = q * 2 + 1 := ⟨t / 2, by omega⟩
  rcases hq with rfl | rfl
  · have hq : q < es.length := by omega
    rw [show q * 2 / 2 = q by omega, show q * 2 % 2 = 0 by omega, toArray_at es q hq]
    exact (ecells_at es q hq).1
  · have hq : q < es.length := by omega
    rw [show (q * 2 + 1) / 2 = q by omega, show (q * 2 + 1) % 2 = 1 by omega, toArray_at es q hq]
    exact (ecells_at es q hq).2
theorem RowE.holdsK {w : World} {g : Nat} {es : List Pair} (h : RowE w g es) : HoldsK encE 2 w g 0 es.toArray := by
  intro j hj
  rw [size_flatK] at hj
  have hj' : j < es.length * 2 := by simpa using hj
  obtain ⟨h1, h2⟩ := h.pos j hj'
  rw [Nat.zero_add]
  refine ⟨?_, h2⟩
  rw [h1, ecells_flat es j hj']
  rfl
theorem RowE.of_holdsK {w : World} {g : Nat} {d : Array Pair} (h : HoldsK encE 2 w g 0 d) : RowE w g d.toList := by
  refine ⟨fun j hj => ?_⟩
  have hj' : j < d.toList.length * 2 := hj
  obtain ⟨h1, h2⟩ := h j (by rw [size_flatK]; simpa using hj)
  rw [Nat.zero_add] at h1 h2
  refine ⟨?_, h2⟩
  rw [h1, ecells_flat d.toList j hj']
  simp
def SortedE (es : List Pair) : Prop := ∀ i j, i < j → j < es.length → ¬ ltE (es.getD j default) (es.getD i default)
set_option maxHeartbeats 1000000 in
theorem sortE_any (es : List Pair) (w : World) (B g cap : Nat) (hn : es.length ≤ 1000000) (hB : B ≤ g) (hg : g < w.heap.size) (h : RowE w g es) :
    Calls Tryz.prog 145 #[.slice (some ⟨g, 0, none⟩) es.length cap, .func (.func 146) #[] #[]] w fun e w' => e = .returned (.tuple #[]) ∧ ∃ es', es'.Perm es ∧ SortedE es' ∧ RowE w' g es' ∧ Below B w w' ∧ w.heap.size ≤ w'.heap.size := by
  have eg : ∀ args w, (callFunc 146 args).run Tryz.prog w = .ok (.enter 146 args) w := enters_of Tryz.func146 (by kernel_rfl) rfl
  have hcon := AnyQ.slices_SortFunc Tryz.sortE 2 Tryz.isAgg139 Tryz.sizeOf139 encE (fun _ => rfl) (fun x v hv => by simp [pairCells] at hv; rcases hv with rfl | rfl <;> rfl) cfE swoE 146 #[] g 0 cap es.toArray w eg (fun m os dk _ x y => tidy2_any x y _) h.holdsK hg (by simp; omega)
  have hsz : es.toArray.size = es.length := by simp
  rw [hsz] at hcon
  change Calls Tryz.prog 145 _ _ _ at hcon
  refine hcon.mono ?_
  rintro e w' ⟨rfl, d', n, os, hp, hs, rfl⟩
  have hsz' : d'.size = es.length := by have := hp.1; simpa using this
  have hHK : HoldsK encE 2 (sortWorldK encE 2 w g 0 n d' os) g 0 d' ∧ g < (sortWorldK encE 2 w g 0 n d' os).heap.size := AtK.holds (d0 := es.toArray) ⟨n, os, rfl⟩ h.holdsK (by simpa using hsz') hg
  have hB' : Below B w (sortWorldK encE 2 w g 0 n d' os) := by
    unfold sortWorldK putRowK
    have h1 : Below B w (putRow id (Sort.ahead w n) g 0 (flatK encE 2 d')) := Lib.below_putRow (Below.refl _ _) hB
    exact ⟨h1.os, h1.tape, h1.output, Nat.le_trans h1.size (by simp [grow]), fun k hk => by rw [heap_grow_old _ _ (by have := h1.size; simp [putRow, mapBlock, Sort.ahead]; omega)]; exact h1.block k hk⟩
  refine ⟨rfl, d'.toList, ?_, ?_, RowE.of_holdsK hHK.1, hB', hB'.size⟩
  · have := hp.2.2
    rw [← hsz', Array.extract_size] at this
    rw [hsz', ← hsz, Array.extract_size] at this
    simpa using this
  · intro i j hij hj
    have := hs i j (Nat.zero_le _) hij (by rw [← hsz']; simpa using hj)
    rw [ltOf_false] at this
    have e1 : d'[j]! = d'.toList.getD j default := by
      rw [getElem!_pos d' j (by simpa using hj)]
      simp [List.getD, show j < d'.size by simpa using hj]
    have e2 : d'[i]! = d'.toList.getD i default := by
      rw [getElem!_pos d' i (by simp at hj; omega)]
      simp [List.getD, show i < d'.size by simp at hj; omega]
    rw [← e1, ← e2]
    exact this
end Go.Proofs.YtglonlpfnllocaaGreatDoor

/-
  Package cons: slices.Compact at edges, by a contract.
-/
namespace Go.Proofs.YtglonlpfnllocaaGreatDoor
open Go.RowKit Go.Extern.Stop Go.Stop Go.Extern

/-- Neighbours that are equal stand once: of the first m. -/
def ddE (es : List Pair) : Nat → List Pair
  | 0 => []
  | m + 1 => ddE es m ++ (if m = 0 ∨ es.getD m default ≠ es.getD (m - 1) default then [es.getD m default] else [])
theorem ddE_all (es : List Pair) (m : Nat) (hm : m ≤ es.length) (h : ∀ j, 1 ≤ j → j < m → es.getD j default ≠ es.getD (j - 1) default) : ddE es m = es.take m := by
  induction m with
  | zero => simp [ddE]
  | succ m ih =>
    unfold ddE
    rw [ih (by omega) (fun j h1 h2 => h j h1 (by omega)), take_snoc es default m (by omega)]
    by_cases e : m = 0
    · rw [if_pos (Or.inl e)]
    · rw [if_pos (Or.inr (h m (by omega) (by omega)))]
structure CmpI (es xs : List Pair) (kk q : Nat) : Prop where
  len : xs.length = es.length
  le : q ≤ es.length
  lt : kk < q
  pos : 1 ≤ kk
  got : xs.take kk = ddE es q
  rest : ∀ l, q - 1 ≤ l → xs.getD l default = es.getD l default
theorem CmpI.skip {es xs : List Pair} {kk q : Nat} (h : CmpI es xs kk q) (hq : q < es.length) (he : es.getD q default = es.getD (q - 1) default) : CmpI es xs kk (q + 1) := by
  refine ⟨h.len, hq, by have := h.lt; omega, h.pos, ?_, fun l hl => h.rest l (by omega)⟩
  unfold ddE
  rw [if_neg (by have := h.lt; rintro (e | e); omega; exact e he), List.append_nil]
  exact h.got
theorem CmpI.stay {es xs : List Pair} {kk q : Nat} (h : CmpI es xs kk q) (hq : q < es.length) (he : es.getD q default ≠ es.getD (q - 1) default) : CmpI es (xs.set kk (es.getD q default)) (kk + 1) (q + 1) := by
  have hk : kk < xs.length := by rw [h.len]; have := h.lt; omega
  refine ⟨by simpa using h.len, hq, by have := h.lt; omega, by omega, ?_, fun l hl => ?_⟩
  · unfold ddE
    rw [if_pos (Or.inr he), take_set_last _ _ _ hk, h.got]
  · rw [getD_set_otherE _ _ _ _ _ (by have := h.lt; omega)]
    exact h.rest l (by omega)
theorem CmpI.cnt {es xs : List Pair} {kk q : Nat} (h : CmpI es xs kk q) : (ddE es q).length = kk := by
  rw [← h.got, List.length_take, h.len]
  have := h.le; have := h.lt; omega

def eqE (p q : Pair) : Bool := p.1 == q.1 && p.2 == q.2
theorem eqE_iff (p q : Pair) : eqE p q = true ↔ p = q := by
  obtain ⟨a, b⟩ := p; obtain ⟨c, d⟩ := q
  simp [eqE]
theorem run_eqInE (p q : Pair) (w : World) : (Op.equalIn 10000 TE (.agg #[.int .i64 p.1, .int .i64 p.2]) (.agg #[.int .i64 q.1, .int .i64 q.2])).run Tryz.prog w = .ok (eqE p q) w := by
  have u3 := Tryz.underlying3
  have a3 := Tryz.isAgg3
  have z3 := Tryz.sizeOf3
  have hS : Tryz.prog.underlying TE = some (.struct (Tryz.prog.fieldsOf TE)) := by kernel_rfl
  have hp : Tryz.prog.stoodInHeld TE = false := by kernel_rfl
  rw [show (10000 : Nat) = 9999 + 1 from rfl, run_equalIn_agg w 9999 TE _ _ hS hp]
  simp only [Program.fieldsOf, Tryz.underlying139]
  go_simp
  unfold eqE
  by_cases h1 : p.fst = q.fst <;> by_cases h2 : p.snd = q.snd <;> simp [h1, h2]
theorem run_guardE (op : BinOp) (a b : Operand) (p q : Pair) (w : World) : Sem.run Tryz.prog (eqGuard op TE a b (.agg #[.int .i64 p.1, .int .i64 p.2]) (.agg #[.int .i64 q.1, .int .i64 q.2])) w = .ok () w := run_eqGuard_agg w op TE a b _ _ (by kernel_rfl)

set_option maxRecDepth 100000 in
set_option maxHeartbeats 8000000 in
theorem compactE_any (es : List Pair) (w : World) (B g cap : Nat) (hn : es.length ≤ 1000000) (hcap : es.length ≤ cap) (hB : B ≤ g) (hg : g < w.heap.size) (h : RowE w g es) :
    Calls Tryz.prog 149 #[.slice (some ⟨g, 0, none⟩) es.length cap] w fun e w' => e = .returned (.slice (some ⟨g, 0, none⟩) (ddE es es.length).length cap) ∧ RowE w' g (ddE es es.length) ∧ Below B w w' := by
  have H : Hid (RowE w g es) := h
  obtain ⟨n, hnn⟩ : ∃ n, n = es.length := ⟨_, rfl⟩
  have HN : Hid (n = es.length ∧ B ≤ g) := ⟨hnn, hB⟩
  rw [← hnn] at hn hcap ⊢
  clear h hnn hB
  by_cases h2 : n < 2
  · have HX : Hid (ddE es n = es) := by
      show _ = _
      have := ddE_all es es.length (Nat.le_refl _) (fun j h1 h2' => absurd h2' (by have := HN.out.1; omega))
      rw [HN.out.1, this, List.take_length]
    have h2i : (n : Int) < 2 := by omega
    go_enter Tryz.func149, Tryz.ntmps149
    go_wp2_with fail
    go_ret
    exact ⟨by rw [HX.out, ← HN.out.1]; first | done | rfl, by rw [HX.out]; exact H.out, Below.refl _ _⟩
  · have h2i : ¬ (n : Int) < 2 := by omega
    go_enter Tryz.func149, Tryz.ntmps149
    go_wp2_with fail
    go_loopw [3] (fun t wr => ∃ k : Nat, 1 ≤ k ∧ k ≤ n ∧ t = .int .i64 k ∧ (∀ j, 1 ≤ j → j < k → es.getD j default ≠ es.getD (j - 1) default) ∧ RowE wr g es ∧ Below B w wr ∧ g < wr.heap.size) (fun t _ => (n - intOf t).toNat)
    case atStart => exact ⟨1, Nat.le_refl _, by omega, rfl, fun j h1 h2' => by omega, H.out, Below.refl _ _, hg⟩
    case round =>
      obtain ⟨k, hk1, hk, rfl, hall, hR, hwr, hgr⟩ := hrel
      by_cases hlt : k < n
      · obtain ⟨e0, e1, -, -⟩ := hR.pair k (by rw [← HN.out.1]; exact hlt)
        obtain ⟨d0, d1, -, -⟩ := hR.pair (k - 1) (by rw [← HN.out.1]; omega)
        have hki : (k : Int) < n := by omega
        have hkm : ((k - 1 : Nat) : Int) = (k : Int) - 1 := by omega
        obtain ⟨km, hkme⟩ : ∃ km, km = k - 1 := ⟨_, rfl⟩
        rw [← hkme] at d0 d1 hkm
        have hkmi : (km : Int) < n := by omega
        have hwrap : IntKind.i64.wrap ((k : Int) - 1) = (km : Int) := by rw [IntKind.wrap_i64]; omega
        have HEQ := run_eqInE (es.getD k default) (es.getD km default)
        have HGD := fun op a b => run_guardE op a b (es.getD k default) (es.getD km default)
        obtain ⟨D, hD⟩ : ∃ D, D = eqE (es.getD k default) (es.getD km default) := ⟨_, rfl⟩
        rw [← hD] at HEQ
        have HD : Hid (D = eqE (es.getD k default) (es.getD (k - 1) default)) := by show D = _; rw [hD, hkme]
        obtain ⟨x1, hx1⟩ : ∃ z, z = (es.getD k default).1 := ⟨_, rfl⟩
        obtain ⟨x2, hx2⟩ : ∃ z, z = (es.getD k default).2 := ⟨_, rfl⟩
        obtain ⟨y1, hy1⟩ : ∃ z, z = (es.getD km default).1 := ⟨_, rfl⟩
        obtain ⟨y2, hy2⟩ : ∃ z, z = (es.getD km default).2 := ⟨_, rfl⟩
        rw [← hx1] at e0 HEQ HGD
        rw [← hx2] at e1 HEQ HGD
        rw [← hy1] at d0 HEQ HGD
        rw [← hy2] at d1 HEQ HGD
        have HA : Hid (∀ j, 1 ≤ j → j < k → es.getD j default ≠ es.getD (j - 1) default) := hall
        have HR : Hid (RowE wr g es) := hR
        clear hD hx1 hx2 hy1 hy2 hkm hkme hall hR
        go_upto_region 6 with fail
        go_quiet (fail)
        generalize hwq : World.drewN wr _ = wq
        have hBq : Below wr.heap.size wr wq := by rw [← hwq]; exact below_drewN (Below.refl _ _) _
        have HRq : Hid (RowE wq g es ∧ Below B w wq) := by
          refine ⟨HR.out.below hBq, ?_⟩
          rw [← hwq]; exact below_drewN hwr _
        have hgq : g < wq.heap.size := Nat.lt_of_lt_of_le hgr hBq.size
        clear hwq hBq e0 e1 d0 d1 HEQ HGD
        cases D with
        | false =>
          go_wp2_with fail
          go_roundw
          case rel =>
            refine ⟨k + 1, by omega, hlt, by go_num, fun j h1 h2' => ?_, HRq.out.1, HRq.out.2, hgq⟩
            by_cases e : j = k
            · subst e
              intro q
              have := HD.out
              rw [(eqE_iff _ _).2 q] at this
              cases this
            · exact HA.out j h1 (by omega)
          case measure => simp [intOf]; omega
        | true =>
          have HI0 : Hid (CmpI es es k (k + 1)) := by
            have hle : k < es.length := by rw [← HN.out.1]; exact hlt
            refine ⟨rfl, hle, Nat.lt_succ_self _, hk1, ?_, fun _ _ => rfl⟩
            have he : es.getD k default = es.getD (k - 1) default := (eqE_iff _ _).1 HD.out.symm
            unfold ddE
            rw [if_neg (by rintro (e | e); omega; exact e he), List.append_nil]
            exact (ddE_all es k (by omega) HA.out).symm
          have hkn0 : (k : Int) ≤ n := by omega
          have hnc : (n : Int) ≤ cap := by omega
          have hknn : k ≤ n := by omega
          have hknc : k ≤ cap := by omega
          obtain ⟨m, hm⟩ : ∃ m, m = n - k := ⟨_, rfl⟩
          have hmk : k + m = n := by omega
          go_upto_region 8 with fail
          rw [← hm]
          clear hm HA
          go_wp2_with fail
          go_loopw [3, 5] (fun t3 t5 wr => ∃ (kk j : Nat) (xs : List Pair), t3 = .int .i64 kk ∧ t5 = .int .i64 j ∧ 1 ≤ j ∧ j ≤ m ∧ kk < k + j ∧ CmpI es xs kk (k + j) ∧ RowE wr g xs ∧ Below B w wr ∧ g < wr.heap.size) (fun _ t5 _ => (m - intOf t5).toNat)
          case atStart => exact ⟨k, 1, es, rfl, rfl, Nat.le_refl _, by omega, by omega, HI0.out, HRq.out.1, HRq.out.2, hgq⟩
          case round =>
            clear HI0 HRq
            obtain ⟨kk, j, xs, rfl, rfl, hj1, hj, hkj, hI, hR, hwr2, hgr2⟩ := hrel
            have hxl : xs.length = n := by rw [hI.len, ← HN.out.1]
            by_cases hlt2 : j < m
            · obtain ⟨e0, e1, -, -⟩ := hR.pair (k + j) (by omega)
              obtain ⟨d0, d1, -, -⟩ := hR.pair (k + j - 1) (by omega)
              rw [hI.rest (k + j) (by omega)] at e0 e1
              rw [hI.rest (k + j - 1) (Nat.le_refl _)] at d0 d1
              have hji : (j : Int) < m := by omega
              obtain ⟨jm, hjm⟩ : ∃ z, z = j - 1 := ⟨_, rfl⟩
              have hjj : k + j - 1 = k + jm := by omega
              rw [hjj, Nat.add_mul] at d0 d1
              rw [Nat.add_mul] at e0 e1
              have hjmi : (jm : Int) < m := by omega
              have hwrap2 : IntKind.i64.wrap ((j : Int) - 1) = (jm : Int) := by rw [IntKind.wrap_i64]; omega
              have HEQ := run_eqInE (es.getD (k + j) default) (es.getD (k + jm) default)
              have HGD := fun op a b => run_guardE op a b (es.getD (k + j) default) (es.getD (k + jm) default)
              obtain ⟨D, hD⟩ : ∃ D, D = eqE (es.getD (k + j) default) (es.getD (k + jm) default) := ⟨_, rfl⟩
              rw [← hD] at HEQ
              have HD2 : Hid (D = eqE (es.getD (k + j) default) (es.getD (k + j - 1) default)) := by show D = _; rw [hD, hjj]
              obtain ⟨x1, hx1⟩ : ∃ z, z = (es.getD (k + j) default).1 := ⟨_, rfl⟩
              obtain ⟨x2, hx2⟩ : ∃ z, z = (es.getD (k + j) default).2 := ⟨_, rfl⟩
              obtain ⟨y1, hy1⟩ : ∃ z, z = (es.getD (k + jm) default).1 := ⟨_, rfl⟩
              obtain ⟨y2, hy2⟩ : ∃ z, z = (es.getD (k + jm) default).2 := ⟨_, rfl⟩
              rw [← hx1] at e0 HEQ HGD
              rw [← hx2] at e1 HEQ HGD
              rw [← hy1] at d0 HEQ HGD
              rw [← hy2] at d1 HEQ HGD
              have HX12 : Hid (x1 = (es.getD (k + j) default).1 ∧ x2 = (es.getD (k + j) default).2) := ⟨hx1, hx2⟩
              have HR : Hid (RowE wr g xs ∧ CmpI es xs kk (k + j)) := ⟨hR, hI⟩
              have hje : k + j < es.length := by rw [← HN.out.1]; omega
              clear hD hx1 hx2 hy1 hy2 hjm hjj hR hI hxl
              go_upto_region 11 with fail
              go_quiet (fail)
              generalize hwq : World.drewN wr _ = wq
              have hBq : Below wr.heap.size wr wq := by rw [← hwq]; exact below_drewN (Below.refl _ _) _
              have HRq : Hid (RowE wq g xs ∧ Below B w wq) := by
                refine ⟨HR.out.1.below hBq, ?_⟩
                rw [← hwq]; exact below_drewN hwr2 _
              have hgq2 : g < wq.heap.size := Nat.lt_of_lt_of_le hgr2 hBq.size
              replace e0 := cell_keep hBq e0
              replace e1 := cell_keep hBq e1
              clear hwq hBq d0 d1 HEQ HGD
              cases D with
              | true =>
                go_wp2_with fail
                go_roundw
                case rel => exact ⟨kk, j + 1, xs, rfl, by go_num, by omega, hlt2, by omega, HR.out.2.skip hje ((eqE_iff _ _).1 HD2.out.symm), HRq.out.1, HRq.out.2, hgq2⟩
                case measure => simp [intOf]; omega
              | false =>
                have hne : es.getD (k + j) default ≠ es.getD (k + j - 1) default := fun q => by
                  have := HD2.out
                  rw [(eqE_iff _ _).2 q] at this
                  cases this
                obtain ⟨q0, q1, f0, f1⟩ := HRq.out.1.pair kk (by rw [HR.out.2.len]; omega)
                obtain ⟨q0v, hq0⟩ : ∃ v, v = (xs.getD kk default).1 := ⟨_, rfl⟩
                obtain ⟨q1v, hq1⟩ : ∃ v, v = (xs.getD kk default).2 := ⟨_, rfl⟩
                rw [← hq0] at q0
                rw [← hq1] at q1
                have hkki : (kk : Int) < n := by omega
                have HS : Hid (RowE (setE wq g kk (x1, x2)) g (xs.set kk (es.getD (k + j) default)) ∧ Below B w (setE wq g kk (x1, x2)) ∧ CmpI es (xs.set kk (es.getD (k + j) default)) (kk + 1) (k + (j + 1))) := by
                  refine ⟨?_, (HRq.out.2.setCell HN.out.2 _).setCell HN.out.2 _, HR.out.2.stay hje hne⟩
                  have := HRq.out.1.set kk (by rw [HR.out.2.len]; omega) (es.getD (k + j) default)
                  rw [HX12.out.1, HX12.out.2]
                  exact this
                have hgs : g < (setE wq g kk (x1, x2)).heap.size := by simpa using hgq2
                clear hq0 hq1 hne
                go_wp2_with fail
                go_roundw
                case rel => exact ⟨kk + 1, j + 1, xs.set kk (es.getD (k + j) default), by go_num, by go_num, by omega, hlt2, by omega, HS.out.2.2, HS.out.1, HS.out.2.1, hgs⟩
                case measure => simp [intOf]; omega
            · have hjm : j = m := by omega
              subst hjm
              have hcnt := hI.cnt
              have hgot := hI.got
              rw [hmk] at hcnt hgot
              have hcl := fun ty => run_clearE wr ty g (kk * 2) (n - kk) (cap - kk) (by omega) (fun t ht => by rw [(hR.pos (kk * 2 + t) (by omega)).1, List.getElem?_eq_getElem (by rw [ecells_len]; omega)]; rfl) (fun t ht => (hR.pos (kk * 2 + t) (by omega)).2)
              have HE : Hid (RowE (wr.setCells g (kk * 2) (List.replicate ((n - kk) * 2) (.int .i64 0))) g (ddE es n) ∧ Below B w (wr.setCells g (kk * 2) (List.replicate ((n - kk) * 2) (.int .i64 0))) ∧ (ddE es n).length = kk) := by
                refine ⟨?_, below_setCells hwr2 HN.out.2 _ _, hcnt⟩
                rw [← hgot]
                refine (hR.take kk).setCells _ _ ?_
                rw [hgot, hcnt]; exact Nat.le_refl _
              have hkc : kk ≤ cap := by omega
              have hkn2 : (kk : Int) ≤ n := by omega
              have hkn3 : kk ≤ n := by omega
              clear hcnt hgot hI hR hxl
              go_wp2_with fail
              go_ret
              exact ⟨by rw [HE.out.2.2]; rfl, HE.out.1, HE.out.2.1⟩
      · have hkn : k = n := by omega
        subst hkn
        have HX : Hid (ddE es k = es) := by
          show _ = _
          rw [ddE_all es k (by rw [← HN.out.1]; exact Nat.le_refl _) hall, HN.out.1, List.take_length]
        have HR : Hid (RowE wr g es) := hR
        clear hall hR
        go_wp2_with fail
        go_ret
        exact ⟨by rw [HX.out, ← HN.out.1]; first | done | rfl, by rw [HX.out]; exact HR.out, hwr⟩
end Go.Proofs.YtglonlpfnllocaaGreatDoor

/-
  Package cons: slices.SortFunc at no edge, by a contract.
-/
namespace Go.Proofs.YtglonlpfnllocaaGreatDoor
open Go.RowKit Go.Extern.Stop Go.Stop Go.Extern Go.Sort
theorem sortE_none (a : Option Addr) (cap : Nat) (fv : Value) (w : World) : Calls Tryz.prog 145 #[.slice a 0 cap, fv] w fun e w' => e = .returned (.tuple #[]) ∧ w' = w :=
  AnyF.slices_SortFunc_none Tryz.sortE a cap fv w
end Go.Proofs.YtglonlpfnllocaaGreatDoor

/-
  Package cons: tidy, by a contract.
-/
namespace Go.Proofs.YtglonlpfnllocaaGreatDoor
open Go.RowKit Go.Extern.Stop Go.Stop Go.Extern

/-- A []Edge that reads as es. -/
def IsPairs (w : World) (v : Value) (es : List Pair) : Prop :=
  ∃ a c, v = .slice a es.length c ∧ ∀ j, j < es.length → ∃ g, a = some ⟨g, 0, none⟩ ∧ w.cell? ⟨g, j * 2, none⟩ = some (.int .i64 (es.getD j default).1) ∧ w.cell? ⟨g, j * 2 + 1, none⟩ = some (.int .i64 (es.getD j default).2)
theorem IsPairs.below {w w' : World} {v : Value} {es : List Pair} (h : IsPairs w v es) (hb : Below w.heap.size w w') : IsPairs w' v es := by
  obtain ⟨a, c, e, q⟩ := h
  refine ⟨a, c, e, fun j hj => ?_⟩
  obtain ⟨g, h1, h2, h3⟩ := q j hj
  exact ⟨g, h1, cell_keep hb h2, cell_keep hb h3⟩
/-- The edges that lead somewhere, each once, in order. -/
structure EdgeSet (es es' : List Pair) : Prop where
  up : es'.Pairwise ltE
  mem : ∀ p, p ∈ es' ↔ p ∈ es ∧ p.1 ≠ p.2
theorem ltE_total (p q : Pair) : ltE p q ∨ p = q ∨ ltE q p := by
  obtain ⟨a, b⟩ := p; obtain ⟨c, d⟩ := q
  unfold ltE
  simp only [Prod.mk.injEq]
  omega
theorem ltE_irrefl (p : Pair) : ¬ ltE p p := by unfold ltE; omega
theorem ltE_trans {p q r : Pair} (h1 : ltE p q) (h2 : ltE q r) : ltE p r := by unfold ltE at *; omega
theorem ddE_spec (es : List Pair) (hs : SortedE es) (m : Nat) (hm : m ≤ es.length) : (ddE es m).Pairwise ltE ∧ ∀ p, p ∈ ddE es m ↔ p ∈ es.take m := by
  induction m with
  | zero => simp [ddE]
  | succ m ih =>
    obtain ⟨i1, i2⟩ := ih (by omega)
    have hml : m < es.length := by omega
    rw [take_snoc es default m hml]
    unfold ddE
    by_cases hc : m = 0 ∨ es.getD m default ≠ es.getD (m - 1) default
    · rw [if_pos hc]
      refine ⟨?_, fun p => by rw [List.mem_append, List.mem_append, i2]⟩
      rw [List.pairwise_append]
      refine ⟨i1, List.pairwise_singleton _ _, fun p hp q hq => ?_⟩
      rw [List.mem_singleton.1 hq]
      obtain ⟨i, hi, rfl⟩ := List.mem_iff_getElem.1 ((i2 p).1 hp)
      have him : i < m := by simp at hi; omega
      have hpe : (es.take m)[i] = es.getD i default := by simp [List.getD, show i < es.length by omega]
      rw [hpe]
      have h1 := hs i m him hml
      rcases ltE_total (es.getD i default) (es.getD m default) with q | q | q
      · exact q
      · exfalso
        rcases hc with e | e
        · omega
        · have h2 : i ≠ m - 1 := fun e' => e (by rw [← e']; exact q.symm)
          have h3 := hs i (m - 1) (by omega) (by omega)
          have h4 := hs (m - 1) m (by omega) hml
          rw [q] at h3
          rcases ltE_total (es.getD m default) (es.getD (m - 1) default) with r | r | r
          · exact h4 r
          · exact e r
          · exact h3 r
      · exact absurd q h1
    · rw [if_neg hc, List.append_nil]
      refine ⟨i1, fun p => ?_⟩
      rw [i2, List.mem_append, List.mem_singleton]
      refine ⟨Or.inl, fun h => ?_⟩
      rcases h with h | h
      · exact h
      · have h0 : m ≠ 0 := fun e => hc (Or.inl e)
        have he : es.getD m default = es.getD (m - 1) default := by
          apply Classical.byContradiction
          intro q
          exact hc (Or.inr q)
        rw [h, he]
        rw [show es.getD (m - 1) default = (es.take m)[m - 1]'(by simp; omega) by simp [List.getD, show m - 1 < es.length by omega]]
        exact List.getElem_mem _
theorem edgeSet_of {es es2 : List Pair} (hp : es2.Perm (keepE es)) (hs : SortedE es2) : EdgeSet es (ddE es2 es2.length) := by
  obtain ⟨h1, h2⟩ := ddE_spec es2 hs es2.length (Nat.le_refl _)
  refine ⟨h1, fun p => ?_⟩
  rw [h2, List.take_length, hp.mem_iff]
  unfold keepE selfB
  rw [List.mem_filter]
  simp
theorem indexE_nil (a : Option Addr) (cap : Nat) (fv : Value) (w : World) : Calls Tryz.prog 156 #[.slice a 0 cap, fv] w fun e w' => e = .returned (.int .i64 (-1)) ∧ w' = w := by
  go_enter Tryz.func156, Tryz.ntmps156
  go_wp2_with fail
  go_loopw [8] (fun t wr => t = .int .i64 0 ∧ wr = w) (fun _ _ => 0)
  case atStart => exact ⟨rfl, rfl⟩
  case round =>
    obtain ⟨rfl, hwr⟩ := hrel
    obtain rfl := hwr.symm
    go_wp2_with fail
    go_ret
    exact ⟨rfl, rfl⟩
theorem deleteE_nil (a : Option Addr) (cap : Nat) (fv : Value) (w : World) : Calls Tryz.prog 143 #[.slice a 0 cap, fv] w fun e w' => e = .returned (.slice a 0 cap) ∧ w' = w := by
  go_enter Tryz.func143, Tryz.ntmps143
  go_wp2_with fail
  refine (indexE_nil a cap fv w).mono ?_
  rintro e w1 ⟨rfl, hw1⟩
  obtain rfl := hw1.symm
  go_wp2_with fail
  go_ret
  exact ⟨rfl, rfl⟩
theorem compactE_nil (a : Option Addr) (cap : Nat) (w : World) : Calls Tryz.prog 149 #[.slice a 0 cap] w fun e w' => e = .returned (.slice a 0 cap) ∧ w' = w := by
  go_enter Tryz.func149, Tryz.ntmps149
  go_wp2_with fail
  go_ret
  exact ⟨rfl, rfl⟩
set_option maxHeartbeats 4000000 in
theorem tidy_any (es : List Pair) (u : Value) (w : World) (B : Nat) (hn : es.length ≤ 1000000) (h : w.ownsRow B TE 2 u es.length (ecells es)) :
    Calls Tryz.prog 122 #[u] w fun e w' => ∃ v es', e = .returned v ∧ IsPairs w' v es' ∧ EdgeSet es es' ∧ Below B w w' := by
  by_cases h0 : es.length = 0
  · obtain ⟨a, c, rfl⟩ := owns_form h
    have hes : es = [] := List.eq_nil_of_length_eq_zero h0
    rw [h0]
    have HX : Hid (es = []) := hes
    clear h hes h0
    go_enter Tryz.func122, Tryz.ntmps122
    go_wp2_with fail
    refine (deleteE_nil a c _ w).mono ?_
    rintro e w1 ⟨rfl, hw1⟩
    obtain rfl := hw1.symm
    go_wp2_with fail
    refine (sortE_none a c _ w).mono ?_
    rintro e w2 ⟨rfl, hw2⟩
    obtain rfl := hw2.symm
    go_wp2_with fail
    refine (compactE_nil a c w).mono ?_
    rintro e w3 ⟨rfl, hw3⟩
    obtain rfl := hw3.symm
    go_wp2_with fail
    go_ret
    refine ⟨_, [], rfl, ⟨a, c, rfl, fun j hj => absurd hj (Nat.not_lt_zero _)⟩, ⟨List.Pairwise.nil, fun p => ?_⟩, Below.refl _ _⟩
    rw [HX.out]; simp
  · obtain ⟨g, cap, rfl, hcap, hB, hR⟩ := RowE.of_owns h (by omega)
    have hg := hR.lt (by omega)
    have KD := deleteE_any es w B g cap hn hcap hB hg hR
    obtain ⟨n, hnn⟩ : ∃ n, n = es.length := ⟨_, rfl⟩
    have hkl := keepE_len es
    rw [← hnn] at hn hcap KD hkl ⊢
    have HD : Hid _ := KD
    clear h h0 hR KD hnn
    go_enter Tryz.func122, Tryz.ntmps122
    go_wp2_with fail
    refine Calls.mono HD.out ?_
    rintro e w1 ⟨rfl, hR1, hB1⟩
    have hg1 : g < w1.heap.size := Nat.lt_of_lt_of_le hg hB1.size
    have KS : Hid _ := sortE_any (keepE es) w1 B g cap (by omega) hB hg1 hR1
    obtain ⟨m, hm⟩ : ∃ m, m = (keepE es).length := ⟨_, rfl⟩
    rw [← hm] at KS ⊢
    have HM : Hid (m = (keepE es).length ∧ m ≤ n) := ⟨hm, by omega⟩
    clear hR1 hm hkl HD
    go_wp2_with fail
    refine Calls.mono KS.out ?_
    rintro e w2 ⟨rfl, es2, hp, hs2, hR2, hB2, hz2⟩
    have hlen2 : es2.length = m := by rw [hp.length_eq, HM.out.1]
    have hmn := HM.out.2
    have hg2 : g < w2.heap.size := by omega
    have KC : Hid _ := compactE_any es2 w2 B g cap (by omega) (by omega) hB hg2 hR2
    rw [hlen2] at KC
    have HE : Hid (EdgeSet es (ddE es2 m)) := by
      have := edgeSet_of hp hs2
      rw [hlen2] at this
      exact this
    have HBB : Hid (Below B w w2) := hB1.trans hB2
    clear hR2 hp hs2 hlen2 KS hB1 hB2 hmn
    go_wp2_with fail
    refine Calls.mono KC.out ?_
    rintro e w3 ⟨rfl, hR3, hB3⟩
    have HR3 : Hid (RowE w3 g (ddE es2 m)) := hR3
    clear hR3 KC
    go_wp2_with fail
    go_ret
    refine ⟨_, ddE es2 m, rfl, ⟨some ⟨g, 0, none⟩, cap, rfl, fun j hj => ⟨g, rfl, ?_⟩⟩, HE.out, HBB.out.trans hB3⟩
    obtain ⟨r0, r1, -, -⟩ := HR3.out.pair j hj
    exact ⟨r0, r1⟩
end Go.Proofs.YtglonlpfnllocaaGreatDoor

/-
  Package cons: edges, by a contract.
-/
namespace Go.Proofs.YtglonlpfnllocaaGreatDoor
open Go.RowKit Go.Extern.Stop Go.Stop Go.Extern

theorem right_params3 {P : ProgD} (h : checkE P = none) : ∀ f ∈ P.funs, f.params.length ≤ 3 := by
  have hf : funsE P = none := by
    have hb : fullB P = false := by
      cases e : fullB P with
      | false => rfl
      | true => unfold checkE at h; rw [e] at h; simp at h
    rw [checkE_eq P hb] at h
    cases e1 : namesE P.vars (fnames P) with
    | some x => rw [e1] at h; cases h
    | none =>
      rw [e1] at h
      cases e2 : funsE P with
      | some x => rw [e2] at h; cases h
      | none => rfl
  unfold funsE at hf
  split at hf
  · cases hf
  · rename_i h1
    simp at h1
    exact h1
/-- Sets for each node of a right program, of its objects. -/
structure SetsOk (P : ProgD) (hs : List (List Int)) : Prop where
  len : hs.length = places P P.stmts.length
  set : ∀ j, j < hs.length → IsSet (hs.getD j [])
  obj : ∀ j, j < hs.length → ∀ i, i < (hs.getD j []).length → (hs.getD j []).getD i 0 < (hs.length : Int) + P.funs.length
theorem rise_ge {zs : List Int} (h : IsSet zs) (i : Nat) (hi : i < zs.length) : (i : Int) ≤ zs.getD i 0 := by
  induction i with
  | zero => exact (h.1 0 hi).1
  | succ i ih =>
    have h1 := ih (by omega)
    have h2 := h.2 i hi
    omega
theorem SetsOk.short {P : ProgD} {hs : List (List Int)} (h : SetsOk P hs) (hc : checkE P = none) (j : Nat) (hj : j < hs.length) : (hs.getD j []).length ≤ 200 := by
  obtain ⟨s1, s2, s3⟩ := right_small hc
  have hl := h.len
  have hp := places_le P P.stmts.length
  apply Classical.byContradiction
  intro hn
  have h1 := rise_ge (h.set j hj) 199 (by omega)
  have h2 := h.obj j hj 199 (by omega)
  omega
theorem joinD_len {P : ProgD} (hc : checkE P = none) (n : Nat) (r : RuleD) (o : Int) : (joinD n P.funs r o).length ≤ 4 := by
  unfold joinD
  split
  · split <;> simp
  · split
    · split <;> simp
    · split
      · split
        · simp
        · unfold joinsF
          split
          · rename_i hl
            by_cases hi : (o - n).toNat < P.funs.length
            · have := right_params3 hc _ (getDmC hi)
              simp
              omega
            · have : P.funs.getD (o - n).toNat default = default := by rw [List.getD_eq_getElem?_getD, List.getElem?_eq_none (Nat.le_of_not_lt hi)]; rfl
              rw [this]
              simp
              have hd : (default : FunD).params = [] := rfl
              rw [hd]
              simp
          · simp
      · simp
theorem flat_len {α β : Type} (l : List α) (g : α → List β) (c : Nat) (h : ∀ x ∈ l, (g x).length ≤ c) : (l.flatMap g).length ≤ l.length * c := by
  induction l with
  | nil => simp
  | cons x r ih =>
    rw [List.flatMap_cons, List.length_append, List.length_cons, Nat.add_mul, Nat.one_mul]
    have h1 := h x (List.mem_cons_self ..)
    have h2 := ih (fun y hy => h y (List.mem_cons_of_mem _ hy))
    omega
theorem followD_len {P : ProgD} {hs : List (List Int)} (h : SetsOk P hs) (hc : checkE P = none) (r : RuleD) : (followD P hs r).length ≤ 801 := by
  unfold followD copyD
  rw [List.length_append]
  have h1 : (if r.kind = kCopy then [(r.a, r.b)] else ([] : List Pair)).length ≤ 1 := by split <;> simp
  have h2 : (if askedD r < 0 then [] else (setAt hs (askedD r)).flatMap (joinD hs.length P.funs r)).length ≤ 800 := by
    split
    · simp
    · have h3 := flat_len (setAt hs (askedD r)) (joinD hs.length P.funs r) 4 (fun x _ => joinD_len hc _ r x)
      have h4 : (setAt hs (askedD r)).length ≤ 200 := by
        unfold setAt
        by_cases hj : (askedD r).toNat < hs.length
        · exact h.short hc _ hj
        · simp [List.getD, List.getElem?_eq_none (Nat.le_of_not_lt hj)]
      have h5 := Nat.mul_le_mul_right 4 h4
      omega
  omega
theorem foundD_len {P : ProgD} {hs : List (List Int)} (h : SetsOk P hs) (hc : checkE P = none) : (foundD P hs).length ≤ 100000 := by
  have h1 := flat_len (rulesD P) (followD P hs) 801 (fun r _ => followD_len h hc r)
  rw [rulesD_len] at h1
  have h2 := Nat.mul_le_mul_right 801 (right_small hc).1
  unfold foundD
  omega
theorem asked_base (a b st : Int) (args : List Int) : askedD ⟨kBase, a, b, st, args⟩ < 0 := by
  unfold askedD
  dsimp only
  rw [if_neg (show ¬ kBase = kLoad by decide), if_neg (show ¬ kBase = kCall by decide), if_neg (show ¬ kBase = kStore by decide)]
  decide
/-- What the rules of a right program ask of sets that are there. -/
theorem rule_asks {P : ProgD} {hs : List (List Int)} (h : SetsOk P hs) (hc : checkE P = none) (k : Nat) (hk : k < P.stmts.length) : ¬ askedD (ruleD P k) < 0 → (askedD (ruleD P k)).toNat < hs.length := by
  intro hn
  obtain ⟨k1, k2, k3, k4, -, -, k7⟩ := stmt_parts ((right_of hc).st _ (getDmC hk))
  obtain ⟨x0, x1⟩ := varB_parts k2
  have hv : P.vars.length ≤ hs.length := by rw [h.len]; unfold places; omega
  obtain ⟨st, hst⟩ : ∃ st, st = P.stmts.getD k default := ⟨_, rfl⟩
  rw [← hst] at k1 k2 k3 k4 x0 x1
  unfold ruleD at hn ⊢
  rw [← hst] at hn ⊢
  by_cases e1 : st.kind = kAddr
  · rw [if_pos e1] at hn; exact absurd (asked_base _ _ _ _) hn
  rw [if_neg e1] at hn ⊢
  by_cases e2 : st.kind = kNew
  · rw [if_pos e2] at hn; exact absurd (asked_base _ _ _ _) hn
  rw [if_neg e2] at hn ⊢
  by_cases e3 : st.kind = kFun
  · rw [if_pos e3] at hn; exact absurd (asked_base _ _ _ _) hn
  rw [if_neg e3] at hn ⊢
  have hy : 0 ≤ st.y ∧ st.y < (P.vars.length : Int) := by
    unfold yB at k3
    rw [if_neg (by simpa using e3), if_neg (by simpa using e2)] at k3
    exact varB_parts k3
  unfold askedD at hn ⊢
  dsimp only at hn ⊢
  split
  · omega
  · split
    · omega
    · split
      · omega
      · rename_i q1 q2 q3
        rw [if_neg q1, if_neg q2, if_neg q3] at hn
        exact absurd (by decide) hn
theorem ruleD_args {P : ProgD} (k : Nat) (hk : k < P.stmts.length) (hs : SmallP P) : (ruleD P k).args.length ≤ 1000000 := by
  have := hs.2.2.2.2 _ (getDmC hk)
  unfold ruleD
  split
  · simp
  · split
    · simp
    · split
      · simp
      · show (P.stmts.getD k default).args.length ≤ _; omega
set_option maxRecDepth 100000 in
set_option maxHeartbeats 8000000 in
theorem edges_in (P : ProgD) (v1 v2 v3 rv hv : Value) (hs : List (List Int)) (w : World) (hS : SmallP P) (hc : checkE P = none) (hF : IsFuns w v2 P.funs) (hR : IsRules w rv (rulesD P)) (hH : IsSets w hv hs) (hok : SetsOk P hs) :
    Calls Tryz.prog 92 #[.agg #[v1, v2, v3], rv, hv] w fun e w' => ∃ v es, e = .returned v ∧ IsPairs w' v es ∧ EdgeSet (foundD P hs) es ∧ Below w.heap.size w w' := by
  obtain ⟨s1, s2, s3⟩ := right_small hc
  have hpl := places_le P P.stmts.length
  obtain ⟨ra, rc, rfl, hrr⟩ := hR
  rw [rulesD_len] at hrr ⊢
  obtain ⟨n, hn⟩ : ∃ n, n = P.stmts.length := ⟨_, rfl⟩
  rw [← hn] at hrr s1 ⊢
  have HN : Hid (n = P.stmts.length) := hn
  have hnl : n ≤ 80 := s1
  obtain ⟨W, hW⟩ : ∃ W, W = (w.alloc (.cells #[v1, v2, v3] 26)).alloc (.cells #[.slice none 0 0] TSE) := ⟨_, rfl⟩
  have hBW : Below w.heap.size w W := by rw [hW]; exact (below1 w _).alloc (by simp) _
  have HFB : Hid (W.heap[w.heap.size]? = some (.cells #[v1, v2, v3] 26 (0, 0))) := by show _ = _; rw [hW]; exact block_keep (below1 _ _) (heap_new w _)
  have HF0 : Hid (Found W w.heap.size (w.heap.size + 1) [] (.slice none 0 0)) := by
    refine ⟨by omega, ?_, World.ownsRow_nil _ _ _ _⟩
    rw [hW]
    have := heap_new (w.alloc (.cells #[v1, v2, v3] 26)) (.cells #[.slice none 0 0] TSE)
    simpa using this
  have HRR : Hid (∀ j, j < n → ∃ b, ra = some ⟨b, 0, none⟩ ∧ RuleAt w b j (ruleD P j)) := fun j hj => by
    obtain ⟨b, h1, h2⟩ := hrr j hj
    rw [rulesD_at P j (by omega)] at h2
    exact ⟨b, h1, h2⟩
  have HLE : Hid (∀ k, k < n → ((((rulesD P).take k).flatMap (followD P hs)) ++ followD P hs (ruleD P k)).length ≤ 900000 ∧ (((rulesD P).take (k + 1)).flatMap (followD P hs)) = (((rulesD P).take k).flatMap (followD P hs)) ++ followD P hs (ruleD P k)) := fun k hk => by
    have hkl : k < (rulesD P).length := by rw [rulesD_len]; omega
    have h1 := flat_take (rulesD P) default (followD P hs) k hkl
    rw [rulesD_at P k (by omega)] at h1
    have h2 := flat_take_le (rulesD P) (followD P hs) (k + 1)
    have h3 := foundD_len hok hc
    unfold foundD at h3
    rw [h1] at h2
    exact ⟨by omega, h1⟩
  have KFo : Hid (∀ wx k u es av, k < n → Below w.heap.size w wx → es = ((rulesD P).take k).flatMap (followD P hs) → Found wx w.heap.size (w.heap.size + 1) es u → IsInts w av (ruleD P k).args → Calls Tryz.prog 120 #[.agg #[v1, v2, v3], .agg #[.string (S (ruleD P k).kind), .int .i64 (ruleD P k).a, .int .i64 (ruleD P k).b, .int .i64 (ruleD P k).stmt, av], hv, joinV (w.heap.size + 1)] wx fun e w' => JoinPost w wx (w.heap.size + 1) es (followD P hs (ruleD P k)) e w') := fun wx k u es av hk hb he hFx ha => by
    have hkl : k < P.stmts.length := by omega
    have hsa : ∀ j, j < (setAt hs (askedD (ruleD P k))).length → (askedD (ruleD P k)).toNat < hs.length := fun j hj => by
      apply Classical.byContradiction
      intro q
      unfold setAt at hj
      simp [List.getD, List.getElem?_eq_none (Nat.le_of_not_lt q)] at hj
    refine follow_any hFx hb P v1 v2 v3 hF (fun i hi => by have := right_params3 hc _ (getDmC hi); omega) hv hs hH (by rw [hok.len]; omega) (ruleD P k) av ha (ruleD_args k hkl hS) (S (ruleD P k).kind) (S_toList _) (rule_asks hok hc k hkl) (fun j hj => ?_) ?_ (by rw [he]; exact (HLE.out k hk).1)
    · have hq := hsa j hj
      have h1 := (hok.set _ hq).1 j hj
      have h2 := hok.obj _ hq j hj
      refine ⟨h1.1, ?_, fun _ hno => ?_⟩
      · have := h1.2; unfold setAt; omega
      · unfold setAt at hno ⊢
        omega
    · by_cases hq : (askedD (ruleD P k)).toNat < hs.length
      · have := hok.short hc _ hq; unfold setAt; omega
      · unfold setAt; simp [List.getD, List.getElem?_eq_none (Nat.le_of_not_lt hq)]
  have HFL : Hid ((foundD P hs).length ≤ 1000000) := by have := foundD_len hok hc; show _ ≤ _; omega
  clear hrr hH hok hF hn
  go_enter Tryz.func92, Tryz.ntmps92
  go_upto_region 3 with fail
  rw [← hW]
  clear hW
  go_loopw [12] (fun t wr => ∃ k : Nat, k ≤ n ∧ t = .int .i64 k ∧ (∃ u, Found wr w.heap.size (w.heap.size + 1) (((rulesD P).take k).flatMap (followD P hs)) u) ∧ Below w.heap.size w wr ∧ KE W wr) (fun t _ => (n - intOf t).toNat)
  case atStart => exact ⟨0, Nat.zero_le _, rfl, ⟨_, by simpa using HF0.out⟩, hBW, KE.refl _⟩
  case round =>
    obtain ⟨k, hk, rfl, ⟨u, hFd⟩, hwr, hke⟩ := hrel
    by_cases hlt : k < n
    · obtain ⟨b, rfl, hra⟩ := HRR.out k hlt
      obtain ⟨av, r0, r1, r2, r3, r4, r5, r6⟩ := hra
      obtain ⟨aa, ac, rfl⟩ := isInts_form r5
      obtain ⟨na, hna⟩ : ∃ z, z = (ruleD P k).args.length := ⟨_, rfl⟩
      rw [← hna] at r4 r5 r6
      replace r0 := cell_keep hwr r0
      replace r1 := cell_keep hwr r1
      replace r2 := cell_keep hwr r2
      replace r3 := cell_keep hwr r3
      replace r4 := cell_keep hwr r4
      have hki : (k : Int) < n := by omega
      have hkb := hke _ _ _ _ HFB.out (by decide) (by decide)
      have hT := (HLE.out k hlt).2
      obtain ⟨es, hes⟩ : ∃ es, es = ((rulesD P).take k).flatMap (followD P hs) := ⟨_, rfl⟩
      obtain ⟨js, hjs⟩ : ∃ js, js = followD P hs (ruleD P k) := ⟨_, rfl⟩
      rw [← hes, ← hjs] at hT
      rw [← hes] at hFd
      obtain ⟨W4, hW4⟩ : ∃ W4, W4 = wr.alloc (ruleBox (S (ruleD P k).kind) (ruleD P k).a (ruleD P k).b (ruleD P k).stmt (.slice aa na ac)) := ⟨_, rfl⟩
      have hB4 : Below wr.heap.size wr W4 := by rw [hW4]; exact below1 wr _
      have hbx : W4.heap[wr.heap.size]? = some (ruleBox (S (ruleD P k).kind) (ruleD P k).a (ruleD P k).b (ruleD P k).stmt (.slice aa na ac)) := by rw [hW4]; exact heap_new wr _
      have KF := KFo.out W4 k u es (.slice aa na ac) hlt (hwr.trans (hB4.mono hwr.size)) hes (hFd.below hB4) r5
      rw [← hjs] at KF
      obtain ⟨kd, hkd⟩ : ∃ z, z = S (ruleD P k).kind := ⟨_, rfl⟩
      obtain ⟨qa, hqa⟩ : ∃ z, z = (ruleD P k).a := ⟨_, rfl⟩
      obtain ⟨qb, hqb⟩ : ∃ z, z = (ruleD P k).b := ⟨_, rfl⟩
      obtain ⟨qs, hqs⟩ : ∃ z, z = (ruleD P k).stmt := ⟨_, rfl⟩
      rw [← hkd] at r0 KF hbx hW4
      rw [← hqa] at r1 KF hbx hW4
      rw [← hqb] at r2 KF hbx hW4
      rw [← hqs] at r3 KF hbx hW4
      have HKF : Hid _ := KF
      have HT : Hid (((rulesD P).take (k + 1)).flatMap (followD P hs) = es ++ js) := hT
      have p0 : W4.cell? ⟨w.heap.size, 0, none⟩ = some v1 := cell_keep hB4 (by rw [Lib.cell_of_heap hkb]; rfl)
      have p1 : W4.cell? ⟨w.heap.size, 1, none⟩ = some v2 := cell_keep hB4 (by rw [Lib.cell_of_heap hkb]; rfl)
      have p2 : W4.cell? ⟨w.heap.size, 2, none⟩ = some v3 := cell_keep hB4 (by rw [Lib.cell_of_heap hkb]; rfl)
      have c0 : W4.cell? ⟨wr.heap.size, 0, none⟩ = some (.string kd) := by rw [Lib.cell_of_heap hbx]; rfl
      have c1 : W4.cell? ⟨wr.heap.size, 1, none⟩ = some (.int .i64 qa) := by rw [Lib.cell_of_heap hbx]; rfl
      have c2 : W4.cell? ⟨wr.heap.size, 2, none⟩ = some (.int .i64 qb) := by rw [Lib.cell_of_heap hbx]; rfl
      have c3 : W4.cell? ⟨wr.heap.size, 3, none⟩ = some (.int .i64 qs) := by rw [Lib.cell_of_heap hbx]; rfl
      have c4 : W4.cell? ⟨wr.heap.size, 4, none⟩ = some (.slice aa na ac) := by rw [Lib.cell_of_heap hbx]; rfl
      have HB4 : Hid (Below w.heap.size w W4 ∧ KE W W4) := ⟨hwr.trans (hB4.mono hwr.size), hke.trans (KE.of_below hB4)⟩
      clear hna hFd hkd hqa hqb hqs hes hjs hT KF hbx hkb r5 r6 hB4
      go_upto_region 5 with fail
      rw [← hW4]
      clear hW4 r0 r1 r2 r3 r4
      go_wp2_with (go_at_call 120; refine Calls.mono HKF.out ?_; rintro e w5 ⟨rfl, u5, hF5, hb5, hk5⟩)
      go_roundw
      case rel => exact ⟨k + 1, hlt, by go_num, ⟨u5, by rw [HT.out]; exact hF5⟩, HB4.out.1.trans hb5, HB4.out.2.trans hk5⟩
      case measure => simp [intOf]; omega
    · have hkn : k = n := by omega
      subst hkn
      have htk : (rulesD P).take k = rulesD P := List.take_of_length_le (by rw [rulesD_len, HN.out]; exact Nat.le_refl _)
      rw [htk] at hFd
      have c0 : wr.cell? ⟨w.heap.size + 1, 0, none⟩ = some u := by rw [Lib.cell_of_heap hFd.blk]; rfl
      have KT : Hid (Calls Tryz.prog 122 #[u] wr fun e w' => ∃ v es', e = .returned v ∧ IsPairs w' v es' ∧ EdgeSet (foundD P hs) es' ∧ Below w.heap.size wr w') := tidy_any (foundD P hs) u wr w.heap.size HFL.out hFd.row
      clear hFd htk
      go_wp2_with fail
      refine KT.out.mono ?_
      rintro e w6 ⟨v, es', rfl, h1, h2, h3⟩
      go_wp2_with fail
      go_ret
      exact ⟨v, es', rfl, h1, h2, hwr.trans h3⟩
end Go.Proofs.YtglonlpfnllocaaGreatDoor

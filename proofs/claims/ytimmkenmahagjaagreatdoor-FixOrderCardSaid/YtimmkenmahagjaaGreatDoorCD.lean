/-
  Package cons: slices.DeleteFunc at edges, by a contract.
-/
import Derived.Test.YtimmkenmahagjaaGreatDoorCT
namespace Go.Proofs.YtimmkenmahagjaaGreatDoor
open Go.RowKit Go.Extern.Stop Go.Stop Go.Extern

/-- 'clear' of a slice of edges. -/
theorem run_clearE (w : World) (ty : TypeId) (b o n c : Nat) (hn : 0 < n) (hc : ∀ j, j < n * 2 → (w.cell? ⟨b, o + j, none⟩).isSome = true) (hf : ∀ j, j < n * 2 → w.frozen? ⟨b, o + j, none⟩ = false) :
    (Builtin.clear_ #[TSE] ty #[.slice (some ⟨b, o, none⟩) n c]).run Tryz.prog w = .ok (.tuple #[]) (w.setCells b o (List.replicate (n * 2) (.int .i64 0))) := by
  have hzc : (Builtin.zeroCells (Value.agg #[.int .i64 0, .int .i64 0]).cells n).toList = List.replicate (n * 2) (.int .i64 0) := by
    have hz : (Value.agg #[.int .i64 0, .int .i64 0]).cells = #[.int .i64 0, .int .i64 0] := by rfl
    rw [hz]
    simp only [Builtin.zeroCells, Array.toList_map, Array.toList_range]
    apply List.ext_getElem
    · simp
    · intro i h1 h2
      simp only [List.getElem_map, List.getElem_replicate]
      have h : i % 2 = 0 ∨ i % 2 = 1 := by omega
      rcases h with h | h <;> simp [h]
  have hst := run_storeCells_cells (P := Tryz.prog) b o (List.replicate (n * 2) (.int .i64 0)) 0 w (by simpa using hc) (by simpa using hf) (by intro v hv'; rw [List.eq_of_mem_replicate hv']; rfl)
  simp only [Nat.add_zero] at hst
  obtain ⟨m, rfl⟩ : ∃ m, n = m + 1 := ⟨n - 1, by omega⟩
  simp [Builtin.clear_, run_underlying Tryz.underlying49, Tryz.zeroValue58, hzc, hst]

def keepE (es : List Pair) : List Pair := es.filter fun p => !selfB p
theorem keepE_snoc (es : List Pair) (k : Nat) (h : k < es.length) : keepE (es.take (k + 1)) = keepE (es.take k) ++ (if selfB (es.getD k default) then [] else [es.getD k default]) := by
  unfold keepE
  rw [take_snoc es default k h, List.filter_append]
  congr 1
  by_cases e : selfB (es.getD k default) = true
  · rw [if_pos e, List.filter_cons_of_neg (by rw [e]; decide), List.filter_nil]
  · rw [if_neg e, List.filter_cons_of_pos (by simpa using e), List.filter_nil]
theorem keepE_all (es : List Pair) (h : ∀ j, j < es.length → selfB (es.getD j default) = false) : keepE es = es := by
  unfold keepE
  rw [List.filter_eq_self]
  intro p hp
  obtain ⟨j, hj, rfl⟩ := List.mem_iff_getElem.1 hp
  have := h j hj
  rw [show es.getD j default = es[j] by simp [List.getD, hj]] at this
  simp [this]
theorem keepE_len (es : List Pair) : (keepE es).length ≤ es.length := List.length_filter_le _ _
/-- How far slices.DeleteFunc has come: j were looked at, i stay. -/
structure DelI (es xs : List Pair) (i j : Nat) : Prop where
  len : xs.length = es.length
  le : j ≤ es.length
  got : xs.take i = keepE (es.take j)
  lt : i < j
  rest : ∀ l, j ≤ l → xs.getD l default = es.getD l default
theorem DelI.cnt {es xs : List Pair} {i j : Nat} (h : DelI es xs i j) : (keepE (es.take j)).length = i := by
  rw [← h.got, List.length_take, h.len]
  have := h.le; have := h.lt; omega
theorem DelI.skip {es xs : List Pair} {i j : Nat} (h : DelI es xs i j) (hj : j < es.length) (hs : selfB (es.getD j default) = true) : DelI es xs i (j + 1) :=
  ⟨h.len, hj, by rw [keepE_snoc es j hj, if_pos hs, List.append_nil]; exact h.got, by have := h.lt; omega, fun l hl => h.rest l (by omega)⟩
theorem take_set_last {α : Type} (xs : List α) (i : Nat) (x : α) (h : i < xs.length) : (xs.set i x).take (i + 1) = xs.take i ++ [x] := by
  rw [List.take_succ_eq_append_getElem (by simpa using h)]
  simp [List.take_set_of_le]
theorem getD_set_otherE {α : Type} (l : List α) (i j : Nat) (x d : α) (h : i ≠ j) : (l.set i x).getD j d = l.getD j d := by simp [List.getD, h]
theorem DelI.stay {es xs : List Pair} {i j : Nat} (h : DelI es xs i j) (hj : j < es.length) (hs : selfB (es.getD j default) = false) : DelI es (xs.set i (es.getD j default)) (i + 1) (j + 1) := by
  have hi : i < xs.length := by rw [h.len]; have := h.lt; omega
  refine ⟨by simpa using h.len, hj, ?_, by have := h.lt; omega, fun l hl => ?_⟩
  · rw [keepE_snoc es j hj, if_neg (by rw [hs]; decide), take_set_last _ _ _ hi, h.got]
  · rw [getD_set_otherE _ _ _ _ _ (by have := h.lt; omega)]
    exact h.rest l (by omega)

set_option maxRecDepth 100000 in
set_option maxHeartbeats 8000000 in
theorem deleteE_any (es : List Pair) (w : World) (B g cap : Nat) (hn : es.length ≤ 1000000) (hcap : es.length ≤ cap) (hB : B ≤ g) (hg : g < w.heap.size) (h : RowE w g es) :
    Calls Tryz.prog 112 #[.slice (some ⟨g, 0, none⟩) es.length cap, .func (.func 113) #[] #[]] w fun e w' => e = .returned (.slice (some ⟨g, 0, none⟩) (keepE es).length cap) ∧ RowE w' g (keepE es) ∧ Below B w w' := by
  have H : Hid (RowE w g es) := h
  obtain ⟨n, hnn⟩ : ∃ n, n = es.length := ⟨_, rfl⟩
  have KI := indexE_any es w g cap hn h
  rw [← hnn] at hn hcap KI ⊢
  have HK : Hid (Calls Tryz.prog 84 #[.slice (some ⟨g, 0, none⟩) n cap, .func (.func 113) #[] #[]] w fun e w' => ((e = .returned (.int .i64 (-1)) ∧ ∀ j, j < n → selfB (es.getD j default) = false) ∨ ∃ k : Nat, k < n ∧ e = .returned (.int .i64 (k : Int)) ∧ selfB (es.getD k default) = true ∧ ∀ j, j < k → selfB (es.getD j default) = false) ∧ Below w.heap.size w w') := KI
  have HN : Hid (n = es.length ∧ B ≤ g) := ⟨hnn, hB⟩
  have hBw : B ≤ w.heap.size := by omega
  clear h hnn KI hB
  go_enter Tryz.func112, Tryz.ntmps112
  go_wp2_with fail
  refine HK.out.mono ?_
  rintro e w1 ⟨hcase, hB1⟩
  have H1 : Hid (RowE w1 g es) := H.out.below hB1
  have HB1 : Hid (Below B w w1) := hB1.mono hBw
  have hg1 : g < w1.heap.size := Nat.lt_of_lt_of_le hg hB1.size
  clear HK hB1 H hg
  rcases hcase with ⟨rfl, hall⟩ | ⟨k0, hk0, rfl, hyes, hall⟩
  · have hk : keepE es = es := keepE_all es (by rw [← HN.out.1]; exact hall)
    have HX : Hid (keepE es = es) := hk
    clear hall hk
    go_wp2_with fail
    go_ret
    exact ⟨by rw [HX.out, ← HN.out.1]; first | done | rfl, by rw [HX.out]; exact H1.out, HB1.out⟩
  · have HI0 : Hid (DelI es es k0 (k0 + 1)) := by
      have hle : k0 < es.length := by rw [← HN.out.1]; exact hk0
      refine ⟨rfl, hle, ?_, Nat.lt_succ_self _, fun _ _ => rfl⟩
      rw [keepE_snoc es k0 hle, if_pos hyes, List.append_nil, keepE_all (es.take k0) (fun j hj => ?_)]
      rw [List.length_take] at hj
      have : (es.take k0).getD j default = es.getD j default := by simp only [List.getD]; rw [List.getElem?_take_of_lt (by omega)]
      rw [this]
      exact hall j (by omega)
    have hne : ((k0 : Int) == -1) = false := by simp
    clear hall hyes
    go_wp2_with fail
    try rw [hne]
    clear hne
    go_loopw [5, 6] (fun ti tj wr => ∃ (i j : Nat) (xs : List Pair), ti = .int .i64 i ∧ tj = .int .i64 j ∧ j ≤ n ∧ i < j ∧ DelI es xs i j ∧ RowE wr g xs ∧ Below B w wr ∧ g < wr.heap.size) (fun _ tj _ => (n - intOf tj).toNat)
    case atStart => exact ⟨k0, k0 + 1, es, rfl, by go_num, hk0, Nat.lt_succ_self _, HI0.out, H1.out, HB1.out, hg1⟩
    case round =>
      obtain ⟨i, j, xs, rfl, rfl, hj, hij, hI, hR, hwr, hgr⟩ := hrel
      have hxl : xs.length = n := by rw [hI.len, ← HN.out.1]
      have hBr : B ≤ wr.heap.size := Nat.le_trans HN.out.2 (Nat.le_of_lt hgr)
      by_cases hlt : j < n
      · obtain ⟨e0, e1, -, -⟩ := hR.pair j (by omega)
        rw [hI.rest j (Nat.le_refl _)] at e0 e1
        have hji : (j : Int) < n := by omega
        have hii : (i : Int) < n := by omega
        have hje : j < es.length := by rw [← HN.out.1]; exact hlt
        obtain ⟨p, hp⟩ : ∃ p, p = es.getD j default := ⟨_, rfl⟩
        rw [← hp] at e0 e1
        obtain ⟨x, hx⟩ : ∃ x, x = p.1 := ⟨_, rfl⟩
        obtain ⟨y, hy⟩ : ∃ y, y = p.2 := ⟨_, rfl⟩
        obtain ⟨D, hD⟩ : ∃ D, D = selfB p := ⟨_, rfl⟩
        obtain ⟨W2, hW2⟩ : ∃ W2, W2 = wr.alloc (.cells #[.int .i64 x, .int .i64 y] TE) := ⟨_, rfl⟩
        have HT : Hid (Calls Tryz.prog 113 #[.agg #[.int .i64 x, .int .i64 y]] W2 fun e w' => e = .returned (.bool D) ∧ Below W2.heap.size W2 w') := by
          have := tidy1_any p W2
          rw [← hx, ← hy, ← hD] at this
          exact this
        rw [← hx] at e0
        rw [← hy] at e1
        have hB2 : Below wr.heap.size wr W2 := by rw [hW2]; exact below1 wr _
        have hbx : W2.heap[wr.heap.size]? = some (.cells #[.int .i64 x, .int .i64 y] TE (0, 0)) := by rw [hW2]; exact heap_new wr _
        have HI : Hid (DelI es xs i j ∧ D = selfB (es.getD j default) ∧ x = (es.getD j default).1 ∧ y = (es.getD j default).2) := ⟨hI, by rw [hD, hp], by rw [hx, hp], by rw [hy, hp]⟩
        have HR2 : Hid (RowE W2 g xs ∧ Below B w W2) := ⟨hR.below hB2, hwr.trans (hB2.mono hBr)⟩
        have hg2 : g < W2.heap.size := Nat.lt_of_lt_of_le hgr hB2.size
        have hgn : g ≠ wr.heap.size := by omega
        clear hp hx hy hD hI hR
        go_upto_region 8 with fail
        rw [← hW2]
        clear hW2
        have b0 : W2.cell? ⟨wr.heap.size, 0, none⟩ = some (.int .i64 x) := by rw [Lib.cell_of_heap hbx]; rfl
        have b1 : W2.cell? ⟨wr.heap.size, 1, none⟩ = some (.int .i64 y) := by rw [Lib.cell_of_heap hbx]; rfl
        go_wp2_with fail
        refine HT.out.mono ?_
        rintro e w3 ⟨rfl, hB3⟩
        replace b0 := cell_keep hB3 b0
        replace b1 := cell_keep hB3 b1
        have HR3 : Hid (RowE w3 g xs ∧ Below B w w3) := ⟨HR2.out.1.below hB3, HR2.out.2.trans (hB3.mono (Nat.le_trans HN.out.2 (Nat.le_of_lt hg2)))⟩
        have hg3 : g < w3.heap.size := Nat.lt_of_lt_of_le hg2 hB3.size
        clear e0 e1 hB3 HR2 hbx
        cases D with
        | true =>
          go_wp2_with fail
          go_roundw
          case rel => exact ⟨i, j + 1, xs, rfl, by go_num, hlt, by omega, HI.out.1.skip hje HI.out.2.1.symm, HR3.out.1, HR3.out.2, hg3⟩
          case measure => simp [intOf]; omega
        | false =>
          obtain ⟨q0, q1, f0, f1⟩ := HR3.out.1.pair i (by rw [HI.out.1.len]; omega)
          obtain ⟨q0v, hq0⟩ : ∃ v, v = (xs.getD i default).1 := ⟨_, rfl⟩
          obtain ⟨q1v, hq1⟩ : ∃ v, v = (xs.getD i default).2 := ⟨_, rfl⟩
          rw [← hq0] at q0
          rw [← hq1] at q1
          clear hq0 hq1
          have HS : Hid (RowE (setE w3 g i (x, y)) g (xs.set i (es.getD j default)) ∧ Below B w (setE w3 g i (x, y)) ∧ DelI es (xs.set i (es.getD j default)) (i + 1) (j + 1)) := by
            refine ⟨?_, (HR3.out.2.setCell HN.out.2 _).setCell HN.out.2 _, HI.out.1.stay hje HI.out.2.1.symm⟩
            have := HR3.out.1.set i (by rw [HI.out.1.len]; omega) (es.getD j default)
            rw [HI.out.2.2.1, HI.out.2.2.2]
            exact this
          have hgs : g < (setE w3 g i (x, y)).heap.size := by simpa using hg3
          go_wp2_with fail
          go_roundw
          case rel => exact ⟨i + 1, j + 1, xs.set i (es.getD j default), by go_num, by go_num, hlt, by omega, HS.out.2.2, HS.out.1, HS.out.2.1, hgs⟩
          case measure => simp [intOf]; omega
      · have hjn : j = n := by omega
        subst hjn
        have hcnt := hI.cnt
        have htk : es.take j = es := List.take_of_length_le (by rw [← HN.out.1]; exact Nat.le_refl _)
        have hgot := hI.got
        rw [htk] at hcnt hgot
        have hcl := fun ty => run_clearE wr ty g (i * 2) (j - i) (cap - i) (by omega) (fun t ht => by rw [(hR.pos (i * 2 + t) (by omega)).1, List.getElem?_eq_getElem (by rw [ecells_len]; omega)]; rfl) (fun t ht => (hR.pos (i * 2 + t) (by omega)).2)
        have HE : Hid (RowE (wr.setCells g (i * 2) (List.replicate ((j - i) * 2) (.int .i64 0))) g (keepE es) ∧ Below B w (wr.setCells g (i * 2) (List.replicate ((j - i) * 2) (.int .i64 0))) ∧ (keepE es).length = i) := by
          refine ⟨?_, below_setCells hwr HN.out.2 _ _, hcnt⟩
          rw [← hgot]
          refine (hR.take i).setCells _ _ ?_
          rw [hgot, hcnt]; exact Nat.le_refl _
        have hic : i ≤ cap := by omega
        have hij2 : (i : Int) ≤ j := by omega
        have hijc : (j : Int) ≤ cap := by omega
        clear hcnt htk hgot hI hR
        go_wp2_with fail
        go_ret
        exact ⟨by rw [HE.out.2.2]; rfl, HE.out.1, HE.out.2.1⟩
end Go.Proofs.YtimmkenmahagjaaGreatDoor

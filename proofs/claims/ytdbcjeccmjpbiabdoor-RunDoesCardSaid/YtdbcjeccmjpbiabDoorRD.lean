/-
  Package run: (*machine).newThing, newCells, by contracts.
-/
import Derived.Test.YtdbcjeccmjpbiabDoorRC
import Derived.Deep.OwnRows
namespace Go.Proofs.YtdbcjeccmjpbiabDoor
open Go.RowKit Go.Extern.Stop Go.Stop Go.Extern

theorem Mach.cellsM {w : World} {B Bt mb n1 n2 : Nat} {s : StD} {l : Lay} {v1 v2 v3 xv xf xt xp : Value} (h : Mach w B Bt mb n1 n2 s l v1 v2 v3 xv xf xt xp) : w.cell? ⟨mb, 0, none⟩ = some v1 ∧ w.cell? ⟨mb, 1, none⟩ = some v2 ∧ w.cell? ⟨mb, 2, none⟩ = some v3 ∧ w.cell? ⟨mb, 3, none⟩ = some xv ∧ w.cell? ⟨mb, 4, none⟩ = some xf ∧ w.cell? ⟨mb, 5, none⟩ = some xt ∧ w.cell? ⟨mb, 6, none⟩ = some xp := by
  refine ⟨?_, ?_, ?_, ?_, ?_, ?_, ?_⟩ <;> (rw [Lib.cell_of_heap h.blk]; rfl)

set_option maxRecDepth 100000 in
set_option maxHeartbeats 4000000 in
theorem newThing_any {w : World} {B Bt mb n1 n2 : Nat} {s : StD} {l : Lay} {v1 v2 v3 xv xf xt xp : Value} (h : Mach w B Bt mb n1 n2 s l v1 v2 v3 xv xf xt xp) (k : Int) (hl : s.things.length ≤ 1000000) :
    Calls Tryd.prog 42 #[.pointer (some ⟨mb, 0, none⟩), .int .i64 k] w fun e w' => e = .returned (ptrV w.heap.size) ∧ ∃ xt' xp', Mach w' B Bt mb n1 n2 (addT s k) (layT l w.heap.size) v1 v2 v3 xv xf xt' xp' ∧ Below B w w' := by
  obtain ⟨v', w2, hr, d0, d1, ⟨ya, yn, yc, rfl⟩, v2', w3, hr3, k0, e0, e1, ⟨za, zn, zc, rfl⟩, hM, hB⟩ := h.addThing k hl _ rfl
  obtain ⟨-, -, -, -, -, c5, c6⟩ := h.cellsM
  obtain ⟨ta, tc, rfl⟩ := owns_form h.rt
  obtain ⟨pa, pc, rfl⟩ := owns_form h.rp
  have hmb : mb < w.heap.size := lt_of_cell c5
  have c5' := fun o => cell_keep (below1 w o) c5
  have c5'' := fun o o' => cell_keep ((below1 w o).alloc (by simp) o') c5
  obtain ⟨nt, hnt⟩ : ∃ n, n = s.things.length := ⟨_, rfl⟩
  obtain ⟨np, hnp⟩ : ∃ n, n = s.places.length := ⟨_, rfl⟩
  have hsz : (w2.setCell ⟨mb, 5, none⟩ (.slice ya yn yc)).heap.size = w2.heap.size := by simp
  rw [hsz] at hr3
  rw [← hnt] at hr c5 c5' c5'' d0
  rw [← hnp] at hr3 k0 e0 c6
  have k0' := fun o => cell_keep (below1 _ o) k0
  have HM : Hid (∃ xt' xp', Mach (w3.setCell ⟨mb, 6, none⟩ (.slice za zn zc)) B Bt mb n1 n2 (addT s k) (layT l w.heap.size) v1 v2 v3 xv xf xt' xp' ∧ Below B w (w3.setCell ⟨mb, 6, none⟩ (.slice za zn zc))) := ⟨_, _, hM, hB⟩
  unfold ptrV at hr
  unfold ptrV
  clear hM hB h hnt hnp hl hsz c6
  go_enter Tryd.func42, Tryd.ntmps42
  go_wp2_with (at_builtin; first | (refine Lib.wpList_append_run _ rfl _ _ _ _ rfl _ _ rfl rfl _ _ hr ?_) | (refine Lib.wpList_append_run _ rfl _ _ _ _ rfl _ _ rfl rfl _ _ hr3 ?_))
  go_ret
  exact ⟨rfl, HM.out⟩

theorem set_other (w : World) (g k : Nat) (x : Value) (b : Nat) (h : g ≠ b) : (w.setCell ⟨g, k, none⟩ x).heap[b]? = w.heap[b]? := by
  simp only [World.setCell, Array.getElem?_modify]
  rw [if_neg h]
theorem new_at (w : World) (n : Nat) (o : Obj) (h : w.heap.size = n) : (w.alloc o).heap[n]? = some o := by
  subst h; exact heap_new w o
/-- So far k cells are laid. -/
def laidC (bs : Nat → Nat) (k : Nat) (j : Nat) : Value := if j < k then ptrV (bs j) else .pointer none
theorem make_cells (n : Nat) (hn : n ≤ 1000000) (w : World) : (Instr.makeSlice 86 (.int .i64 (n : Int)) (.int .i64 (n : Int))).run Tryd.prog w = .ok (.slice (some ⟨w.heap.size, 0, none⟩) n n) (w.alloc (.cells (madeCells #[.pointer none] n) 90)) :=
  Go.run_make_row' (P := Tryd.prog) 86 90 (.pointer none) 8 Tryd.underlying86 Tryd.infoCellP rfl .i64 .i64 n (by omega) (by omega) w
theorem owns_of_row {w : World} {g n : Nat} {e : TypeId} {bs : List Nat} (hl : bs.length = n) (hn : n ≤ 1000000) (h : w.rowIs g e n (fun j => ptrV (bs.getD j 0))) : w.ownsRow g e 1 (.slice (some ⟨g, 0, none⟩) n n) n (bs.map ptrV) := by
  obtain ⟨c, h1, h2, h3⟩ := h
  refine ⟨by simp [hl], Or.inr ⟨g, n, c, rfl, Nat.le_refl _, h1, Nat.le_refl _, by unfold maxLen; omega, by simp [h2], ?_⟩⟩
  apply List.ext_getElem?
  intro i
  by_cases hi : i < n
  · have := h3 i hi
    rw [List.getElem?_take_of_lt (by simpa using hi)]
    simp only [Array.getElem?_toList]
    rw [this]
    simp [List.getD, show i < bs.length by omega]
  · rw [List.getElem?_eq_none (by simp; omega), List.getElem?_eq_none (by simp; omega)]

set_option maxRecDepth 100000 in
set_option maxHeartbeats 4000000 in
theorem newCells_any (kb : ByteArray) (n : Nat) (w : World) (hn : n ≤ 1000000) :
    Calls Tryd.prog 40 #[.string kb, .int .i64 (n : Int)] w fun e w' => ∃ bs : List Nat, bs.length = n ∧ e = .returned (.slice (some ⟨w.heap.size, 0, none⟩) n n) ∧ w'.ownsRow w.heap.size 90 1 (.slice (some ⟨w.heap.size, 0, none⟩) n n) n (bs.map ptrV) ∧ (∀ i, i < n → w.heap.size ≤ bs.getD i 0 ∧ w'.heap[bs.getD i 0]? = some (.cells #[.string kb, .int .i64 (i : Int), .pointer none] 92 (0, 0))) ∧ Below w.heap.size w w' := by
  have hmk := make_cells n hn
  go_enter Tryd.func40, Tryd.ntmps40
  go_wp2_with fail
  clear hmk
  go_loopw [11] (fun t wr => ∃ (k : Nat) (bs : List Nat), k ≤ n ∧ bs.length = k ∧ t = .int .i64 k ∧ wr.rowIs w.heap.size 90 n (laidC (fun j => bs.getD j 0) k) ∧ (∀ i, i < k → w.heap.size < bs.getD i 0 ∧ wr.heap[bs.getD i 0]? = some (.cells #[.string kb, .int .i64 (i : Int), .pointer none] 92 (0, 0))) ∧ Below w.heap.size w wr) (fun t _ => (n - intOf t).toNat)
  case atStart =>
    refine ⟨0, [], Nat.zero_le _, rfl, rfl, ?_, fun i hi => absurd hi (Nat.not_lt_zero _), below1 w _⟩
    exact ((World.rowIs_made w (.pointer none) n 90).congr fun i hi => by unfold laidC; rw [if_neg (Nat.not_lt_zero _)])
  case round =>
    obtain ⟨k, bs, hk, hbl, rfl, hrow, hcs, hB⟩ := hrel
    have hgz : w.heap.size < wr.heap.size := by
      obtain ⟨c, h1, _⟩ := hrow
      exact (Array.getElem?_eq_some_iff.1 h1).1
    by_cases hlt : k < n
    · have hfz := fun o => (hrow.alloc o).frozen k
      have hcl := fun o => (hrow.alloc o).cell hlt
      have HR : Hid (wr.rowIs w.heap.size 90 n (laidC (fun j => bs.getD j 0) k)) := hrow
      have HC : Hid (∀ i, i < k → w.heap.size < bs.getD i 0 ∧ wr.heap[bs.getD i 0]? = some (.cells #[.string kb, .int .i64 (i : Int), .pointer none] 92 (0, 0))) := hcs
      clear hrow hcs
      go_wp2_with fail
      go_roundw
      case rel =>
        refine ⟨k + 1, bs ++ [wr.heap.size], hlt, by simp [hbl], by go_num, ?_, ?_, ?_⟩
        · refine ((HR.out.set k _).alloc _).congr fun i hi => ?_
          unfold laidC
          by_cases e : i = k
          · rw [if_pos e, if_pos (by omega)]
            show _ = ptrV ((bs ++ [wr.heap.size]).getD i 0)
            rw [getD_snoc_last bs wr.heap.size 0 i (by omega)]; rfl
          · rw [if_neg e]
            by_cases g : i < k
            · rw [if_pos g, if_pos (by omega)]
              show _ = ptrV ((bs ++ [wr.heap.size]).getD i 0)
              rw [getD_snoc_left bs wr.heap.size 0 i (by omega)]
            · rw [if_neg g, if_neg (by omega)]
        · intro i hi
          by_cases g : i < k
          · rw [getD_snoc_left bs wr.heap.size 0 i (by omega)]
            obtain ⟨q1, q2⟩ := HC.out i g
            refine ⟨q1, block_keep (below1 _ _) ?_⟩
            rw [set_other _ _ _ _ _ (by omega)]; exact q2
          · have hik : i = k := by omega
            subst hik
            rw [getD_snoc_last bs wr.heap.size 0 i (by omega)]
            exact ⟨hgz, new_at _ _ _ (by simp)⟩
        · have hb := hB.setCell (p := ⟨w.heap.size, k, none⟩) (Nat.le_refl _) (.pointer (some ⟨wr.heap.size, 0, none⟩))
          exact hb.alloc hb.size _
      case measure => simp [intOf]; omega
    · have hkn : k = n := by omega
      subst hkn
      have HF : Hid (wr.ownsRow w.heap.size 90 1 (.slice (some ⟨w.heap.size, 0, none⟩) k k) k (bs.map ptrV)) := owns_of_row hbl hn (hrow.congr fun i hi => by unfold laidC; rw [if_pos hi])
      have HC : Hid (∀ i, i < k → w.heap.size < bs.getD i 0 ∧ wr.heap[bs.getD i 0]? = some (.cells #[.string kb, .int .i64 (i : Int), .pointer none] 92 (0, 0))) := hcs
      clear hrow hcs
      go_wp2_with fail
      go_ret
      exact ⟨bs, hbl, rfl, HF.out, fun i hi => ⟨Nat.le_of_lt (HC.out i hi).1, (HC.out i hi).2⟩, hB⟩
end Go.Proofs.YtdbcjeccmjpbiabDoor

/-
  A row of rows of one's own that was grown by append: rows apart.
-/
import Derived.Test.YtglonlpfnllocaaGreatDoorZFM
import Derived.Test.YtglonlpfnllocaaGreatDoorXSM
import Derived.Test.YtglonlpfnllocaaGreatDoorXMM
import Derived.Deep.OwnRows
import Derived.Test.YtglonlpfnllocaaGreatDoorG1M
import Derived.Deep.RegionHeld3
import Derived.Test.YtglonlpfnllocaaGreatDoorBase
import Derived.Test.YtglonlpfnllocaaGreatDoorXBM
import Derived.Test.YtglonlpfnllocaaGreatDoorPZ8M
import Derived.Lib.QuietBelow
namespace Go.Proofs.YtglonlpfnllocaaGreatDoor
open Go.RowKit Go.Extern.Stop Go.Stop Go.Extern

/-- As Rows2, but the row of rows may have room behind it. -/
structure Rows3 (w : World) (B g : Nat) (zss : List (List Int)) (us : List Value) : Prop where
  low : B ≤ g
  lu : us.length = zss.length
  blk : ∃ cur, w.heap[g]? = some (.cells cur TSI (0, 0)) ∧ us.length ≤ cur.size ∧ ∀ j, j < us.length → cur[j]? = us[j]?
  own : ∀ j, j < zss.length → w.ownsRow B 3 1 (us.getD j .nilIface) (zss.getD j []).length ((zss.getD j []).map intV)
  apart : ∀ i j, i < zss.length → j < zss.length → i ≠ j → ApartR (us.getD i .nilIface) (us.getD j .nilIface)
theorem Rows3.below {w w' : World} {B g : Nat} {zss : List (List Int)} {us : List Value} (h : Rows3 w B g zss us) (hb : Below w.heap.size w w') : Rows3 w' B g zss us := by
  obtain ⟨cur, h1, h2, h3⟩ := h.blk
  exact ⟨h.low, h.lu, ⟨cur, block_keep hb h1, h2, h3⟩, fun j hj => owns_below (h.own j hj) hb, h.apart⟩
theorem Rows3.cell {w : World} {B g : Nat} {zss : List (List Int)} {us : List Value} (h : Rows3 w B g zss us) (j : Nat) (hj : j < zss.length) : w.cell? ⟨g, j, none⟩ = some (us.getD j .nilIface) := by
  obtain ⟨cur, h1, h2, h3⟩ := h.blk
  have hju : j < us.length := by rw [h.lu]; exact hj
  rw [Lib.cell_of_heap h1, h3 j hju]
  simp [List.getD, hju]
theorem Rows3.form {w : World} {B g : Nat} {zss : List (List Int)} {us : List Value} (h : Rows3 w B g zss us) (j : Nat) (hj : j < zss.length) : ∃ a c, us.getD j .nilIface = .slice a (zss.getD j []).length c := owns_form (h.own j hj)
theorem Rows3.frz {w : World} {B g : Nat} {zss : List (List Int)} {us : List Value} (h : Rows3 w B g zss us) (j : Nat) : w.frozen? ⟨g, j, none⟩ = false := by
  obtain ⟨cur, h1, -⟩ := h.blk
  exact Lib.frozen_of_heap h1 j
theorem Rows3.ne {w : World} {B g : Nat} {zss : List (List Int)} {us : List Value} (h : Rows3 w B g zss us) (j : Nat) (hj : j < zss.length) : (us.getD j .nilIface).ownBlock ≠ some g := fun q => by
  obtain ⟨_, cs, hh⟩ := ownBlock_lt (h.own j hj) q
  obtain ⟨cur, h1, -⟩ := h.blk
  rw [h1] at hh
  injection hh with hh
  injection hh with _ h3 _
  exact absurd h3 (by decide)
theorem Rows3.ints {w : World} {B g : Nat} {zss : List (List Int)} {us : List Value} (h : Rows3 w B g zss us) (j : Nat) (hj : j < zss.length) : IsInts w (us.getD j .nilIface) (zss.getD j []) := by
  obtain ⟨a, c, e⟩ := h.form j hj
  have := h.own j hj
  rw [e] at this ⊢
  exact (isCap_of_owns this).1
theorem Rows3.isSets {w : World} {B g : Nat} {zss : List (List Int)} {us : List Value} (h : Rows3 w B g zss us) (c : Nat) : IsSets w (.slice (some ⟨g, 0, none⟩) zss.length c) zss :=
  ⟨_, c, rfl, fun j hj => ⟨g, 0, us.getD j .nilIface, rfl, by rw [Nat.zero_add]; exact h.cell j hj, h.ints j hj⟩⟩
/-- One row is turned into another one. -/
theorem Rows3.put {w w1 : World} {B g : Nat} {zss : List (List Int)} {us : List Value} (h : Rows3 w B g zss us) (k : Nat) (hk : k < zss.length) (v' : Value) (zs : List Int) (hkeep : KeepBut w w1 (us.getD k .nilIface).ownBlock)
    (hv : w1.ownsRow B 3 1 v' zs.length (zs.map intV)) (hob : v'.ownBlock = (us.getD k .nilIface).ownBlock ∨ ∀ g', v'.ownBlock = some g' → w.heap.size ≤ g') : Rows3 (w1.setCell ⟨g, k, none⟩ v') B g (zss.set k zs) (us.set k v') := by
  obtain ⟨cur, c1, c2, c3⟩ := h.blk
  have hb1 : w1.heap[g]? = some (.cells cur TSI (0, 0)) := hkeep g _ c1 (h.ne k hk)
  have hku : k < us.length := by rw [h.lu]; exact hk
  have hset := kept_setCell (i := k) hb1 v'
  refine ⟨h.low, by rw [List.length_set, List.length_set]; exact h.lu, ⟨cur.setIfInBounds k v', ?_, ?_, ?_⟩, fun j hj => ?_, fun i j hi hj hij => ?_⟩
  · exact set_block _ _ _ _ _ _ hb1 v'
  · rw [List.length_set, Array.size_setIfInBounds]; exact c2
  · intro j hj
    rw [List.length_set] at hj
    by_cases e : j = k
    · subst e
      rw [Array.getElem?_setIfInBounds_self_of_lt (by omega), List.getElem?_set_self hj]
    · rw [Array.getElem?_setIfInBounds_ne (fun q => e q.symm), List.getElem?_set_ne (fun q => e q.symm)]
      exact c3 j hj
  · rw [List.length_set] at hj
    by_cases e : j = k
    · subst e
      rw [show (zss.set j zs).getD j [] = zs by simp [List.getD, hk], show (us.set j v').getD j .nilIface = v' by simp [List.getD, hku]]
      exact owns_kept hv hset (by decide)
    · rw [getD_set_otherE _ _ _ _ _ (fun q => e q.symm), getD_set_otherE _ _ _ _ _ (fun q => e q.symm)]
      exact owns_kept (owns_keepBut (h.own j hj) hkeep (h.apart k j hk hj (fun q => e q.symm))) hset (by decide)
  · rw [List.length_set] at hi hj
    have key : ∀ j, j < zss.length → j ≠ k → ApartR v' (us.getD j .nilIface) := fun j hj hne => by
      rcases hob with q | q
      · have := h.apart k j hk hj (fun e => hne e.symm)
        unfold ApartR at this ⊢
        rw [q]; exact this
      · cases e1 : (us.getD j .nilIface).ownBlock with
        | none => exact Or.inl e1
        | some b =>
          right
          intro e2
          have h1 := q b (by rw [← e2, e1])
          have h2 := (ownBlock_lt (h.own j hj) e1).1
          omega
    by_cases e1 : i = k
    · subst e1
      rw [show (us.set i v').getD i .nilIface = v' by simp [List.getD, hku], getD_set_otherE _ _ _ _ _ hij]
      exact key j hj (fun q => hij q.symm)
    · by_cases e2 : j = k
      · subst e2
        rw [show (us.set j v').getD j .nilIface = v' by simp [List.getD, hku], getD_set_otherE _ _ _ _ _ (fun q => hij q.symm)]
        exact (key i hi hij).symm
      · rw [getD_set_otherE _ _ _ _ _ (fun q => e1 q.symm), getD_set_otherE _ _ _ _ _ (fun q => e2 q.symm)]
        exact h.apart i j hi hj hij
/-- Numbers more behind row k: the run of the append, and what is stored then. -/
theorem Rows3.more {w0 w : World} {g : Nat} {zss : List (List Int)} {us : List Value} (h : Rows3 w w0.heap.size g zss us) (hw : Below w0.heap.size w0 w) (k : Nat) (hk : k < zss.length) (x : Value) (zs : List Int) (hx : IsInts w x zs) (hbd : (zss.getD k []).length + zs.length ≤ 1000000000000) (ty : TypeId) :
    ∃ va vn vc w', (Builtin.append_ #[40, 40] ty #[us.getD k .nilIface, x]).run Tryz.prog w = .ok (.slice va vn vc) w' ∧ vn = ((zss.getD k []) ++ zs).length ∧ Rows3 (w'.setCell ⟨g, k, none⟩ (.slice va vn vc)) w0.heap.size g (zss.set k ((zss.getD k []) ++ zs)) (us.set k (.slice va vn vc)) ∧ Below w0.heap.size w w' ∧ KeepBut w w' (us.getD k .nilIface).ownBlock := by
  obtain ⟨v', w', hr, ho, hg, hb⟩ := append_intsX w w0.heap.size _ _ _ (h.own k hk) x zs hx hbd hw.size ty
  obtain ⟨va, vc, rfl⟩ := owns_form ho
  have hkb := KeepBut.of_grown hg
  refine ⟨va, _, vc, w', hr, by rw [List.length_append], ?_, below_of_grown hg hw.size (h.own k hk) (Nat.le_refl _), hkb⟩
  refine h.put k hk _ _ hkb ?_ ?_
  · rw [List.length_append, List.map_append]; exact ho
  · rcases hb with q | q
    · exact Or.inl q
    · right
      intro g' hg'
      rw [q] at hg'
      injection hg' with hg'
      omega
/-- The row of rows while it grows. -/
structure RowsG (w0 w : World) (u : Value) (zss : List (List Int)) (us : List Value) : Prop where
  lu : us.length = zss.length
  out : w.ownsRow w0.heap.size TSI 1 u zss.length us
  own : ∀ j, j < zss.length → w.ownsRow w0.heap.size 3 1 (us.getD j .nilIface) (zss.getD j []).length ((zss.getD j []).map intV)
  apart : ∀ i j, i < zss.length → j < zss.length → i ≠ j → ApartR (us.getD i .nilIface) (us.getD j .nilIface)
theorem RowsG.nil (w0 w : World) : RowsG w0 w (.slice none 0 0) [] [] := ⟨rfl, World.ownsRow_nil _ _ _ _, fun _ hj => absurd hj (Nat.not_lt_zero _), fun _ _ hi => absurd hi (Nat.not_lt_zero _)⟩
theorem RowsG.below {w0 w w' : World} {u : Value} {zss : List (List Int)} {us : List Value} (h : RowsG w0 w u zss us) (hb : Below w.heap.size w w') : RowsG w0 w' u zss us := ⟨h.lu, owns_below h.out hb, fun j hj => owns_below (h.own j hj) hb, h.apart⟩
theorem RowsG.add {w0 w wr : World} {u : Value} {zss : List (List Int)} {us : List Value} (h : RowsG w0 w u zss us) (hwr : Below w.heap.size w wr) (hB : Below w0.heap.size w0 w) (hl : zss.length ≤ 1000000) (va : Option Addr) (vc : Nat) (zs : List Int) (hv : wr.ownsRow w.heap.size 3 1 (.slice va zs.length vc) zs.length (zs.map intV)) :
    ∃ oa on oc w', (Builtin.append_ #[TSS, TSS] TSS #[u, .slice (some ⟨wr.heap.size, 0, none⟩) 1 1]).run Tryz.prog (wr.alloc (.cells #[.slice va zs.length vc] TSI)) = .ok (.slice oa on oc) w' ∧ on = zss.length + 1 ∧ RowsG w0 w' (.slice oa on oc) (zss ++ [zs]) (us ++ [.slice va zs.length vc]) ∧ Below w0.heap.size w0 w' := by
  have hr0 := h.below hwr
  have hB2 : Below w0.heap.size w0 wr := hB.trans (hwr.mono hB.size)
  obtain ⟨v', w', hr, ho, hb, hk⟩ := append_one wr w0.heap.size u zss.length 1 24 TSS TSI (.slice none 0 0) us [.slice va zs.length vc] hr0.out hB2.size Tryz.underlying36 Tryz.infoInts (by decide) rfl rfl (fun x hx => by
    simp only [List.mem_cons, List.not_mem_nil, or_false] at hx
    rw [hx]; rfl) hl TSS (by decide)
  obtain ⟨oa, oc, rfl⟩ := owns_form ho
  have hvB : wr.ownsRow w0.heap.size 3 1 (.slice va zs.length vc) zs.length (zs.map intV) := owns_mono hv hB.size
  refine ⟨oa, _, oc, w', hr, rfl, ⟨by rw [List.length_append, List.length_append, h.lu]; rfl, by rw [List.length_append]; exact ho, fun j hj => ?_, fun i j hi hj hij => ?_⟩, hB2.trans hb⟩
  · by_cases e : j < zss.length
    · rw [getD_snoc_left _ _ _ _ e, getD_snoc_left _ _ _ _ (by rw [h.lu]; exact e)]
      exact owns_kept (hr0.own j e) hk (by decide)
    · have e2 : j = zss.length := by rw [List.length_append, List.length_singleton] at hj; omega
      rw [getD_snoc_last _ _ _ _ e2, getD_snoc_last _ _ _ _ (by rw [h.lu]; exact e2)]
      exact owns_kept hvB hk (by decide)
  · have key : ∀ j, j < zss.length → ApartR (.slice va zs.length vc) (us.getD j .nilIface) := fun j hj => by
      cases e1 : (us.getD j .nilIface).ownBlock with
      | none => exact Or.inl e1
      | some b =>
        right
        intro e2
        have h2 := (ownBlock_lt (h.own j hj) e1).1
        rw [e1] at e2
        rcases hv.2 with ⟨q, _⟩ | ⟨g', cap, cur, q, hg', _⟩
        · rw [q] at e2; cases e2
        · rw [q] at e2
          have : b = g' := by simpa [Value.ownBlock] using e2
          omega
    rw [List.length_append, List.length_singleton] at hi hj
    by_cases e1 : i < zss.length
    · rw [getD_snoc_left us _ _ i (by rw [h.lu]; exact e1)]
      by_cases e2 : j < zss.length
      · rw [getD_snoc_left us _ _ j (by rw [h.lu]; exact e2)]
        exact h.apart i j e1 e2 hij
      · rw [getD_snoc_last us _ _ j (by rw [h.lu]; omega)]
        exact (key i e1).symm
    · rw [getD_snoc_last us _ _ i (by rw [h.lu]; omega)]
      by_cases e2 : j < zss.length
      · rw [getD_snoc_left us _ _ j (by rw [h.lu]; exact e2)]
        exact key j e2
      · omega
theorem RowsG.done {w0 w : World} {u : Value} {zss : List (List Int)} {us : List Value} (h : RowsG w0 w u zss us) (hn : 0 < zss.length) : ∃ g c, u = .slice (some ⟨g, 0, none⟩) zss.length c ∧ Rows3 w w0.heap.size g zss us := by
  rcases h.out.2 with ⟨q, e⟩ | ⟨g, cap, cur, hv, hg, hh, hcap, hmax, hsz, hcur⟩
  · omega
  · refine ⟨g, cap, hv, hg, h.lu, ⟨cur, hh, by rw [h.lu]; omega, fun j hj => ?_⟩, h.own, h.apart⟩
    rw [← hcur, List.getElem?_take_of_lt (by rw [h.lu] at hj; omega)]
    simp
end Go.Proofs.YtglonlpfnllocaaGreatDoor

/-
  Package set: holds, by a contract.
-/
namespace Go.Proofs.YtglonlpfnllocaaGreatDoor
open Go.RowKit Go.Extern.Stop Go.Stop Go.Extern Go.Sort

/-- holds: is a number one of numbers that do not fall? -/
theorem holds_any (zs : List Int) (v : Value) (x : Int) (w : World) (hm : zs.length ≤ 1000000) (h : IsInts w v zs) (hs : zs.Pairwise (· ≤ ·)) :
    Calls Tryz.prog 55 #[v, .int .i64 x] w fun e w' => e = .returned (.bool (zs.contains x)) ∧ Below w.heap.size w w' := by
  rcases h with ⟨hz, a, c, rfl⟩ | ⟨hz, b, o, c, rfl, hc⟩
  · subst hz
    go_enter Tryz.func55, Tryz.ntmps55
    go_wp2_with fail
    refine (Tryz.slices_BinarySearch_int_empty _ _ _ _).mono ?_
    rintro e w1 ⟨rfl, rfl⟩
    go_wp2
    go_ret
    exact ⟨rfl, Below.refl _ _⟩
  · have HC : Hid (∀ j, j < zs.length → w.cell? ⟨b, o + j, none⟩ = some (.int .i64 (zs.getD j 0))) := hc
    have HS : Hid (zs.Pairwise (· ≤ ·)) := hs
    clear hc hs hz
    go_enter Tryz.func55, Tryz.ntmps55
    go_wp2_with fail
    refine (Tryz.slices_BinarySearch_int b o zs.length c zs x w (Nat.le_refl _) (by omega) HC.out (by rw [List.take_length]; exact HS.out)).mono ?_
    rintro e w1 ⟨rfl, q, rfl⟩
    rw [List.take_length]
    obtain ⟨B, hBe⟩ : ∃ B, B = zs.contains x := ⟨_, rfl⟩
    rw [← hBe]
    have HBe : Hid (B = zs.contains x) := hBe
    clear hBe
    generalize List.countP (fun y => decide (y < x)) zs = C
    go_wp2
    go_ret
    exact ⟨by rw [← HBe.out]; rfl, below_drewN (Below.refl _ _) _⟩

theorem owns_belowS {w w' : World} {B : Nat} {e : TypeId} {k : Nat} {v : Value} {n : Nat} {xs : List Value} (h : w.ownsRow B e k v n xs) (hb : Below w.heap.size w w') : w'.ownsRow B e k v n xs := by
  refine ⟨h.1, ?_⟩
  rcases h.2 with h2 | ⟨g, cap, cur, hv, hg, hh, r⟩
  · exact Or.inl h2
  · have hl : g < w.heap.size := (Array.getElem?_eq_some_iff.1 hh).1
    exact Or.inr ⟨g, cap, cur, hv, hg, by rw [hb.block g hl]; exact hh, r⟩
theorem take_succ_getD (zs : List Int) (k : Nat) (h : k < zs.length) : zs.take (k + 1) = zs.take k ++ [zs.getD k 0] := by
  rw [List.take_succ_eq_append_getElem h]
  simp [List.getD, h]
end Go.Proofs.YtglonlpfnllocaaGreatDoor

/-
  The document's answer for the set of numbers (SetOf of package fingerpostref1), by a contract.
-/
namespace Go.Proofs.YtglonlpfnllocaaGreatDoor
open Go.RowKit Go.Extern.Stop Go.Stop Go.Extern Go.Sort

theorem Tryz.infoBool : (Tryz.prog.info? 4).map (fun i => (i.zero, i.size, i.bytes)) = some (some (.bool false), 1, 1) := by kernel_rfl

def falses : Array Value := madeCells #[.bool false] 1000
theorem falses_at (n : Nat) (h : n < 1000) : falses[n]? = some (.bool false) := by
  unfold falses madeCells
  simp [h, Nat.mod_one]
theorem make_falses (w : World) : (Instr.makeSlice 160 (.int .i64 1000) (.int .i64 1000)).run Tryz.prog w = .ok (.slice (some ⟨w.heap.size, 0, none⟩) 1000 1000) (w.alloc (.cells falses 4)) := by
  obtain ⟨i0, hi, hz0, hz1, hz2⟩ := info_parts Tryz.infoBool
  exact Go.run_make_row (P := Tryz.prog) 160 4 i0 (.bool false) Tryz.underlying160 hi hz0 hz1 rfl .i64 .i64 1000 (by rw [hz2]; omega) (by omega) w

/-- The block B holds, for each number below 1000, whether it is one of zs. -/
def Marks (w : World) (B : Nat) (zs : List Int) : Prop := ∃ cur, w.heap[B]? = some (.cells cur 4 (0, 0)) ∧ ∀ n, n < 1000 → cur[n]? = some (.bool (zs.contains (n : Int)))
theorem Marks.cell {w : World} {B : Nat} {zs : List Int} (h : Marks w B zs) (n : Nat) (hn : n < 1000) : w.cell? ⟨B, n, none⟩ = some (.bool (zs.contains (n : Int))) := by
  obtain ⟨cur, hb, hc⟩ := h
  simp only [World.cell?, hb]
  simpa using hc n hn
theorem Marks.frozen {w : World} {B : Nat} {zs : List Int} (h : Marks w B zs) (n : Nat) : w.frozen? ⟨B, n, none⟩ = false := by
  obtain ⟨cur, hb, hc⟩ := h
  simp [World.frozen?, hb]
theorem Marks.below {w w' : World} {B : Nat} {zs : List Int} (h : Marks w B zs) (hb : Below (B + 1) w w') : Marks w' B zs := by
  obtain ⟨cur, hh, hc⟩ := h
  exact ⟨cur, by rw [hb.block B (by omega)]; exact hh, hc⟩
theorem Marks.store {w : World} {B : Nat} {zs : List Int} (h : Marks w B zs) (z : Int) (h0 : 0 ≤ z) (h1 : z < 1000) : Marks (w.setCell ⟨B, z.toNat, none⟩ (.bool true)) B (zs ++ [z]) := by
  obtain ⟨cur, hb, hc⟩ := h
  refine ⟨cur.setIfInBounds z.toNat (.bool true), ?_, ?_⟩
  · simp [World.setCell, Array.getElem?_modify, hb]
  · intro n hn
    have hsz : n < cur.size := (Array.getElem?_eq_some_iff.1 (hc n hn)).1
    have hz : z.toNat < cur.size := (Array.getElem?_eq_some_iff.1 (hc z.toNat (by omega))).1
    rw [Array.getElem?_setIfInBounds]
    by_cases e : z.toNat = n
    · have : (n : Int) = z := by omega
      rw [if_pos e, if_pos (by omega)]
      simp [this]
    · have hne : (n : Int) ≠ z := by omega
      rw [if_neg e, hc n hn]
      simp [hne]

/-- The members below m. -/
def canonUp (zs : List Int) (m : Nat) : List Int := ((List.range m).filter fun n : Nat => zs.contains (n : Int)).map fun n : Nat => (n : Int)
theorem canonUp_length (zs : List Int) (m : Nat) : (canonUp zs m).length ≤ m := by
  unfold canonUp
  rw [List.length_map]
  exact Nat.le_trans (List.length_filter_le _ _) (by simp)
theorem canonUp_yes (zs : List Int) (m : Nat) (h : zs.contains (m : Int) = true) : canonUp zs (m + 1) = canonUp zs m ++ [(m : Int)] := by
  unfold canonUp
  rw [List.range_succ, List.filter_append, List.filter_cons_of_pos (p := fun n : Nat => zs.contains (n : Int)) h, List.filter_nil, List.map_append]
  rfl
theorem canonUp_no (zs : List Int) (m : Nat) (h : zs.contains (m : Int) = false) : canonUp zs (m + 1) = canonUp zs m := by
  unfold canonUp
  rw [List.range_succ, List.filter_append, List.filter_cons_of_neg (by rw [h]; exact Bool.false_ne_true), List.filter_nil, List.append_nil]

set_option maxRecDepth 100000 in
set_option maxHeartbeats 2000000 in
theorem ref_setOf_own (zs : List Int) (v : Value) (w : World) (hm : zs.length ≤ 1000000) (h : IsInts w v zs) (hin : InB zs) :
    Calls Tryz.prog 86 #[v] w fun e w' => ∃ v', e = .returned v' ∧ w'.ownsRow (w.heap.size + 1) 3 1 v' (canon zs).length ((canon zs).map (Value.int .i64)) ∧ Below w.heap.size w w' := by
  have HI : Hid (InB zs) := hin
  have H : Hid (IsInts w v zs) := h
  obtain ⟨va, vc, rfl⟩ := h.form
  have hmk := make_falses w
  clear hin h
  generalize hn : zs.length = n at *
  have HN : Hid (zs.length = n) := hn
  clear hn
  go_enter Tryz.func86, Tryz.ntmps86
  go_wp2_with fail
  clear hmk
  go_loopw [4] (fun t wr => ∃ k : Nat, k ≤ n ∧ t = .int .i64 k ∧ Marks wr w.heap.size (zs.take k) ∧ Below w.heap.size w wr ∧ w.heap.size < wr.heap.size) (fun t _ => (n - intOf t).toNat)
  case atStart => exact ⟨0, Nat.zero_le _, rfl, ⟨falses, heap_newS _ _, fun n hn => by rw [falses_at n hn]; simp⟩, (Below.refl _ _).alloc (Nat.le_refl _) _, by simp⟩
  case round =>
    obtain ⟨k, hk, rfl, hM, hB, hz⟩ := hrel
    have HM : Hid (Marks wr w.heap.size (zs.take k)) := hM
    clear hM
    by_cases hlt : k < n
    · rcases H.out with ⟨hzn, _⟩ | ⟨hzn, b, o, c, hv, hc⟩
      · exfalso; have := HN.out; rw [hzn] at this; simp at this; omega
      obtain ⟨rfl, _⟩ : va = some ⟨b, o, none⟩ ∧ True := ⟨by simpa using (Value.slice.inj hv).1, trivial⟩
      have e1 := cell_keep hB (hc k (by rw [HN.out]; exact hlt))
      have e2 := HI.out k (by rw [HN.out]; exact hlt)
      obtain ⟨z, hze⟩ : ∃ z, z = zs.getD k 0 := ⟨_, rfl⟩
      rw [← hze] at e1 e2
      have HZ : Hid (z = zs.getD k 0) := hze
      obtain ⟨e3, e4⟩ := e2
      have e5 := HM.out.cell z.toNat (by omega)
      have e6 := HM.out.frozen z.toNat
      clear hze hv hc hzn
      generalize (zs.take k).contains ((z.toNat : Nat) : Int) = bb at e5
      go_wp2_with fail
      go_roundw
      case rel =>
        refine ⟨k + 1, hlt, by go_num, ?_, hB.setCell (Nat.le_refl _) _, by simpa [World.setCell] using hz⟩
        rw [take_succ_getD zs k (by rw [HN.out]; exact hlt), ← HZ.out]
        exact HM.out.store z e3 e4
      case measure => simp [intOf]; omega
    · have hkn : k = zs.length := by rw [HN.out]; omega
      have HM2 : Hid (Marks wr w.heap.size zs) := by
        have := HM.out
        rw [hkn, List.take_length] at this
        exact this
      clear hkn
      clear HM
      obtain ⟨w0, rfl⟩ : ∃ w0, w0 = wr := ⟨_, rfl⟩
      have hz1 : w.heap.size + 1 ≤ w0.heap.size := hz
      go_wp2_with fail
      clear hlt hk
      go_loopw [5, 6] (fun u t wt => ∃ m : Nat, m ≤ 1000 ∧ t = .int .i64 m ∧ wt.ownsRow (w.heap.size + 1) 3 1 u (canonUp zs m).length ((canonUp zs m).map (Value.int .i64)) ∧ Below (w.heap.size + 1) w0 wt) (fun _ t _ => (1000 - intOf t).toNat)
      case atStart => exact ⟨0, Nat.zero_le _, rfl, World.ownsRow_nil _ _ _ _, Below.refl _ _⟩
      case round =>
        obtain ⟨m, hm2, rfl, ho, hBt⟩ := hrel
        have HO : Hid (wr.ownsRow (w.heap.size + 1) 3 1 u5 (canonUp zs m).length ((canonUp zs m).map (Value.int .i64))) := ho
        have hlen := canonUp_length zs m
        clear ho
        by_cases hlt : m < 1000
        · have e1 := (HM2.out.below hBt).cell m hlt
          cases hc : zs.contains (m : Int) with
          | true =>
            rw [hc] at e1
            have HC : Hid (zs.contains (m : Int) = true) := hc
            clear hc
            have ho2 : (wr.alloc (.cells #[.int .i64 m] 3)).ownsRow (w.heap.size + 1) 3 1 u5 (canonUp zs m).length ((canonUp zs m).map (Value.int .i64)) := HO.out.alloc _
            have hsz : w.heap.size + 1 ≤ (wr.alloc (.cells #[.int .i64 m] 3)).heap.size := by have := hBt.size; simp; omega
            obtain ⟨v', w2, hr, ho3, hg⟩ := run_append_ints (wr.alloc (.cells #[.int .i64 m] 3)) (w.heap.size + 1) u5 _ _ ho2 (.slice (some ⟨wr.heap.size, 0, none⟩) 1 1) [(m : Int)] (isInts_of_cells rfl (fun j hj => by
              obtain rfl : j = 0 := by simpa using hj
              simp)) (by simp; omega) hsz 40
            have hB2 : Below (w.heap.size + 1) w0 w2 := (hBt.alloc (by have := hBt.size; omega) _).trans (below_of_grownS hg hsz ho2 (Nat.le_refl _))
            have HX : Hid (w2.ownsRow (w.heap.size + 1) 3 1 v' (canonUp zs (m + 1)).length ((canonUp zs (m + 1)).map (Value.int .i64)) ∧ Below (w.heap.size + 1) w0 w2) := by
              refine ⟨?_, hB2⟩
              rw [canonUp_yes zs m HC.out]
              simpa using ho3
            clear ho2 ho3 hg hB2
            go_wp2_with (at_builtin; refine Lib.wpList_append_run _ rfl _ _ _ _ rfl _ _ rfl rfl _ _ hr ?_)
            go_roundw
            case rel => exact ⟨m + 1, hlt, by go_num, HX.out.1, HX.out.2⟩
            case measure => simp [intOf]; omega
          | false =>
            rw [hc] at e1
            have HX : Hid (wr.ownsRow (w.heap.size + 1) 3 1 u5 (canonUp zs (m + 1)).length ((canonUp zs (m + 1)).map (Value.int .i64))) := by
              show World.ownsRow _ _ _ _ _ _ _
              rw [canonUp_no zs m hc]
              exact HO.out
            clear hc
            go_wp2_with fail
            go_roundw
            case rel => exact ⟨m + 1, hlt, by go_num, HX.out, hBt⟩
            case measure => simp [intOf]; omega
        · have hm1 : m = 1000 := by omega
          have HX : Hid (wr.ownsRow (w.heap.size + 1) 3 1 u5 (canon zs).length ((canon zs).map (Value.int .i64)) ∧ Below w.heap.size w wr) := by
            have := HO.out
            rw [hm1] at this
            exact ⟨this, hB.trans (hBt.mono (by omega))⟩
          clear hm1
          go_wp2_with fail
          go_ret
          exact ⟨u5, rfl, HX.out⟩
theorem ref_setOf (zs : List Int) (v : Value) (w : World) (hm : zs.length ≤ 1000000) (h : IsInts w v zs) (hin : InB zs) :
    Calls Tryz.prog 86 #[v] w fun e w' => ∃ v', e = .returned v' ∧ IsInts w' v' (canon zs) ∧ Below w.heap.size w w' :=
  (ref_setOf_own zs v w hm h hin).mono fun _ _ ⟨v', h1, h2, h3⟩ => ⟨v', h1, isInts_of_owns h2, h3⟩
end Go.Proofs.YtglonlpfnllocaaGreatDoor

/-
  The document's RoundOf, by a contract.
-/
namespace Go.Proofs.YtglonlpfnllocaaGreatDoor
open Go.RowKit Go.Extern.Stop Go.Stop Go.Extern

/-- The first k rows are sets. -/
def doneK (zss : List (List Int)) (k : Nat) : List (List Int) := (zss.take k).map canon ++ zss.drop k
theorem doneK_len (zss : List (List Int)) (k : Nat) : (doneK zss k).length = zss.length := by
  unfold doneK
  rw [List.length_append, List.length_map, List.length_take, List.length_drop]
  omega
theorem doneK_zero (zss : List (List Int)) : doneK zss 0 = zss := rfl
theorem doneK_all (zss : List (List Int)) : doneK zss zss.length = zss.map canon := by simp [doneK]
theorem doneK_at (zss : List (List Int)) (k j : Nat) (hj : j < zss.length) : (doneK zss k).getD j [] = if j < k then canon (zss.getD j []) else zss.getD j [] := by
  unfold doneK
  by_cases h : j < k
  · rw [if_pos h]
    have h1 : j < ((zss.take k).map canon).length := by rw [List.length_map, List.length_take]; omega
    rw [List.getD, List.getElem?_append_left h1, List.getElem?_map, List.getElem?_take_of_lt h, List.getElem?_eq_getElem hj, List.getD, List.getElem?_eq_getElem hj]
    simp only [Option.map_some, Option.getD_some]
  · rw [if_neg h]
    have h1 : ((zss.take k).map canon).length ≤ j := by rw [List.length_map, List.length_take]; omega
    rw [List.getD, List.getElem?_append_right h1, List.length_map, List.length_take, List.getElem?_drop]
    rw [show min k zss.length = k by omega, show k + (j - k) = j by omega]
    rfl
theorem doneK_set (zss : List (List Int)) (k : Nat) (hk : k < zss.length) : (doneK zss k).set k (canon (zss.getD k [])) = doneK zss (k + 1) := sets_eq (by rw [List.length_set, doneK_len, doneK_len]) fun j hj => by
  rw [List.length_set, doneK_len] at hj
  rw [doneK_at _ _ _ hj]
  by_cases e : j = k
  · subst e
    rw [if_pos (Nat.lt_succ_self _)]
    simp [List.getD, doneK_len, hj]
  · rw [getD_set_otherE _ _ _ _ _ (fun q => e q.symm), doneK_at _ _ _ hj]
    by_cases h : j < k
    · rw [if_pos h, if_pos (by omega)]
    · rw [if_neg h, if_neg (by omega)]
theorem notEd_of_own {w : World} {B n : Nat} {v : Value} {xs : List Value} (h : w.ownsRow B 3 1 v n xs) {b : Nat} {cs : Array Value} (hb : w.heap[b]? = some (.cells cs TEd (0, 0))) : v.ownBlock ≠ some b := fun q => by
  obtain ⟨_, ds, hh⟩ := ownBlock_lt h q
  rw [hb] at hh
  injection hh with hh
  injection hh with _ h3 _
  exact absurd h3 (by decide)
theorem Rows3.notEd {w : World} {B g : Nat} {zss : List (List Int)} {us : List Value} (h : Rows3 w B g zss us) {b : Nat} {cs : Array Value} (hb : w.heap[b]? = some (.cells cs TEd (0, 0))) : g ≠ b := fun q => by
  obtain ⟨cur, h1, -⟩ := h.blk
  rw [q, hb] at h1
  injection h1 with hh
  injection hh with _ h3 _
  exact absurd h3 (by decide)
set_option maxRecDepth 100000 in
set_option maxHeartbeats 32000000 in
theorem refRoundOf_any (P : ProgD) (v1 v2 v3 hv : Value) (hs : List (List Int)) (w : World) (hS : SmallP P) (hc : checkE P = none) (h : IsProg w v1 v2 v3 P) (hH : IsSets w hv hs) (hok : SetsOk P hs) :
    Calls Tryz.prog 50 #[.agg #[v1, v2, v3], hv] w fun e w' => ∃ v, e = .returned v ∧ IsSets w' v (roundD P hs) ∧ Below w.heap.size w w' := by
  have H : Hid (IsProg w v1 v2 v3 P ∧ IsSets w hv hs ∧ SetsOk P hs ∧ SmallP P ∧ checkE P = none) := ⟨h, hH, hok, hS, hc⟩
  obtain ⟨⟨a1, c1, rfl, -, -⟩, ⟨a2, c2, rfl, -, -⟩, ⟨a3, c3, rfl, -, -⟩⟩ := h
  obtain ⟨ha, hcc, rfl, -⟩ := hH
  obtain ⟨n1, hn1⟩ : ∃ m, m = P.vars.length := ⟨_, rfl⟩
  obtain ⟨n2, hn2⟩ : ∃ m, m = P.funs.length := ⟨_, rfl⟩
  obtain ⟨n3, hn3⟩ : ∃ m, m = P.stmts.length := ⟨_, rfl⟩
  obtain ⟨n, hnn⟩ : ∃ m, m = hs.length := ⟨_, rfl⟩
  obtain ⟨es, hes⟩ : ∃ z, z = refEdges P hs hs.length := ⟨_, rfl⟩
  have HN : Hid (n1 = P.vars.length ∧ n2 = P.funs.length ∧ n3 = P.stmts.length ∧ n = hs.length) := ⟨hn1, hn2, hn3, hnn⟩
  have HES : Hid (EdgeSet (foundD P hs) es ∧ es = refEdges P hs hs.length) := ⟨by rw [hes]; exact edgeSet_ref hc hok, hes⟩
  have HGOT : Hid _ := got_ok hc hok HES.out.1
  have hn3l : n3 ≤ 80 := by rw [hn3]; exact (right_small hc).1
  have hnl : n ≤ 200 := by
    obtain ⟨s1, s2, s3⟩ := right_small hc
    have hpl := places_le P P.stmts.length
    have := hok.len
    omega
  have hn0 : n = 0 → n3 = 0 := fun h0 => by
    rw [hn3]
    refine Nat.eq_zero_of_not_pos fun hp => ?_
    have hm : ruleD P 0 ∈ rulesD P := List.mem_map.2 ⟨0, List.mem_range.2 hp, rfl⟩
    have := (rule_names hc _ hm).1
    have hv : P.vars.length ≤ hs.length := by rw [hok.len]; unfold places; omega
    omega
  have HLEN : Hid ((∀ j, j < n → (hs.getD j []).length ≤ 200) ∧ ∀ k m j, j < n → ((gotK hs ((rulesD P).take k) (es.take m)).getD j []).length ≤ 900000000000) := by
    have hsh := fun j hj => hok.short hc j hj
    have hel : es.length ≤ 1000000 := by
      rw [hes]
      have h1 := refEdges_len P hs hs.length
      have h2 : hs.length * hs.length ≤ 200 * 200 := Nat.mul_le_mul (by omega) (by omega)
      omega
    refine ⟨fun j hj => hsh j (by omega), fun k m j hj => ?_⟩
    rw [gotK_at _ _ _ _ (by omega)]
    have h1 := gotAt_len ((rulesD P).take k) (es.take m) hsh j (by omega)
    have h2 := (List.filter_sublist (p := fun p : Pair => p.2 == (j : Int)) (l := es.take m)).length_le
    have h4 : (es.take m).length ≤ es.length := (List.take_sublist _ _).length_le
    have h5 : ((rulesD P).take k).length ≤ (rulesD P).length := (List.take_sublist _ _).length_le
    rw [rulesD_len] at h5
    have h3 : ((es.take m).filter fun p => p.2 == (j : Int)).length * 200 ≤ 1000000 * 200 := Nat.mul_le_mul (by omega) (Nat.le_refl _)
    omega
  rw [← hn1, ← hn2, ← hn3] at H ⊢
  rw [← hnn] at H ⊢
  have KH : Hid (∀ wx, Below w.heap.size w wx → ∀ k, k < n → ∃ b o xa xc, ha = some ⟨b, o, none⟩ ∧ wx.cell? ⟨b, o + k, none⟩ = some (.slice xa (hs.getD k []).length xc) ∧ IsInts wx (.slice xa (hs.getD k []).length xc) (hs.getD k [])) := fun wx hb k hk => by
    obtain ⟨a', c', e', q⟩ := H.out.2.1.below hb
    injection e' with e1 e2 e3
    obtain ⟨b, o, xv, q1, q2, q3⟩ := q k (by rw [← HN.out.2.2.2]; exact hk)
    obtain ⟨xa, xc, rfl⟩ := isInts_form q3
    exact ⟨b, o, xa, xc, by rw [e1, q1], q2, q3⟩
  obtain ⟨W, hW⟩ : ∃ W, W = w.alloc (.cells #[.slice a1 n1 c1, .slice a2 n2 c2, .slice a3 n3 c3] 26) := ⟨_, rfl⟩
  have hBW : Below w.heap.size w W := by rw [hW]; exact below1 w _
  have HBX : Hid (Box3 W w.heap.size (.slice a1 n1 c1) (.slice a2 n2 c2) (.slice a3 n3 c3)) := by
    show Box3 W _ _ _ _
    rw [hW]; exact box3_new w _ _ _ _
  have HX : Hid (∀ wx, Below W.heap.size W wx → Box3 wx w.heap.size (.slice a1 n1 c1) (.slice a2 n2 c2) (.slice a3 n3 c3) ∧ Below w.heap.size w wx) := fun wx hb => ⟨HBX.out.below hb, hBW.trans (hb.mono hBW.size)⟩
  obtain ⟨⟨p0, p1, p2⟩, -⟩ := HX.out W (Below.refl _ _)
  have HWW : Hid (Below w.heap.size w W) := hBW
  clear hn1 hn2 hn3 hnn hS hc hok HBX hes hBW
  go_enter Tryz.func50, Tryz.ntmps50
  go_upto_region 1 with fail
  rw [← hW]
  clear hW
  go_wp2_with fail
  go_loopw [5, 6] (fun t5 t6 wr => ∃ (k : Nat) (us : List Value), k ≤ n ∧ t6 = .int .i64 (k : Int) ∧ RowsG W wr t5 (hs.take k) us ∧ Below W.heap.size W wr) (fun _ t6 _ => (n - intOf t6).toNat)
  case atStart => exact ⟨0, [], Nat.zero_le _, rfl, RowsG.nil _ _, Below.refl _ _⟩
  case round =>
    obtain ⟨k, us, hk, rfl, hrow, hbr⟩ := hrel
    obtain ⟨ua, uc, rfl⟩ := owns_form hrow.out
    obtain ⟨ul, hul⟩ : ∃ m, m = (hs.take k).length := ⟨_, rfl⟩
    rw [← hul]
    have HRW : Hid (RowsG W wr (.slice ua ul uc) (hs.take k) us ∧ Below W.heap.size W wr ∧ ul = (hs.take k).length) := ⟨by rw [hul]; exact hrow, hbr, hul⟩
    clear hrow hul
    by_cases hlt : k < n
    · have hki : (k : Int) < n := by omega
      have hkl : k < hs.length := by rw [← HN.out.2.2.2]; exact hlt
      obtain ⟨b, o, xa, xc, rfl, e0, hx⟩ := KH.out wr (HX.out wr hbr).2 k hlt
      obtain ⟨m, hm⟩ : ∃ m, m = (hs.getD k []).length := ⟨_, rfl⟩
      have hml : m ≤ 200 := by rw [hm]; exact HLEN.out.1 k hlt
      obtain ⟨v', w6, hr, ho6, hg6⟩ := run_append_ints wr wr.heap.size (.slice none 0 0) 0 [] (World.ownsRow_nil _ _ _ _) _ (hs.getD k []) hx (by omega) (Nat.le_refl _) 40
      have hb6 : Below wr.heap.size wr w6 := below_of_grownS hg6 (Nat.le_refl _) (World.ownsRow_nil wr wr.heap.size _ _) (Nat.le_refl _)
      obtain ⟨va, vc, rfl⟩ := owns_form ho6
      rw [Nat.zero_add, List.nil_append] at ho6
      rw [Nat.zero_add, ← hm] at hr
      rw [← hm] at e0
      have HR6 : Hid ((Builtin.append_ #[40, 40] 40 #[.slice none 0 0, .slice xa m xc]).run Tryz.prog wr = .ok (.slice va m vc) w6) := hr
      obtain ⟨oa, on, oc, w7, hr7, -, hrow7, hb7⟩ := HRW.out.1.add hb6 HRW.out.2.1 (by rw [List.length_take]; omega) va vc (hs.getD k []) ho6
      rw [← hm] at hr7
      have HR7 : Hid ((Builtin.append_ #[TSS, TSS] TSS #[.slice ua ul uc, .slice (some ⟨w6.heap.size, 0, none⟩) 1 1]).run Tryz.prog (w6.alloc (.cells #[.slice va m vc] TSI)) = .ok (.slice oa on oc) w7) := by
        exact hr7
      have HK7 : Hid (RowsG W w7 (.slice oa on oc) (hs.take (k + 1)) (us ++ [.slice va (hs.getD k []).length vc]) ∧ Below W.heap.size W w7) := by
        rw [take_snoc hs [] k hkl]
        exact ⟨hrow7, hb7⟩
      clear hr hr7 hrow7 hb7 ho6 hg6 hb6 hx hm p0 p1 p2
      go_upto_region 7 with (at_builtin; refine Lib.wpList_append_run _ rfl _ _ _ _ rfl _ _ rfl rfl _ _ HR6.out ?_)
      go_wp2_with (at_builtin; refine Lib.wpList_append_run _ rfl _ _ _ _ rfl _ _ rfl rfl _ _ HR7.out ?_)
      go_roundw
      case rel => exact ⟨k + 1, _, hlt, by go_num, HK7.out.1, HK7.out.2⟩
      case measure => simp [intOf]; omega
    · have hki : ¬ (k : Int) < n := by omega
      have hR1 : RowsG W wr (.slice ua ul uc) hs us := by
        have := HRW.out.1
        rw [List.take_of_length_le (by rw [← HN.out.2.2.2]; omega)] at this
        exact this
      have hbW : Below W.heap.size W wr := hbr
      obtain ⟨w2, rfl⟩ : ∃ z, z = wr := ⟨_, rfl⟩
      have KE : Hid (∀ wx, Below W.heap.size W wx → Calls Tryz.prog 85 #[.agg #[.slice a1 n1 c1, .slice a2 n2 c2, .slice a3 n3 c3], .slice ha n hcc] wx fun e w' => ∃ ea ec, e = .returned (.slice ea es.length ec) ∧ EdgeBlk w' (.slice ea es.length ec) es ∧ Below wx.heap.size wx w') := fun wx hx => by
        have hbw := HX.out wx hx
        refine (refEdgesOf_any P _ _ _ _ hs wx H.out.2.2.2.1 H.out.2.2.2.2 (H.out.1.below hbw.2) (H.out.2.1.below hbw.2) H.out.2.2.1).mono ?_
        rintro e w' ⟨v, rfl, hp, hb⟩
        rw [← HES.out.2] at hp
        obtain ⟨ea, ec, rfl, -⟩ := hp.isPairs
        exact ⟨ea, ec, rfl, hp, hb⟩
      clear HRW hlt p0 p1 p2
      obtain ⟨⟨p0, p1, p2⟩, -⟩ := HX.out w2 hbW
      obtain ⟨en, hen⟩ : ∃ m, m = es.length := ⟨_, rfl⟩
      have HEN : Hid (en = es.length) := hen
      rw [← hen] at KE
      have hen40 : en ≤ 40000 := by
        rw [hen, HES.out.2]
        have h1 := refEdges_len P hs hs.length
        have h2 : hs.length * hs.length ≤ 200 * 200 := Nat.mul_le_mul (by rw [← HN.out.2.2.2]; exact hnl) (by rw [← HN.out.2.2.2]; exact hnl)
        omega
      clear hen
      by_cases hz : n = 0
      · have hul0 : ul = 0 := by
          have : ul = hs.length := by
            have := owns_form hR1.out
            obtain ⟨a', c', e'⟩ := this
            injection e'
          rw [this, ← HN.out.2.2.2, hz]
        have hen0 : en = 0 := by
          rw [HEN.out, HES.out.2]
          have h1 := refEdges_len P hs hs.length
          rw [← HN.out.2.2.2, hz] at h1
          rw [← HN.out.2.2.2, hz]
          omega
        have h30 := hn0 hz
        have HZ : Hid (hs.length = 0) := by show _ = _; rw [← HN.out.2.2.2, hz]
        have HB2 : Hid (Below W.heap.size W w2) := hbW
        subst hul0 hen0 h30 hz
        clear hR1 hki hn0 hbW hbr
        go_wp2_with fail
        go_loopw [8] (fun t8 wr => t8 = .int .i64 0 ∧ wr = w2) (fun _ _ => 0)
        case atStart => exact ⟨rfl, rfl⟩
        case round =>
          obtain ⟨rfl, hwr⟩ := hrel
          obtain rfl := hwr.symm
          clear hwr
          go_wp2_with fail
          refine (KE.out w2 HB2.out).mono ?_
          rintro e w3 ⟨ea, ec, rfl, -, hb3⟩
          have HB3 : Hid (Below w.heap.size w w3) := bthen (HX.out w2 HB2.out).2 hb3
          clear hb3 p0 p1 p2
          go_wp2_with fail
          go_loopw [12] (fun t8 wr => t8 = .int .i64 0 ∧ wr = w3) (fun _ _ => 0)
          case atStart => exact ⟨rfl, rfl⟩
          case round =>
            obtain ⟨rfl, hwr⟩ := hrel
            obtain rfl := hwr.symm
            clear hwr
            go_wp2_with fail
            go_loopw [14] (fun t8 wr => t8 = .int .i64 0 ∧ wr = w3) (fun _ _ => 0)
            case atStart => exact ⟨rfl, rfl⟩
            case round =>
              obtain ⟨rfl, hwr⟩ := hrel
              obtain rfl := hwr.symm
              clear hwr
              go_wp2_with fail
              go_ret
              refine ⟨.slice ua 0 uc, rfl, ⟨ua, uc, ?_, fun j hj => ?_⟩, HB3.out⟩
              · rw [roundD_len, HZ.out]
              · rw [roundD_len, HZ.out] at hj; omega
      · obtain ⟨g, c, hu, hR3⟩ := hR1.done (by rw [← HN.out.2.2.2]; omega)
        injection hu with hu1 hu2 hu3
        rw [← HN.out.2.2.2] at hu2
        subst hu1 hu2
        have HR3 : Hid (Rows3 w2 W.heap.size g (gotK hs ((rulesD P).take 0) (es.take 0)) us ∧ Below W.heap.size W w2) := ⟨by rw [List.take_zero, List.take_zero, gotK_start]; exact hR3, hbW⟩
        have hnp : 0 < ul := by omega
        clear hR1 hR3 hbW hbr hu3 hn0 hz
        go_wp2_with fail
        clear p0 p1 p2
        go_loopw [8] (fun t8 wr => ∃ (k : Nat) (us : List Value), k ≤ n3 ∧ t8 = .int .i64 (k : Int) ∧ Rows3 wr W.heap.size g (gotK hs ((rulesD P).take k) (es.take 0)) us ∧ Below W.heap.size W wr) (fun t8 _ => (n3 - intOf t8).toNat)
        case atStart => exact ⟨0, us, Nat.zero_le _, rfl, HR3.out⟩
        case round =>
          clear HR3 us hki
          obtain ⟨k, us, hk, rfl, hrow, hbr⟩ := hrel
          have HRW : Hid (Rows3 wr W.heap.size g (gotK hs ((rulesD P).take k) (es.take 0)) us ∧ Below W.heap.size W wr) := ⟨hrow, hbr⟩
          obtain ⟨⟨p0, p1, p2⟩, -⟩ := HX.out wr hbr
          clear hrow hbr
          by_cases hlt : k < n3
          · have hki : (k : Int) < n3 := by omega
            have hkl3 : k < (rulesD P).length := by rw [rulesD_len, ← HN.out.2.2.1]; exact hlt
            obtain ⟨r, hr⟩ : ∃ r, r = ruleD P k := ⟨_, rfl⟩
            have hr' : (rulesD P).getD k default = r := by rw [hr]; exact rulesD_at P k (by rw [← HN.out.2.2.1]; exact hlt)
            obtain ⟨ha1, -, -, -⟩ := rule_names H.out.2.2.2.2 r (by rw [← hr']; exact getDmC hkl3)
            have hv : P.vars.length ≤ hs.length := by rw [H.out.2.2.1.len]; unfold places; omega
            obtain ⟨ka, hka⟩ : ∃ m : Nat, r.a = (m : Int) := ⟨r.a.toNat, by omega⟩
            have hkan : ka < ul := by rw [HN.out.2.2.2]; omega
            have hkai : (ka : Int) < ul := by omega
            obtain ⟨kd, hkd⟩ : ∃ kd, kd = S r.kind := ⟨_, rfl⟩
            have hkl : kd.toList = r.kind := by rw [hkd, S_toList]
            obtain ⟨rb, hrb⟩ : ∃ z, z = r.b := ⟨_, rfl⟩
            obtain ⟨rs, hrs⟩ : ∃ z, z = r.stmt := ⟨_, rfl⟩
            obtain ⟨na, hna⟩ : ∃ z, z = r.args.length := ⟨_, rfl⟩
            have HRD : Hid ((rulesD P).take (k + 1) = (rulesD P).take k ++ [r] ∧ r.a = (ka : Int) ∧ rb = r.b ∧ k < (rulesD P).length) := ⟨by rw [take_snoc _ default k hkl3, hr'], hka, hrb, hkl3⟩
            have KR : Hid (Calls Tryz.prog 84 #[.agg #[.slice a1 n1 c1, .slice a2 n2 c2, .slice a3 n3 c3], .int .i64 (k : Int)] wr fun e w' => ∃ aa ac, e = .returned (.agg #[.string kd, .int .i64 (ka : Int), .int .i64 rb, .int .i64 rs, .slice aa na ac]) ∧ Below wr.heap.size wr w') := by
              refine (refRule_any P k _ _ _ W wr H.out.2.2.2.1 H.out.2.2.2.2 (H.out.1.below HWW.out) HRW.out.2 (by rw [← HN.out.2.2.1]; exact hlt)).mono ?_
              rintro e w' ⟨av, rfl, hi, hb⟩
              rw [← hr] at hi ⊢
              obtain ⟨aa, ac, rfl⟩ := isInts_form hi
              rw [hkd, ← hka, hrb, hrs, hna]
              exact ⟨aa, ac, rfl, hb⟩
            clear hr hr' hka hkd hrb hrs hna ha1 hv hkl3
            go_wp2_with fail
            refine KR.out.mono ?_
            rintro e w5 ⟨aa, ac, rfl, hb5⟩
            have HB5 : Hid (Rows3 w5 W.heap.size g (gotK hs ((rulesD P).take k) (es.take 0)) us ∧ Below W.heap.size W w5) := ⟨HRW.out.1.below hb5, HRW.out.2.trans (hb5.mono HRW.out.2.size)⟩
            clear hb5 KR p0 p1 p2
            go_upto_region 12 with fail
            obtain ⟨W6, hW6⟩ : ∃ W6, W6 = w5.alloc (.cells #[.string kd, .int .i64 (ka : Int), .int .i64 rb, .int .i64 rs, .slice aa na ac] TRf) := ⟨_, rfl⟩
            have HG : Hid (W6.heap[w5.heap.size]? = some (.cells #[.string kd, .int .i64 (ka : Int), .int .i64 rb, .int .i64 rs, .slice aa na ac] TRf (0, 0)) ∧ Rows3 W6 W.heap.size g (gotK hs ((rulesD P).take k) (es.take 0)) us ∧ Below W.heap.size W W6) := by
              have hb6 : Below w5.heap.size w5 W6 := by rw [hW6]; exact below1 w5 _
              exact ⟨by rw [hW6]; exact heap_new w5 _, HB5.out.1.below hb6, HB5.out.2.trans (hb6.mono HB5.out.2.size)⟩
            rw [← hW6]
            clear hW6
            obtain ⟨g5, hg5⟩ : ∃ g, g = w5.heap.size := ⟨_, rfl⟩
            rw [← hg5] at HG ⊢
            clear hg5
            obtain ⟨⟨t0, t1, t2, -, -⟩, -⟩ := ruleCells HG.out.1
            by_cases hbs : r.kind = kBase
            · have g0 : (kd.toList == [98, 97, 115, 101]) = true := by rw [hkl, hbs]; decide
              have hkg : ka < (gotK hs ((rulesD P).take k) (es.take 0)).length := by rw [gotK_len, ← HN.out.2.2.2]; exact hkan
              have hBA : Below W6.heap.size W6 (W6.drew.alloc (.cells #[.int .i64 rb] 3)) := below_alC (Below.refl _ _).drew _
              obtain ⟨ya, yc, hy⟩ := HG.out.2.1.form ka hkg
              obtain ⟨yn, hyn⟩ : ∃ m, m = ((gotK hs ((rulesD P).take k) (es.take 0)).getD ka []).length := ⟨_, rfl⟩
              have c6 := HG.out.2.1.cell ka hkg
              rw [hy, ← hyn] at c6
              obtain ⟨va, vn, vc, w7, hr7, -, hrow7, hb7, hkp7⟩ := (HG.out.2.1.below hBA).more (HG.out.2.2.trans (hBA.mono HG.out.2.2.size)) ka hkg (.slice (some ⟨W6.heap.size, 0, none⟩) 1 1) [rb] (isInts_of_cells rfl (fun j hj => by
                obtain rfl : j = 0 := by simpa using hj
                have hh : (W6.drew.alloc (.cells #[.int .i64 rb] 3)).heap[W6.heap.size]? = some (.cells #[.int .i64 rb] 3 (0, 0)) := heap_new W6.drew _
                rw [Lib.cell_of_heap hh]
                simp)) (by have := HLEN.out.2 k 0 ka hkan; simp only [List.length_singleton]; omega) 40
              rw [hy, ← hyn] at hr7 hkp7
              have HR7 : Hid ((Builtin.append_ #[40, 40] 40 #[.slice ya yn yc, .slice (some ⟨W6.heap.size, 0, none⟩) 1 1]).run Tryz.prog (W6.drew.alloc (.cells #[.int .i64 rb] 3)) = .ok (.slice va vn vc) w7) := hr7
              have hbx7 : w7.heap[g5]? = some (.cells #[.string kd, .int .i64 (ka : Int), .int .i64 rb, .int .i64 rs, .slice aa na ac] TRf (0, 0)) := by
                refine hkp7 g5 _ (block_keep hBA HG.out.1) ?_
                intro q
                have := HG.out.2.1.own ka hkg
                rw [hy, ← hyn] at this
                obtain ⟨_, ds, hh⟩ := ownBlock_lt this q
                rw [HG.out.1] at hh
                injection hh with hh
                injection hh with _ h3 _
                exact absurd h3 (by decide)
              have hc7 : w7.cell? ⟨g, ka, none⟩ = some (.slice ya yn yc) ∧ w7.frozen? ⟨g, ka, none⟩ = false := by
                obtain ⟨cur, q1, q2, q3⟩ := (HG.out.2.1.below hBA).blk
                have hne := HG.out.2.1.ne ka hkg
                rw [hy, ← hyn] at hne
                have hg7 := hkp7 g _ q1 hne
                refine ⟨?_, Lib.frozen_of_heap hg7 ka⟩
                have := (HG.out.2.1.below hBA).cell ka hkg
                rw [Lib.cell_of_heap q1, hy, ← hyn] at this
                rw [Lib.cell_of_heap hg7]
                exact this
              have HNX : Hid (Rows3 (w7.setCell ⟨g, ka, none⟩ (.slice va vn vc)) W.heap.size g (gotK hs ((rulesD P).take (k + 1)) (es.take 0)) (us.set ka (.slice va vn vc)) ∧ Below W.heap.size W (w7.setCell ⟨g, ka, none⟩ (.slice va vn vc))) := by
                refine ⟨?_, ((HG.out.2.2.trans (hBA.mono HG.out.2.2.size)).trans hb7).setCell HG.out.2.1.low _⟩
                rw [HRD.out.1, List.take_zero, ← gotK_base hs _ r hbs ka HRD.out.2.1 (by rw [← HN.out.2.2.2]; exact hkan), ← HRD.out.2.2.1]
                have := hrow7
                rw [List.take_zero] at this
                exact this
              have KX : Hid (∀ wx, Below W6.heap.size W6 wx → wx.cell? ⟨g5, 1, none⟩ = some (.int .i64 (ka : Int)) ∧ wx.cell? ⟨g5, 2, none⟩ = some (.int .i64 rb) ∧ wx.cell? ⟨g, ka, none⟩ = some (.slice ya yn yc)) := fun wx hb => ⟨cell_keep hb t1, cell_keep hb t2, cell_keep hb c6⟩
              obtain ⟨⟨-, z1, z2, -, -⟩, -⟩ := ruleCells hbx7
              have KX7 : Hid (w7.cell? ⟨g5, 1, none⟩ = some (.int .i64 (ka : Int)) ∧ w7.cell? ⟨g5, 2, none⟩ = some (.int .i64 rb) ∧ w7.cell? ⟨g, ka, none⟩ = some (.slice ya yn yc)) := ⟨z1, z2, hc7.1⟩
              have hf7 := hc7.2
              clear hr7 hrow7 hb7 hkp7 hbx7 hc7 z1 z2 hkl hbs hy hyn hkg hBA
              go_upto_region 13 with fail
              go_region_held3 (fun wx => wx.cell? ⟨g5, 1, none⟩ = some (.int .i64 (ka : Int)) ∧ wx.cell? ⟨g5, 2, none⟩ = some (.int .i64 rb) ∧ wx.cell? ⟨g, ka, none⟩ = some (.slice ya yn yc))
                ((go_split_ands; with_reducible first | exact KX7.out | exact KX.out _ (Below.refl _ _).drew | exact KX.out _ (below_alC (Below.refl _ _).drew _)))
                ((refine step_append_run rfl (.tmp 48) (.tmp 51) _ _ rfl _ _ rfl rfl _ _ HR7.out ?_))
              clear t0 t1 t2 c6
              obtain ⟨t1, t2, c6⟩ := KX7.out
              go_wp2_with fail
              go_roundw
              case rel => exact ⟨k + 1, _, hlt, by go_num, HNX.out⟩
              case measure => simp [intOf]; omega
            · have g0 : (kd.toList == [98, 97, 115, 101]) = false := by rw [hkl]; exact beq_eq_false_iff_ne.2 hbs
              have HNX : Hid (Rows3 W6 W.heap.size g (gotK hs ((rulesD P).take (k + 1)) (es.take 0)) us ∧ Below W.heap.size W W6) := by
                refine ⟨?_, HG.out.2.2⟩
                rw [HRD.out.1, List.take_zero, gotK_skip _ _ _ hbs]
                have := HG.out.2.1
                rw [List.take_zero] at this
                exact this
              clear hbs hkl
              go_wp2_with fail
              go_roundw
              case rel => exact ⟨k + 1, us, hlt, by go_num, HNX.out⟩
              case measure => simp [intOf]; omega
          · have hki : ¬ (k : Int) < n3 := by omega
            have HR2 : Hid (Rows3 wr W.heap.size g (gotK hs (rulesD P) (es.take 0)) us ∧ Below W.heap.size W wr) := by
              refine ⟨?_, HRW.out.2⟩
              have := HRW.out.1
              rw [List.take_of_length_le (by rw [rulesD_len, ← HN.out.2.2.1]; omega)] at this
              exact this
            obtain ⟨w3, rfl⟩ : ∃ z, z = wr := ⟨_, rfl⟩
            clear HRW hlt
            go_wp2_with fail
            refine (KE.out w3 HR2.out.2).mono ?_
            rintro e w4 ⟨ea, ec, rfl, hblk, hb4⟩
            have HR4 : Hid (Rows3 w4 W.heap.size g (gotK hs (rulesD P) (es.take 0)) us ∧ Below W.heap.size W w4 ∧ EdgeBlk w4 (.slice ea en ec) es) := ⟨HR2.out.1.below hb4, HR2.out.2.trans (hb4.mono HR2.out.2.size), hblk⟩
            clear hblk hb4 KE HR2 p0 p1 p2 hki
            go_wp2_with fail
            go_loopw [12] (fun t12 wr => ∃ (j : Nat) (us : List Value), j ≤ en ∧ t12 = .int .i64 (j : Int) ∧ Rows3 wr W.heap.size g (gotK hs (rulesD P) (es.take j)) us ∧ Below W.heap.size W wr ∧ EdgeBlk wr (.slice ea en ec) es) (fun t12 _ => (en - intOf t12).toNat)
            case atStart => exact ⟨0, us, Nat.zero_le _, rfl, HR4.out⟩
            case round =>
              clear HR4 us
              obtain ⟨j, us, hj, rfl, hrow, hbr, hblk⟩ := hrel
              have HRW : Hid (Rows3 wr W.heap.size g (gotK hs (rulesD P) (es.take j)) us ∧ Below W.heap.size W wr ∧ EdgeBlk wr (.slice ea en ec) es) := ⟨hrow, hbr, hblk⟩
              clear hrow hbr hblk
              by_cases hlt : j < en
              · have hji : (j : Int) < en := by omega
                have hjl : j < es.length := by rw [← HEN.out]; exact hlt
                obtain ⟨p, hp⟩ : ∃ p, p = es.getD j default := ⟨_, rfl⟩
                obtain ⟨f1, f2⟩ := HGOT.out.2.1 p (by rw [hp]; exact getDmC hjl)
                obtain ⟨x, hx⟩ : ∃ m : Nat, p.1 = (m : Int) := ⟨p.1.toNat, by omega⟩
                obtain ⟨y, hy⟩ : ∃ m : Nat, p.2 = (m : Int) := ⟨p.2.toNat, by omega⟩
                have hxn : x < ul := by rw [HN.out.2.2.2]; omega
                have hyn : y < ul := by rw [HN.out.2.2.2]; omega
                have hxi : (x : Int) < ul := by omega
                have hyi : (y : Int) < ul := by omega
                obtain ⟨ea', ec', e', q⟩ := HRW.out.2.2.isPairs
                injection e' with e1 e2 e3
                obtain ⟨ge, hg, d0, d1⟩ := q j hjl
                obtain rfl : ea = some ⟨ge, 0, none⟩ := by rw [e1, hg]
                rw [← hp, hx] at d0
                rw [← hp, hy] at d1
                obtain ⟨b, o, xa, xc, rfl, e0, hix⟩ := KH.out wr (HX.out wr HRW.out.2.1).2 x hxn
                obtain ⟨xn, hxn'⟩ : ∃ m, m = (hs.getD x []).length := ⟨_, rfl⟩
                have hxl : xn ≤ 200 := by rw [hxn']; exact HLEN.out.1 x hxn
                have HTS : Hid (es.take (j + 1) = es.take j ++ [p] ∧ p.1 = (x : Int) ∧ p.2 = (y : Int)) := ⟨by rw [take_snoc es default j hjl, hp], hx, hy⟩
                have hkg : y < (gotK hs (rulesD P) (es.take j)).length := by rw [gotK_len, ← HN.out.2.2.2]; exact hyn
                have hBA : Below wr.heap.size wr wr.drew := (Below.refl _ _).drew
                obtain ⟨ya, yc, hy'⟩ := HRW.out.1.form y hkg
                obtain ⟨yn, hyn'⟩ : ∃ m, m = ((gotK hs (rulesD P) (es.take j)).getD y []).length := ⟨_, rfl⟩
                have c6 := HRW.out.1.cell y hkg
                rw [hy', ← hyn'] at c6
                obtain ⟨va, vn, vc, w7, hr7, -, hrow7, hb7, hkp7⟩ := (HRW.out.1.below hBA).more (HRW.out.2.1.trans (hBA.mono HRW.out.2.1.size)) y hkg _ (hs.getD x []) (hix.below hBA) (by have := HLEN.out.2 (rulesD P).length j y hyn; rw [List.take_length] at this; omega) 40
                rw [hy', ← hyn'] at hr7 hkp7
                rw [← hxn'] at hr7 e0
                have HR7 : Hid ((Builtin.append_ #[40, 40] 40 #[.slice ya yn yc, .slice xa xn xc]).run Tryz.prog wr.drew = .ok (.slice va vn vc) w7) := hr7
                have hown := HRW.out.1.own y hkg
                rw [hy', ← hyn'] at hown
                have hblk7 : EdgeBlk w7 (.slice (some ⟨ge, 0, none⟩) en ec) es := HRW.out.2.2.keep fun b cs hh => hkp7 b _ (block_keep hBA hh) (notEd_of_own hown hh)
                have hc7 : w7.cell? ⟨g, y, none⟩ = some (.slice ya yn yc) ∧ w7.frozen? ⟨g, y, none⟩ = false := by
                  obtain ⟨cur, q1, q2, q3⟩ := (HRW.out.1.below hBA).blk
                  have hne := HRW.out.1.ne y hkg
                  rw [hy', ← hyn'] at hne
                  have hg7 := hkp7 g _ q1 hne
                  refine ⟨?_, Lib.frozen_of_heap hg7 y⟩
                  have := (HRW.out.1.below hBA).cell y hkg
                  rw [Lib.cell_of_heap q1, hy', ← hyn'] at this
                  rw [Lib.cell_of_heap hg7]
                  exact this
                have hbw7 : Below w.heap.size w w7 := by
                  have h1 := HX.out wr HRW.out.2.1
                  have h2 : Below w.heap.size w wr.drew := h1.2.drew
                  exact h2.trans ((hb7).mono HWW.out.size)
                have HNX : Hid (Rows3 (w7.setCell ⟨g, y, none⟩ (.slice va vn vc)) W.heap.size g (gotK hs (rulesD P) (es.take (j + 1))) (us.set y (.slice va vn vc)) ∧ Below W.heap.size W (w7.setCell ⟨g, y, none⟩ (.slice va vn vc)) ∧ EdgeBlk (w7.setCell ⟨g, y, none⟩ (.slice va vn vc)) (.slice (some ⟨ge, 0, none⟩) en ec) es) := by
                  refine ⟨?_, ((HRW.out.2.1.trans (hBA.mono HRW.out.2.1.size)).trans hb7).setCell HRW.out.1.low _, ?_⟩
                  · rw [HTS.out.1, ← gotK_edge hs _ _ p y HTS.out.2.2 (by rw [← HN.out.2.2.2]; exact hyn)]
                    unfold setAt
                    rw [HTS.out.2.1, Int.toNat_natCast]
                    exact hrow7
                  · refine hblk7.keep fun b cs hh => ?_
                    have hne : g ≠ b := by
                      obtain ⟨cur, q1, -⟩ := (HRW.out.1.below hBA).blk
                      have hne := HRW.out.1.ne y hkg
                      rw [hy', ← hyn'] at hne
                      have hg7 := hkp7 g _ q1 hne
                      intro q
                      rw [q, hh] at hg7
                      injection hg7 with hg7
                      injection hg7 with _ h3 _
                      exact absurd h3 (by decide)
                    rw [set_otherG _ _ _ _ _ hne]
                    exact hh
                obtain ⟨ea'', ec'', e'', q''⟩ := hblk7.isPairs
                obtain ⟨ge', hg', d0', d1'⟩ := q'' j hjl
                injection e'' with e1' _ _
                obtain rfl : ge' = ge := by
                  rw [hg'] at e1'
                  injection e1' with e1'
                  injection e1' with e1'
                  exact e1'.symm
                rw [← hp, hx] at d0'
                rw [← hp, hy] at d1'
                have KX : Hid (wr.drew.cell? ⟨ge', j * 2, none⟩ = some (.int .i64 (x : Int)) ∧ wr.drew.cell? ⟨ge', j * 2 + 1, none⟩ = some (.int .i64 (y : Int)) ∧ wr.drew.cell? ⟨g, y, none⟩ = some (.slice ya yn yc) ∧ wr.drew.cell? ⟨b, o + x, none⟩ = some (.slice xa xn xc)) := ⟨cell_keep hBA d0, cell_keep hBA d1, cell_keep hBA c6, cell_keep hBA e0⟩
                have KX7 : Hid (w7.cell? ⟨ge', j * 2, none⟩ = some (.int .i64 (x : Int)) ∧ w7.cell? ⟨ge', j * 2 + 1, none⟩ = some (.int .i64 (y : Int)) ∧ w7.cell? ⟨g, y, none⟩ = some (.slice ya yn yc) ∧ w7.cell? ⟨b, o + x, none⟩ = some (.slice xa xn xc)) := by
                  refine ⟨d0', d1', hc7.1, ?_⟩
                  obtain ⟨b'', o'', xa'', xc'', hab'', e0'', -⟩ := KH.out w (Below.refl _ _) x hxn
                  injection hab'' with hab''
                  injection hab'' with hb1 hb2 hb3
                  subst hb1 hb2
                  rw [← hxn'] at e0''
                  have h3 := cell_keep (HX.out wr HRW.out.2.1).2 e0''
                  rw [e0] at h3
                  rw [h3]
                  exact cell_keep hbw7 e0''
                have hf7 := hc7.2
                clear hr7 hrow7 hb7 hkp7 hblk7 hc7 hown hbw7 d0 d1 d0' d1' c6 e0 hix hx hy hp f1 f2 q q'' hg hg' e1' hy' hkg e1 e2 e3 hxn' hyn'
                go_upto_region 19 with fail
                go_region_held3 (fun wx => wx.cell? ⟨ge', j * 2, none⟩ = some (.int .i64 (x : Int)) ∧ wx.cell? ⟨ge', j * 2 + 1, none⟩ = some (.int .i64 (y : Int)) ∧ wx.cell? ⟨g, y, none⟩ = some (.slice ya yn yc) ∧ wx.cell? ⟨b, o + x, none⟩ = some (.slice xa xn xc))
                  ((go_split_ands; with_reducible first | exact KX7.out | exact KX.out))
                  ((refine step_append_run rfl (.tmp 74) (.tmp 82) _ _ rfl _ _ rfl rfl _ _ HR7.out ?_))
                obtain ⟨z0, z1, z2, -⟩ := KX7.out
                go_wp2_with fail
                go_roundw
                case rel => exact ⟨j + 1, _, hlt, by go_num, HNX.out⟩
                case measure => simp [intOf]; omega
              · have hji : ¬ (j : Int) < en := by omega
                obtain ⟨gz, hgz⟩ : ∃ z, z = gotK hs (rulesD P) es := ⟨_, rfl⟩
                have HGZ : Hid (gz.length = ul ∧ gz.map canon = roundD P hs ∧ ∀ j, j < ul → (gz.getD j []).length ≤ 1000000 ∧ InB (gz.getD j [])) := by
                  have h7 := HGOT.out.2.2.2.2.2.2.2
                  refine ⟨by rw [hgz, gotK_len, ← HN.out.2.2.2], ?_, fun j hj => by rw [hgz]; exact h7 j (by rw [← HN.out.2.2.2]; exact hj)⟩
                  rw [← gather_round HES.out.1, hgz]
                  refine List.map_congr_left fun zs hz => ?_
                  obtain ⟨i, hi, rfl⟩ := List.mem_iff_getElem.1 hz
                  rw [gotK_len] at hi
                  have := (h7 i hi).2
                  rw [List.getD, List.getElem?_eq_getElem (by rw [gotK_len]; exact hi)] at this
                  exact (norm_eq_canon this).symm
                have HR5 : Hid (Rows3 wr W.heap.size g (doneK gz 0) us ∧ Below W.heap.size W wr) := by
                  refine ⟨?_, HRW.out.2.1⟩
                  have := HRW.out.1
                  rw [List.take_of_length_le (by rw [← HEN.out]; omega), ← hgz] at this
                  exact this
                obtain ⟨w5, rfl⟩ : ∃ z, z = wr := ⟨_, rfl⟩
                clear HRW hlt hgz
                go_wp2_with fail
                go_loopw [14] (fun t14 wr => ∃ (i : Nat) (us : List Value), i ≤ ul ∧ t14 = .int .i64 (i : Int) ∧ Rows3 wr W.heap.size g (doneK gz i) us ∧ Below W.heap.size W wr) (fun t14 _ => (ul - intOf t14).toNat)
                case atStart => exact ⟨0, us, Nat.zero_le _, rfl, HR5.out⟩
                case round =>
                  clear HR5 us
                  obtain ⟨i, us, hi, rfl, hrow, hbr⟩ := hrel
                  have HRW : Hid (Rows3 wr W.heap.size g (doneK gz i) us ∧ Below W.heap.size W wr) := ⟨hrow, hbr⟩
                  clear hrow hbr hji
                  by_cases hlt : i < ul
                  · have hii : (i : Int) < ul := by omega
                    have hid : i < (doneK gz i).length := by rw [doneK_len, HGZ.out.1]; exact hlt
                    have hat : (doneK gz i).getD i [] = gz.getD i [] := by rw [doneK_at _ _ _ (by rw [HGZ.out.1]; exact hlt), if_neg (Nat.lt_irrefl _)]
                    have c6 := HRW.out.1.cell i hid
                    have hint := HRW.out.1.ints i hid
                    obtain ⟨ya, yc, hy'⟩ := HRW.out.1.form i hid
                    obtain ⟨yn, hyn'⟩ : ∃ m, m = ((doneK gz i).getD i []).length := ⟨_, rfl⟩
                    rw [hy', ← hyn'] at c6
                    rw [hy', ← hyn', hat] at hint
                    have f6 := HRW.out.1.frz i
                    have KS : Hid (Calls Tryz.prog 86 #[.slice ya yn yc] wr fun e w' => ∃ va vn vc, e = .returned (.slice va vn vc) ∧ w'.ownsRow (wr.heap.size + 1) 3 1 (.slice va vn vc) (canon (gz.getD i [])).length ((canon (gz.getD i [])).map (Value.int .i64)) ∧ Below wr.heap.size wr w') := by
                      refine (ref_setOf_own _ _ wr (HGZ.out.2.2 i hlt).1 hint (HGZ.out.2.2 i hlt).2).mono ?_
                      rintro e w' ⟨v', rfl, ho, hb⟩
                      obtain ⟨va, vc, rfl⟩ := owns_form ho
                      exact ⟨va, _, vc, rfl, ho, hb⟩
                    clear hint hy' hyn' hat
                    go_wp2_with fail
                    refine KS.out.mono ?_
                    rintro e w8 ⟨va, vn, vc, rfl, ho8, hb8⟩
                    have HNX : Hid (Rows3 (w8.setCell ⟨g, i, none⟩ (.slice va vn vc)) W.heap.size g (doneK gz (i + 1)) (us.set i (.slice va vn vc)) ∧ Below W.heap.size W (w8.setCell ⟨g, i, none⟩ (.slice va vn vc))) := by
                      refine ⟨?_, (HRW.out.2.trans (hb8.mono HRW.out.2.size)).setCell HRW.out.1.low _⟩
                      rw [← doneK_set gz i (by rw [HGZ.out.1]; exact hlt)]
                      refine HRW.out.1.put i hid _ _ (KeepBut.of_below hb8 _) (owns_mono ho8 (by have := HRW.out.2.size; omega)) (Or.inr fun g' hg' => ?_)
                      have := ownBlock_ge ho8 g' hg'
                      omega
                    replace c6 := cell_keep hb8 c6
                    have f8 := (HRW.out.1.below hb8).frz i
                    clear ho8 hb8 KS f6
                    go_wp2_with fail
                    go_roundw
                    case rel => exact ⟨i + 1, _, hlt, by go_num, HNX.out⟩
                    case measure => simp [intOf]; omega
                  · have hii : ¬ (i : Int) < ul := by omega
                    have HF : Hid (IsSets wr (.slice (some ⟨g, 0, none⟩) ul uc) (roundD P hs) ∧ Below w.heap.size w wr) := by
                      refine ⟨?_, (HX.out wr HRW.out.2).2⟩
                      have := HRW.out.1.isSets uc
                      rw [doneK_len, HGZ.out.1, show i = gz.length by rw [HGZ.out.1]; omega, doneK_all, HGZ.out.2.1] at this
                      exact this
                    go_wp2_with fail
                    go_ret
                    exact ⟨_, rfl, HF.out⟩
end Go.Proofs.YtglonlpfnllocaaGreatDoor

/-
  The document's RoundOf, once more: its rows are its own.
-/
namespace Go.Proofs.YtglonlpfnllocaaGreatDoor
open Go.RowKit Go.Extern.Stop Go.Stop Go.Extern

theorem Rows3.mono {w : World} {B B' g : Nat} {zss : List (List Int)} {us : List Value} (h : Rows3 w B g zss us) (hB : B' ≤ B) : Rows3 w B' g zss us := ⟨Nat.le_trans hB h.low, h.lu, h.blk, fun j hj => owns_mono (h.own j hj) hB, h.apart⟩
theorem Rows2.to3 {w : World} {B g : Nat} {zss : List (List Int)} {us : List Value} (h : Rows2 w B g zss us) : Rows3 w B g zss us :=
  ⟨h.low, h.lu, ⟨us.toArray, h.blk, by simp, fun j hj => by simp⟩, h.own, h.apart⟩
/-- Sets whose rows are one's own. -/
def SetsOwn (B : Nat) (w : World) (v : Value) (zss : List (List Int)) : Prop := IsSets w v zss ∧ (zss = [] ∨ ∃ g us n c, v = .slice (some ⟨g, 0, none⟩) n c ∧ Rows3 w B g zss us)
theorem SetsOwn.below {B : Nat} {w w' : World} {v : Value} {zss : List (List Int)} (h : SetsOwn B w v zss) (hb : Below w.heap.size w w') : SetsOwn B w' v zss := by
  obtain ⟨h1, h2⟩ := h
  refine ⟨h1.below hb, ?_⟩
  rcases h2 with q | ⟨g, us, n, c, e, h2⟩
  · exact Or.inl q
  · exact Or.inr ⟨g, us, n, c, e, h2.below hb⟩
/-- A memory that keeps what lies from there on. -/
theorem Rows3.keepF {w w' : World} {B g : Nat} {zss : List (List Int)} {us : List Value} (h : Rows3 w B g zss us) (hk : ∀ (k : Nat) (o : Obj), B ≤ k → w.heap[k]? = some o → w'.heap[k]? = some o) : Rows3 w' B g zss us := by
  obtain ⟨cur, h1, h2, h3⟩ := h.blk
  refine ⟨h.low, h.lu, ⟨cur, hk g _ h.low h1, h2, h3⟩, fun j hj => ?_, h.apart⟩
  obtain ⟨hx, q⟩ := h.own j hj
  refine ⟨hx, ?_⟩
  rcases q with q | ⟨b, cap, cur, q1, q2, q3, q4⟩
  · exact Or.inl q
  · exact Or.inr ⟨b, cap, cur, q1, q2, hk b _ q2 q3, q4⟩
theorem SetsOwn.keepF {B : Nat} {w w' : World} {v : Value} {zss : List (List Int)} (h : SetsOwn B w v zss) (hk : ∀ (k : Nat) (o : Obj), B ≤ k → w.heap[k]? = some o → w'.heap[k]? = some o) : SetsOwn B w' v zss := by
  obtain ⟨⟨a, c, e0, -⟩, h2⟩ := h
  rcases h2 with q | ⟨g, us, n, c', e, h2⟩
  · exact ⟨⟨a, c, e0, fun j hj => by rw [q] at hj; exact absurd hj (Nat.not_lt_zero _)⟩, Or.inl q⟩
  have h3 := h2.keepF hk
  rw [e] at e0
  injection e0 with q1 q2 q3
  subst q1 q2 q3
  rw [e]
  exact ⟨h3.isSets _, Or.inr ⟨g, us, _, _, rfl, h3⟩⟩
set_option maxRecDepth 100000 in
set_option maxHeartbeats 32000000 in
theorem refRoundOwn_any (P : ProgD) (v1 v2 v3 hv : Value) (hs : List (List Int)) (w : World) (hS : SmallP P) (hc : checkE P = none) (h : IsProg w v1 v2 v3 P) (hH : IsSets w hv hs) (hok : SetsOk P hs) :
    Calls Tryz.prog 50 #[.agg #[v1, v2, v3], hv] w fun e w' => ∃ v, e = .returned v ∧ SetsOwn w.heap.size w' v (roundD P hs) ∧ Below w.heap.size w w' := by
  have H : Hid (IsProg w v1 v2 v3 P ∧ IsSets w hv hs ∧ SetsOk P hs ∧ SmallP P ∧ checkE P = none) := ⟨h, hH, hok, hS, hc⟩
  obtain ⟨⟨a1, c1, rfl, -, -⟩, ⟨a2, c2, rfl, -, -⟩, ⟨a3, c3, rfl, -, -⟩⟩ := h
  obtain ⟨ha, hcc, rfl, -⟩ := hH
  obtain ⟨n1, hn1⟩ : ∃ m, m = P.vars.length := ⟨_, rfl⟩
  obtain ⟨n2, hn2⟩ : ∃ m, m = P.funs.length := ⟨_, rfl⟩
  obtain ⟨n3, hn3⟩ : ∃ m, m = P.stmts.length := ⟨_, rfl⟩
  obtain ⟨n, hnn⟩ : ∃ m, m = hs.length := ⟨_, rfl⟩
  obtain ⟨es, hes⟩ : ∃ z, z = refEdges P hs hs.length := ⟨_, rfl⟩
  have HN : Hid (n1 = P.vars.length ∧ n2 = P.funs.length ∧ n3 = P.stmts.length ∧ n = hs.length) := ⟨hn1, hn2, hn3, hnn⟩
  have HES : Hid (EdgeSet (foundD P hs) es ∧ es = refEdges P hs hs.length) := ⟨by rw [hes]; exact edgeSet_ref hc hok, hes⟩
  have HGOT : Hid _ := got_ok hc hok HES.out.1
  have hn3l : n3 ≤ 80 := by rw [hn3]; exact (right_small hc).1
  have hnl : n ≤ 200 := by
    obtain ⟨s1, s2, s3⟩ := right_small hc
    have hpl := places_le P P.stmts.length
    have := hok.len
    omega
  have hn0 : n = 0 → n3 = 0 := fun h0 => by
    rw [hn3]
    refine Nat.eq_zero_of_not_pos fun hp => ?_
    have hm : ruleD P 0 ∈ rulesD P := List.mem_map.2 ⟨0, List.mem_range.2 hp, rfl⟩
    have := (rule_names hc _ hm).1
    have hv : P.vars.length ≤ hs.length := by rw [hok.len]; unfold places; omega
    omega
  have HLEN : Hid ((∀ j, j < n → (hs.getD j []).length ≤ 200) ∧ ∀ k m j, j < n → ((gotK hs ((rulesD P).take k) (es.take m)).getD j []).length ≤ 900000000000) := by
    have hsh := fun j hj => hok.short hc j hj
    have hel : es.length ≤ 1000000 := by
      rw [hes]
      have h1 := refEdges_len P hs hs.length
      have h2 : hs.length * hs.length ≤ 200 * 200 := Nat.mul_le_mul (by omega) (by omega)
      omega
    refine ⟨fun j hj => hsh j (by omega), fun k m j hj => ?_⟩
    rw [gotK_at _ _ _ _ (by omega)]
    have h1 := gotAt_len ((rulesD P).take k) (es.take m) hsh j (by omega)
    have h2 := (List.filter_sublist (p := fun p : Pair => p.2 == (j : Int)) (l := es.take m)).length_le
    have h4 : (es.take m).length ≤ es.length := (List.take_sublist _ _).length_le
    have h5 : ((rulesD P).take k).length ≤ (rulesD P).length := (List.take_sublist _ _).length_le
    rw [rulesD_len] at h5
    have h3 : ((es.take m).filter fun p => p.2 == (j : Int)).length * 200 ≤ 1000000 * 200 := Nat.mul_le_mul (by omega) (Nat.le_refl _)
    omega
  rw [← hn1, ← hn2, ← hn3] at H ⊢
  rw [← hnn] at H ⊢
  have KH : Hid (∀ wx, Below w.heap.size w wx → ∀ k, k < n → ∃ b o xa xc, ha = some ⟨b, o, none⟩ ∧ wx.cell? ⟨b, o + k, none⟩ = some (.slice xa (hs.getD k []).length xc) ∧ IsInts wx (.slice xa (hs.getD k []).length xc) (hs.getD k [])) := fun wx hb k hk => by
    obtain ⟨a', c', e', q⟩ := H.out.2.1.below hb
    injection e' with e1 e2 e3
    obtain ⟨b, o, xv, q1, q2, q3⟩ := q k (by rw [← HN.out.2.2.2]; exact hk)
    obtain ⟨xa, xc, rfl⟩ := isInts_form q3
    exact ⟨b, o, xa, xc, by rw [e1, q1], q2, q3⟩
  obtain ⟨W, hW⟩ : ∃ W, W = w.alloc (.cells #[.slice a1 n1 c1, .slice a2 n2 c2, .slice a3 n3 c3] 26) := ⟨_, rfl⟩
  have hBW : Below w.heap.size w W := by rw [hW]; exact below1 w _
  have HBX : Hid (Box3 W w.heap.size (.slice a1 n1 c1) (.slice a2 n2 c2) (.slice a3 n3 c3)) := by
    show Box3 W _ _ _ _
    rw [hW]; exact box3_new w _ _ _ _
  have HX : Hid (∀ wx, Below W.heap.size W wx → Box3 wx w.heap.size (.slice a1 n1 c1) (.slice a2 n2 c2) (.slice a3 n3 c3) ∧ Below w.heap.size w wx) := fun wx hb => ⟨HBX.out.below hb, hBW.trans (hb.mono hBW.size)⟩
  obtain ⟨⟨p0, p1, p2⟩, -⟩ := HX.out W (Below.refl _ _)
  have HWW : Hid (Below w.heap.size w W) := hBW
  clear hn1 hn2 hn3 hnn hS hc hok HBX hes hBW
  go_enter Tryz.func50, Tryz.ntmps50
  go_upto_region 1 with fail
  rw [← hW]
  clear hW
  go_wp2_with fail
  go_loopw [5, 6] (fun t5 t6 wr => ∃ (k : Nat) (us : List Value), k ≤ n ∧ t6 = .int .i64 (k : Int) ∧ RowsG W wr t5 (hs.take k) us ∧ Below W.heap.size W wr) (fun _ t6 _ => (n - intOf t6).toNat)
  case atStart => exact ⟨0, [], Nat.zero_le _, rfl, RowsG.nil _ _, Below.refl _ _⟩
  case round =>
    obtain ⟨k, us, hk, rfl, hrow, hbr⟩ := hrel
    obtain ⟨ua, uc, rfl⟩ := owns_form hrow.out
    obtain ⟨ul, hul⟩ : ∃ m, m = (hs.take k).length := ⟨_, rfl⟩
    rw [← hul]
    have HRW : Hid (RowsG W wr (.slice ua ul uc) (hs.take k) us ∧ Below W.heap.size W wr ∧ ul = (hs.take k).length) := ⟨by rw [hul]; exact hrow, hbr, hul⟩
    clear hrow hul
    by_cases hlt : k < n
    · have hki : (k : Int) < n := by omega
      have hkl : k < hs.length := by rw [← HN.out.2.2.2]; exact hlt
      obtain ⟨b, o, xa, xc, rfl, e0, hx⟩ := KH.out wr (HX.out wr hbr).2 k hlt
      obtain ⟨m, hm⟩ : ∃ m, m = (hs.getD k []).length := ⟨_, rfl⟩
      have hml : m ≤ 200 := by rw [hm]; exact HLEN.out.1 k hlt
      obtain ⟨v', w6, hr, ho6, hg6⟩ := run_append_ints wr wr.heap.size (.slice none 0 0) 0 [] (World.ownsRow_nil _ _ _ _) _ (hs.getD k []) hx (by omega) (Nat.le_refl _) 40
      have hb6 : Below wr.heap.size wr w6 := below_of_grownS hg6 (Nat.le_refl _) (World.ownsRow_nil wr wr.heap.size _ _) (Nat.le_refl _)
      obtain ⟨va, vc, rfl⟩ := owns_form ho6
      rw [Nat.zero_add, List.nil_append] at ho6
      rw [Nat.zero_add, ← hm] at hr
      rw [← hm] at e0
      have HR6 : Hid ((Builtin.append_ #[40, 40] 40 #[.slice none 0 0, .slice xa m xc]).run Tryz.prog wr = .ok (.slice va m vc) w6) := hr
      obtain ⟨oa, on, oc, w7, hr7, -, hrow7, hb7⟩ := HRW.out.1.add hb6 HRW.out.2.1 (by rw [List.length_take]; omega) va vc (hs.getD k []) ho6
      rw [← hm] at hr7
      have HR7 : Hid ((Builtin.append_ #[TSS, TSS] TSS #[.slice ua ul uc, .slice (some ⟨w6.heap.size, 0, none⟩) 1 1]).run Tryz.prog (w6.alloc (.cells #[.slice va m vc] TSI)) = .ok (.slice oa on oc) w7) := by
        exact hr7
      have HK7 : Hid (RowsG W w7 (.slice oa on oc) (hs.take (k + 1)) (us ++ [.slice va (hs.getD k []).length vc]) ∧ Below W.heap.size W w7) := by
        rw [take_snoc hs [] k hkl]
        exact ⟨hrow7, hb7⟩
      clear hr hr7 hrow7 hb7 ho6 hg6 hb6 hx hm p0 p1 p2
      go_upto_region 7 with (at_builtin; refine Lib.wpList_append_run _ rfl _ _ _ _ rfl _ _ rfl rfl _ _ HR6.out ?_)
      go_wp2_with (at_builtin; refine Lib.wpList_append_run _ rfl _ _ _ _ rfl _ _ rfl rfl _ _ HR7.out ?_)
      go_roundw
      case rel => exact ⟨k + 1, _, hlt, by go_num, HK7.out.1, HK7.out.2⟩
      case measure => simp [intOf]; omega
    · have hki : ¬ (k : Int) < n := by omega
      have hR1 : RowsG W wr (.slice ua ul uc) hs us := by
        have := HRW.out.1
        rw [List.take_of_length_le (by rw [← HN.out.2.2.2]; omega)] at this
        exact this
      have hbW : Below W.heap.size W wr := hbr
      obtain ⟨w2, rfl⟩ : ∃ z, z = wr := ⟨_, rfl⟩
      have KE : Hid (∀ wx, Below W.heap.size W wx → Calls Tryz.prog 85 #[.agg #[.slice a1 n1 c1, .slice a2 n2 c2, .slice a3 n3 c3], .slice ha n hcc] wx fun e w' => ∃ ea ec, e = .returned (.slice ea es.length ec) ∧ EdgeBlk w' (.slice ea es.length ec) es ∧ Below wx.heap.size wx w') := fun wx hx => by
        have hbw := HX.out wx hx
        refine (refEdgesOf_any P _ _ _ _ hs wx H.out.2.2.2.1 H.out.2.2.2.2 (H.out.1.below hbw.2) (H.out.2.1.below hbw.2) H.out.2.2.1).mono ?_
        rintro e w' ⟨v, rfl, hp, hb⟩
        rw [← HES.out.2] at hp
        obtain ⟨ea, ec, rfl, -⟩ := hp.isPairs
        exact ⟨ea, ec, rfl, hp, hb⟩
      clear HRW hlt p0 p1 p2
      obtain ⟨⟨p0, p1, p2⟩, -⟩ := HX.out w2 hbW
      obtain ⟨en, hen⟩ : ∃ m, m = es.length := ⟨_, rfl⟩
      have HEN : Hid (en = es.length) := hen
      rw [← hen] at KE
      have hen40 : en ≤ 40000 := by
        rw [hen, HES.out.2]
        have h1 := refEdges_len P hs hs.length
        have h2 : hs.length * hs.length ≤ 200 * 200 := Nat.mul_le_mul (by rw [← HN.out.2.2.2]; exact hnl) (by rw [← HN.out.2.2.2]; exact hnl)
        omega
      clear hen
      by_cases hz : n = 0
      · have hul0 : ul = 0 := by
          have : ul = hs.length := by
            have := owns_form hR1.out
            obtain ⟨a', c', e'⟩ := this
            injection e'
          rw [this, ← HN.out.2.2.2, hz]
        have hen0 : en = 0 := by
          rw [HEN.out, HES.out.2]
          have h1 := refEdges_len P hs hs.length
          rw [← HN.out.2.2.2, hz] at h1
          rw [← HN.out.2.2.2, hz]
          omega
        have h30 := hn0 hz
        have HZ : Hid (hs.length = 0) := by show _ = _; rw [← HN.out.2.2.2, hz]
        have HB2 : Hid (Below W.heap.size W w2) := hbW
        subst hul0 hen0 h30 hz
        clear hR1 hki hn0 hbW hbr
        go_wp2_with fail
        go_loopw [8] (fun t8 wr => t8 = .int .i64 0 ∧ wr = w2) (fun _ _ => 0)
        case atStart => exact ⟨rfl, rfl⟩
        case round =>
          obtain ⟨rfl, hwr⟩ := hrel
          obtain rfl := hwr.symm
          clear hwr
          go_wp2_with fail
          refine (KE.out w2 HB2.out).mono ?_
          rintro e w3 ⟨ea, ec, rfl, -, hb3⟩
          have HB3 : Hid (Below w.heap.size w w3) := bthen (HX.out w2 HB2.out).2 hb3
          clear hb3 p0 p1 p2
          go_wp2_with fail
          go_loopw [12] (fun t8 wr => t8 = .int .i64 0 ∧ wr = w3) (fun _ _ => 0)
          case atStart => exact ⟨rfl, rfl⟩
          case round =>
            obtain ⟨rfl, hwr⟩ := hrel
            obtain rfl := hwr.symm
            clear hwr
            go_wp2_with fail
            go_loopw [14] (fun t8 wr => t8 = .int .i64 0 ∧ wr = w3) (fun _ _ => 0)
            case atStart => exact ⟨rfl, rfl⟩
            case round =>
              obtain ⟨rfl, hwr⟩ := hrel
              obtain rfl := hwr.symm
              clear hwr
              go_wp2_with fail
              go_ret
              refine ⟨.slice ua 0 uc, rfl, ⟨⟨ua, uc, ?_, fun j hj => ?_⟩, Or.inl ?_⟩, HB3.out⟩
              · rw [roundD_len, HZ.out]
              · rw [roundD_len, HZ.out] at hj; omega
              · exact List.eq_nil_of_length_eq_zero (by rw [roundD_len, HZ.out])
      · obtain ⟨g, c, hu, hR3⟩ := hR1.done (by rw [← HN.out.2.2.2]; omega)
        injection hu with hu1 hu2 hu3
        rw [← HN.out.2.2.2] at hu2
        subst hu1 hu2
        have HR3 : Hid (Rows3 w2 W.heap.size g (gotK hs ((rulesD P).take 0) (es.take 0)) us ∧ Below W.heap.size W w2) := ⟨by rw [List.take_zero, List.take_zero, gotK_start]; exact hR3, hbW⟩
        have hnp : 0 < ul := by omega
        clear hR1 hR3 hbW hbr hu3 hn0 hz
        go_wp2_with fail
        clear p0 p1 p2
        go_loopw [8] (fun t8 wr => ∃ (k : Nat) (us : List Value), k ≤ n3 ∧ t8 = .int .i64 (k : Int) ∧ Rows3 wr W.heap.size g (gotK hs ((rulesD P).take k) (es.take 0)) us ∧ Below W.heap.size W wr) (fun t8 _ => (n3 - intOf t8).toNat)
        case atStart => exact ⟨0, us, Nat.zero_le _, rfl, HR3.out⟩
        case round =>
          clear HR3 us hki
          obtain ⟨k, us, hk, rfl, hrow, hbr⟩ := hrel
          have HRW : Hid (Rows3 wr W.heap.size g (gotK hs ((rulesD P).take k) (es.take 0)) us ∧ Below W.heap.size W wr) := ⟨hrow, hbr⟩
          obtain ⟨⟨p0, p1, p2⟩, -⟩ := HX.out wr hbr
          clear hrow hbr
          by_cases hlt : k < n3
          · have hki : (k : Int) < n3 := by omega
            have hkl3 : k < (rulesD P).length := by rw [rulesD_len, ← HN.out.2.2.1]; exact hlt
            obtain ⟨r, hr⟩ : ∃ r, r = ruleD P k := ⟨_, rfl⟩
            have hr' : (rulesD P).getD k default = r := by rw [hr]; exact rulesD_at P k (by rw [← HN.out.2.2.1]; exact hlt)
            obtain ⟨ha1, -, -, -⟩ := rule_names H.out.2.2.2.2 r (by rw [← hr']; exact getDmC hkl3)
            have hv : P.vars.length ≤ hs.length := by rw [H.out.2.2.1.len]; unfold places; omega
            obtain ⟨ka, hka⟩ : ∃ m : Nat, r.a = (m : Int) := ⟨r.a.toNat, by omega⟩
            have hkan : ka < ul := by rw [HN.out.2.2.2]; omega
            have hkai : (ka : Int) < ul := by omega
            obtain ⟨kd, hkd⟩ : ∃ kd, kd = S r.kind := ⟨_, rfl⟩
            have hkl : kd.toList = r.kind := by rw [hkd, S_toList]
            obtain ⟨rb, hrb⟩ : ∃ z, z = r.b := ⟨_, rfl⟩
            obtain ⟨rs, hrs⟩ : ∃ z, z = r.stmt := ⟨_, rfl⟩
            obtain ⟨na, hna⟩ : ∃ z, z = r.args.length := ⟨_, rfl⟩
            have HRD : Hid ((rulesD P).take (k + 1) = (rulesD P).take k ++ [r] ∧ r.a = (ka : Int) ∧ rb = r.b ∧ k < (rulesD P).length) := ⟨by rw [take_snoc _ default k hkl3, hr'], hka, hrb, hkl3⟩
            have KR : Hid (Calls Tryz.prog 84 #[.agg #[.slice a1 n1 c1, .slice a2 n2 c2, .slice a3 n3 c3], .int .i64 (k : Int)] wr fun e w' => ∃ aa ac, e = .returned (.agg #[.string kd, .int .i64 (ka : Int), .int .i64 rb, .int .i64 rs, .slice aa na ac]) ∧ Below wr.heap.size wr w') := by
              refine (refRule_any P k _ _ _ W wr H.out.2.2.2.1 H.out.2.2.2.2 (H.out.1.below HWW.out) HRW.out.2 (by rw [← HN.out.2.2.1]; exact hlt)).mono ?_
              rintro e w' ⟨av, rfl, hi, hb⟩
              rw [← hr] at hi ⊢
              obtain ⟨aa, ac, rfl⟩ := isInts_form hi
              rw [hkd, ← hka, hrb, hrs, hna]
              exact ⟨aa, ac, rfl, hb⟩
            clear hr hr' hka hkd hrb hrs hna ha1 hv hkl3
            go_wp2_with fail
            refine KR.out.mono ?_
            rintro e w5 ⟨aa, ac, rfl, hb5⟩
            have HB5 : Hid (Rows3 w5 W.heap.size g (gotK hs ((rulesD P).take k) (es.take 0)) us ∧ Below W.heap.size W w5) := ⟨HRW.out.1.below hb5, HRW.out.2.trans (hb5.mono HRW.out.2.size)⟩
            clear hb5 KR p0 p1 p2
            go_upto_region 12 with fail
            obtain ⟨W6, hW6⟩ : ∃ W6, W6 = w5.alloc (.cells #[.string kd, .int .i64 (ka : Int), .int .i64 rb, .int .i64 rs, .slice aa na ac] TRf) := ⟨_, rfl⟩
            have HG : Hid (W6.heap[w5.heap.size]? = some (.cells #[.string kd, .int .i64 (ka : Int), .int .i64 rb, .int .i64 rs, .slice aa na ac] TRf (0, 0)) ∧ Rows3 W6 W.heap.size g (gotK hs ((rulesD P).take k) (es.take 0)) us ∧ Below W.heap.size W W6) := by
              have hb6 : Below w5.heap.size w5 W6 := by rw [hW6]; exact below1 w5 _
              exact ⟨by rw [hW6]; exact heap_new w5 _, HB5.out.1.below hb6, HB5.out.2.trans (hb6.mono HB5.out.2.size)⟩
            rw [← hW6]
            clear hW6
            obtain ⟨g5, hg5⟩ : ∃ g, g = w5.heap.size := ⟨_, rfl⟩
            rw [← hg5] at HG ⊢
            clear hg5
            obtain ⟨⟨t0, t1, t2, -, -⟩, -⟩ := ruleCells HG.out.1
            by_cases hbs : r.kind = kBase
            · have g0 : (kd.toList == [98, 97, 115, 101]) = true := by rw [hkl, hbs]; decide
              have hkg : ka < (gotK hs ((rulesD P).take k) (es.take 0)).length := by rw [gotK_len, ← HN.out.2.2.2]; exact hkan
              have hBA : Below W6.heap.size W6 (W6.drew.alloc (.cells #[.int .i64 rb] 3)) := below_alC (Below.refl _ _).drew _
              obtain ⟨ya, yc, hy⟩ := HG.out.2.1.form ka hkg
              obtain ⟨yn, hyn⟩ : ∃ m, m = ((gotK hs ((rulesD P).take k) (es.take 0)).getD ka []).length := ⟨_, rfl⟩
              have c6 := HG.out.2.1.cell ka hkg
              rw [hy, ← hyn] at c6
              obtain ⟨va, vn, vc, w7, hr7, -, hrow7, hb7, hkp7⟩ := (HG.out.2.1.below hBA).more (HG.out.2.2.trans (hBA.mono HG.out.2.2.size)) ka hkg (.slice (some ⟨W6.heap.size, 0, none⟩) 1 1) [rb] (isInts_of_cells rfl (fun j hj => by
                obtain rfl : j = 0 := by simpa using hj
                have hh : (W6.drew.alloc (.cells #[.int .i64 rb] 3)).heap[W6.heap.size]? = some (.cells #[.int .i64 rb] 3 (0, 0)) := heap_new W6.drew _
                rw [Lib.cell_of_heap hh]
                simp)) (by have := HLEN.out.2 k 0 ka hkan; simp only [List.length_singleton]; omega) 40
              rw [hy, ← hyn] at hr7 hkp7
              have HR7 : Hid ((Builtin.append_ #[40, 40] 40 #[.slice ya yn yc, .slice (some ⟨W6.heap.size, 0, none⟩) 1 1]).run Tryz.prog (W6.drew.alloc (.cells #[.int .i64 rb] 3)) = .ok (.slice va vn vc) w7) := hr7
              have hbx7 : w7.heap[g5]? = some (.cells #[.string kd, .int .i64 (ka : Int), .int .i64 rb, .int .i64 rs, .slice aa na ac] TRf (0, 0)) := by
                refine hkp7 g5 _ (block_keep hBA HG.out.1) ?_
                intro q
                have := HG.out.2.1.own ka hkg
                rw [hy, ← hyn] at this
                obtain ⟨_, ds, hh⟩ := ownBlock_lt this q
                rw [HG.out.1] at hh
                injection hh with hh
                injection hh with _ h3 _
                exact absurd h3 (by decide)
              have hc7 : w7.cell? ⟨g, ka, none⟩ = some (.slice ya yn yc) ∧ w7.frozen? ⟨g, ka, none⟩ = false := by
                obtain ⟨cur, q1, q2, q3⟩ := (HG.out.2.1.below hBA).blk
                have hne := HG.out.2.1.ne ka hkg
                rw [hy, ← hyn] at hne
                have hg7 := hkp7 g _ q1 hne
                refine ⟨?_, Lib.frozen_of_heap hg7 ka⟩
                have := (HG.out.2.1.below hBA).cell ka hkg
                rw [Lib.cell_of_heap q1, hy, ← hyn] at this
                rw [Lib.cell_of_heap hg7]
                exact this
              have HNX : Hid (Rows3 (w7.setCell ⟨g, ka, none⟩ (.slice va vn vc)) W.heap.size g (gotK hs ((rulesD P).take (k + 1)) (es.take 0)) (us.set ka (.slice va vn vc)) ∧ Below W.heap.size W (w7.setCell ⟨g, ka, none⟩ (.slice va vn vc))) := by
                refine ⟨?_, ((HG.out.2.2.trans (hBA.mono HG.out.2.2.size)).trans hb7).setCell HG.out.2.1.low _⟩
                rw [HRD.out.1, List.take_zero, ← gotK_base hs _ r hbs ka HRD.out.2.1 (by rw [← HN.out.2.2.2]; exact hkan), ← HRD.out.2.2.1]
                have := hrow7
                rw [List.take_zero] at this
                exact this
              have KX : Hid (∀ wx, Below W6.heap.size W6 wx → wx.cell? ⟨g5, 1, none⟩ = some (.int .i64 (ka : Int)) ∧ wx.cell? ⟨g5, 2, none⟩ = some (.int .i64 rb) ∧ wx.cell? ⟨g, ka, none⟩ = some (.slice ya yn yc)) := fun wx hb => ⟨cell_keep hb t1, cell_keep hb t2, cell_keep hb c6⟩
              obtain ⟨⟨-, z1, z2, -, -⟩, -⟩ := ruleCells hbx7
              have KX7 : Hid (w7.cell? ⟨g5, 1, none⟩ = some (.int .i64 (ka : Int)) ∧ w7.cell? ⟨g5, 2, none⟩ = some (.int .i64 rb) ∧ w7.cell? ⟨g, ka, none⟩ = some (.slice ya yn yc)) := ⟨z1, z2, hc7.1⟩
              have hf7 := hc7.2
              clear hr7 hrow7 hb7 hkp7 hbx7 hc7 z1 z2 hkl hbs hy hyn hkg hBA
              go_upto_region 13 with fail
              go_region_held3 (fun wx => wx.cell? ⟨g5, 1, none⟩ = some (.int .i64 (ka : Int)) ∧ wx.cell? ⟨g5, 2, none⟩ = some (.int .i64 rb) ∧ wx.cell? ⟨g, ka, none⟩ = some (.slice ya yn yc))
                ((go_split_ands; with_reducible first | exact KX7.out | exact KX.out _ (Below.refl _ _).drew | exact KX.out _ (below_alC (Below.refl _ _).drew _)))
                ((refine step_append_run rfl (.tmp 48) (.tmp 51) _ _ rfl _ _ rfl rfl _ _ HR7.out ?_))
              clear t0 t1 t2 c6
              obtain ⟨t1, t2, c6⟩ := KX7.out
              go_wp2_with fail
              go_roundw
              case rel => exact ⟨k + 1, _, hlt, by go_num, HNX.out⟩
              case measure => simp [intOf]; omega
            · have g0 : (kd.toList == [98, 97, 115, 101]) = false := by rw [hkl]; exact beq_eq_false_iff_ne.2 hbs
              have HNX : Hid (Rows3 W6 W.heap.size g (gotK hs ((rulesD P).take (k + 1)) (es.take 0)) us ∧ Below W.heap.size W W6) := by
                refine ⟨?_, HG.out.2.2⟩
                rw [HRD.out.1, List.take_zero, gotK_skip _ _ _ hbs]
                have := HG.out.2.1
                rw [List.take_zero] at this
                exact this
              clear hbs hkl
              go_wp2_with fail
              go_roundw
              case rel => exact ⟨k + 1, us, hlt, by go_num, HNX.out⟩
              case measure => simp [intOf]; omega
          · have hki : ¬ (k : Int) < n3 := by omega
            have HR2 : Hid (Rows3 wr W.heap.size g (gotK hs (rulesD P) (es.take 0)) us ∧ Below W.heap.size W wr) := by
              refine ⟨?_, HRW.out.2⟩
              have := HRW.out.1
              rw [List.take_of_length_le (by rw [rulesD_len, ← HN.out.2.2.1]; omega)] at this
              exact this
            obtain ⟨w3, rfl⟩ : ∃ z, z = wr := ⟨_, rfl⟩
            clear HRW hlt
            go_wp2_with fail
            refine (KE.out w3 HR2.out.2).mono ?_
            rintro e w4 ⟨ea, ec, rfl, hblk, hb4⟩
            have HR4 : Hid (Rows3 w4 W.heap.size g (gotK hs (rulesD P) (es.take 0)) us ∧ Below W.heap.size W w4 ∧ EdgeBlk w4 (.slice ea en ec) es) := ⟨HR2.out.1.below hb4, HR2.out.2.trans (hb4.mono HR2.out.2.size), hblk⟩
            clear hblk hb4 KE HR2 p0 p1 p2 hki
            go_wp2_with fail
            go_loopw [12] (fun t12 wr => ∃ (j : Nat) (us : List Value), j ≤ en ∧ t12 = .int .i64 (j : Int) ∧ Rows3 wr W.heap.size g (gotK hs (rulesD P) (es.take j)) us ∧ Below W.heap.size W wr ∧ EdgeBlk wr (.slice ea en ec) es) (fun t12 _ => (en - intOf t12).toNat)
            case atStart => exact ⟨0, us, Nat.zero_le _, rfl, HR4.out⟩
            case round =>
              clear HR4 us
              obtain ⟨j, us, hj, rfl, hrow, hbr, hblk⟩ := hrel
              have HRW : Hid (Rows3 wr W.heap.size g (gotK hs (rulesD P) (es.take j)) us ∧ Below W.heap.size W wr ∧ EdgeBlk wr (.slice ea en ec) es) := ⟨hrow, hbr, hblk⟩
              clear hrow hbr hblk
              by_cases hlt : j < en
              · have hji : (j : Int) < en := by omega
                have hjl : j < es.length := by rw [← HEN.out]; exact hlt
                obtain ⟨p, hp⟩ : ∃ p, p = es.getD j default := ⟨_, rfl⟩
                obtain ⟨f1, f2⟩ := HGOT.out.2.1 p (by rw [hp]; exact getDmC hjl)
                obtain ⟨x, hx⟩ : ∃ m : Nat, p.1 = (m : Int) := ⟨p.1.toNat, by omega⟩
                obtain ⟨y, hy⟩ : ∃ m : Nat, p.2 = (m : Int) := ⟨p.2.toNat, by omega⟩
                have hxn : x < ul := by rw [HN.out.2.2.2]; omega
                have hyn : y < ul := by rw [HN.out.2.2.2]; omega
                have hxi : (x : Int) < ul := by omega
                have hyi : (y : Int) < ul := by omega
                obtain ⟨ea', ec', e', q⟩ := HRW.out.2.2.isPairs
                injection e' with e1 e2 e3
                obtain ⟨ge, hg, d0, d1⟩ := q j hjl
                obtain rfl : ea = some ⟨ge, 0, none⟩ := by rw [e1, hg]
                rw [← hp, hx] at d0
                rw [← hp, hy] at d1
                obtain ⟨b, o, xa, xc, rfl, e0, hix⟩ := KH.out wr (HX.out wr HRW.out.2.1).2 x hxn
                obtain ⟨xn, hxn'⟩ : ∃ m, m = (hs.getD x []).length := ⟨_, rfl⟩
                have hxl : xn ≤ 200 := by rw [hxn']; exact HLEN.out.1 x hxn
                have HTS : Hid (es.take (j + 1) = es.take j ++ [p] ∧ p.1 = (x : Int) ∧ p.2 = (y : Int)) := ⟨by rw [take_snoc es default j hjl, hp], hx, hy⟩
                have hkg : y < (gotK hs (rulesD P) (es.take j)).length := by rw [gotK_len, ← HN.out.2.2.2]; exact hyn
                have hBA : Below wr.heap.size wr wr.drew := (Below.refl _ _).drew
                obtain ⟨ya, yc, hy'⟩ := HRW.out.1.form y hkg
                obtain ⟨yn, hyn'⟩ : ∃ m, m = ((gotK hs (rulesD P) (es.take j)).getD y []).length := ⟨_, rfl⟩
                have c6 := HRW.out.1.cell y hkg
                rw [hy', ← hyn'] at c6
                obtain ⟨va, vn, vc, w7, hr7, -, hrow7, hb7, hkp7⟩ := (HRW.out.1.below hBA).more (HRW.out.2.1.trans (hBA.mono HRW.out.2.1.size)) y hkg _ (hs.getD x []) (hix.below hBA) (by have := HLEN.out.2 (rulesD P).length j y hyn; rw [List.take_length] at this; omega) 40
                rw [hy', ← hyn'] at hr7 hkp7
                rw [← hxn'] at hr7 e0
                have HR7 : Hid ((Builtin.append_ #[40, 40] 40 #[.slice ya yn yc, .slice xa xn xc]).run Tryz.prog wr.drew = .ok (.slice va vn vc) w7) := hr7
                have hown := HRW.out.1.own y hkg
                rw [hy', ← hyn'] at hown
                have hblk7 : EdgeBlk w7 (.slice (some ⟨ge, 0, none⟩) en ec) es := HRW.out.2.2.keep fun b cs hh => hkp7 b _ (block_keep hBA hh) (notEd_of_own hown hh)
                have hc7 : w7.cell? ⟨g, y, none⟩ = some (.slice ya yn yc) ∧ w7.frozen? ⟨g, y, none⟩ = false := by
                  obtain ⟨cur, q1, q2, q3⟩ := (HRW.out.1.below hBA).blk
                  have hne := HRW.out.1.ne y hkg
                  rw [hy', ← hyn'] at hne
                  have hg7 := hkp7 g _ q1 hne
                  refine ⟨?_, Lib.frozen_of_heap hg7 y⟩
                  have := (HRW.out.1.below hBA).cell y hkg
                  rw [Lib.cell_of_heap q1, hy', ← hyn'] at this
                  rw [Lib.cell_of_heap hg7]
                  exact this
                have hbw7 : Below w.heap.size w w7 := by
                  have h1 := HX.out wr HRW.out.2.1
                  have h2 : Below w.heap.size w wr.drew := h1.2.drew
                  exact h2.trans ((hb7).mono HWW.out.size)
                have HNX : Hid (Rows3 (w7.setCell ⟨g, y, none⟩ (.slice va vn vc)) W.heap.size g (gotK hs (rulesD P) (es.take (j + 1))) (us.set y (.slice va vn vc)) ∧ Below W.heap.size W (w7.setCell ⟨g, y, none⟩ (.slice va vn vc)) ∧ EdgeBlk (w7.setCell ⟨g, y, none⟩ (.slice va vn vc)) (.slice (some ⟨ge, 0, none⟩) en ec) es) := by
                  refine ⟨?_, ((HRW.out.2.1.trans (hBA.mono HRW.out.2.1.size)).trans hb7).setCell HRW.out.1.low _, ?_⟩
                  · rw [HTS.out.1, ← gotK_edge hs _ _ p y HTS.out.2.2 (by rw [← HN.out.2.2.2]; exact hyn)]
                    unfold setAt
                    rw [HTS.out.2.1, Int.toNat_natCast]
                    exact hrow7
                  · refine hblk7.keep fun b cs hh => ?_
                    have hne : g ≠ b := by
                      obtain ⟨cur, q1, -⟩ := (HRW.out.1.below hBA).blk
                      have hne := HRW.out.1.ne y hkg
                      rw [hy', ← hyn'] at hne
                      have hg7 := hkp7 g _ q1 hne
                      intro q
                      rw [q, hh] at hg7
                      injection hg7 with hg7
                      injection hg7 with _ h3 _
                      exact absurd h3 (by decide)
                    rw [set_otherG _ _ _ _ _ hne]
                    exact hh
                obtain ⟨ea'', ec'', e'', q''⟩ := hblk7.isPairs
                obtain ⟨ge', hg', d0', d1'⟩ := q'' j hjl
                injection e'' with e1' _ _
                obtain rfl : ge' = ge := by
                  rw [hg'] at e1'
                  injection e1' with e1'
                  injection e1' with e1'
                  exact e1'.symm
                rw [← hp, hx] at d0'
                rw [← hp, hy] at d1'
                have KX : Hid (wr.drew.cell? ⟨ge', j * 2, none⟩ = some (.int .i64 (x : Int)) ∧ wr.drew.cell? ⟨ge', j * 2 + 1, none⟩ = some (.int .i64 (y : Int)) ∧ wr.drew.cell? ⟨g, y, none⟩ = some (.slice ya yn yc) ∧ wr.drew.cell? ⟨b, o + x, none⟩ = some (.slice xa xn xc)) := ⟨cell_keep hBA d0, cell_keep hBA d1, cell_keep hBA c6, cell_keep hBA e0⟩
                have KX7 : Hid (w7.cell? ⟨ge', j * 2, none⟩ = some (.int .i64 (x : Int)) ∧ w7.cell? ⟨ge', j * 2 + 1, none⟩ = some (.int .i64 (y : Int)) ∧ w7.cell? ⟨g, y, none⟩ = some (.slice ya yn yc) ∧ w7.cell? ⟨b, o + x, none⟩ = some (.slice xa xn xc)) := by
                  refine ⟨d0', d1', hc7.1, ?_⟩
                  obtain ⟨b'', o'', xa'', xc'', hab'', e0'', -⟩ := KH.out w (Below.refl _ _) x hxn
                  injection hab'' with hab''
                  injection hab'' with hb1 hb2 hb3
                  subst hb1 hb2
                  rw [← hxn'] at e0''
                  have h3 := cell_keep (HX.out wr HRW.out.2.1).2 e0''
                  rw [e0] at h3
                  rw [h3]
                  exact cell_keep hbw7 e0''
                have hf7 := hc7.2
                clear hr7 hrow7 hb7 hkp7 hblk7 hc7 hown hbw7 d0 d1 d0' d1' c6 e0 hix hx hy hp f1 f2 q q'' hg hg' e1' hy' hkg e1 e2 e3 hxn' hyn'
                go_upto_region 19 with fail
                go_region_held3 (fun wx => wx.cell? ⟨ge', j * 2, none⟩ = some (.int .i64 (x : Int)) ∧ wx.cell? ⟨ge', j * 2 + 1, none⟩ = some (.int .i64 (y : Int)) ∧ wx.cell? ⟨g, y, none⟩ = some (.slice ya yn yc) ∧ wx.cell? ⟨b, o + x, none⟩ = some (.slice xa xn xc))
                  ((go_split_ands; with_reducible first | exact KX7.out | exact KX.out))
                  ((refine step_append_run rfl (.tmp 74) (.tmp 82) _ _ rfl _ _ rfl rfl _ _ HR7.out ?_))
                obtain ⟨z0, z1, z2, -⟩ := KX7.out
                go_wp2_with fail
                go_roundw
                case rel => exact ⟨j + 1, _, hlt, by go_num, HNX.out⟩
                case measure => simp [intOf]; omega
              · have hji : ¬ (j : Int) < en := by omega
                obtain ⟨gz, hgz⟩ : ∃ z, z = gotK hs (rulesD P) es := ⟨_, rfl⟩
                have HGZ : Hid (gz.length = ul ∧ gz.map canon = roundD P hs ∧ ∀ j, j < ul → (gz.getD j []).length ≤ 1000000 ∧ InB (gz.getD j [])) := by
                  have h7 := HGOT.out.2.2.2.2.2.2.2
                  refine ⟨by rw [hgz, gotK_len, ← HN.out.2.2.2], ?_, fun j hj => by rw [hgz]; exact h7 j (by rw [← HN.out.2.2.2]; exact hj)⟩
                  rw [← gather_round HES.out.1, hgz]
                  refine List.map_congr_left fun zs hz => ?_
                  obtain ⟨i, hi, rfl⟩ := List.mem_iff_getElem.1 hz
                  rw [gotK_len] at hi
                  have := (h7 i hi).2
                  rw [List.getD, List.getElem?_eq_getElem (by rw [gotK_len]; exact hi)] at this
                  exact (norm_eq_canon this).symm
                have HR5 : Hid (Rows3 wr W.heap.size g (doneK gz 0) us ∧ Below W.heap.size W wr) := by
                  refine ⟨?_, HRW.out.2.1⟩
                  have := HRW.out.1
                  rw [List.take_of_length_le (by rw [← HEN.out]; omega), ← hgz] at this
                  exact this
                obtain ⟨w5, rfl⟩ : ∃ z, z = wr := ⟨_, rfl⟩
                clear HRW hlt hgz
                go_wp2_with fail
                go_loopw [14] (fun t14 wr => ∃ (i : Nat) (us : List Value), i ≤ ul ∧ t14 = .int .i64 (i : Int) ∧ Rows3 wr W.heap.size g (doneK gz i) us ∧ Below W.heap.size W wr) (fun t14 _ => (ul - intOf t14).toNat)
                case atStart => exact ⟨0, us, Nat.zero_le _, rfl, HR5.out⟩
                case round =>
                  clear HR5 us
                  obtain ⟨i, us, hi, rfl, hrow, hbr⟩ := hrel
                  have HRW : Hid (Rows3 wr W.heap.size g (doneK gz i) us ∧ Below W.heap.size W wr) := ⟨hrow, hbr⟩
                  clear hrow hbr hji
                  by_cases hlt : i < ul
                  · have hii : (i : Int) < ul := by omega
                    have hid : i < (doneK gz i).length := by rw [doneK_len, HGZ.out.1]; exact hlt
                    have hat : (doneK gz i).getD i [] = gz.getD i [] := by rw [doneK_at _ _ _ (by rw [HGZ.out.1]; exact hlt), if_neg (Nat.lt_irrefl _)]
                    have c6 := HRW.out.1.cell i hid
                    have hint := HRW.out.1.ints i hid
                    obtain ⟨ya, yc, hy'⟩ := HRW.out.1.form i hid
                    obtain ⟨yn, hyn'⟩ : ∃ m, m = ((doneK gz i).getD i []).length := ⟨_, rfl⟩
                    rw [hy', ← hyn'] at c6
                    rw [hy', ← hyn', hat] at hint
                    have f6 := HRW.out.1.frz i
                    have KS : Hid (Calls Tryz.prog 86 #[.slice ya yn yc] wr fun e w' => ∃ va vn vc, e = .returned (.slice va vn vc) ∧ w'.ownsRow (wr.heap.size + 1) 3 1 (.slice va vn vc) (canon (gz.getD i [])).length ((canon (gz.getD i [])).map (Value.int .i64)) ∧ Below wr.heap.size wr w') := by
                      refine (ref_setOf_own _ _ wr (HGZ.out.2.2 i hlt).1 hint (HGZ.out.2.2 i hlt).2).mono ?_
                      rintro e w' ⟨v', rfl, ho, hb⟩
                      obtain ⟨va, vc, rfl⟩ := owns_form ho
                      exact ⟨va, _, vc, rfl, ho, hb⟩
                    clear hint hy' hyn' hat
                    go_wp2_with fail
                    refine KS.out.mono ?_
                    rintro e w8 ⟨va, vn, vc, rfl, ho8, hb8⟩
                    have HNX : Hid (Rows3 (w8.setCell ⟨g, i, none⟩ (.slice va vn vc)) W.heap.size g (doneK gz (i + 1)) (us.set i (.slice va vn vc)) ∧ Below W.heap.size W (w8.setCell ⟨g, i, none⟩ (.slice va vn vc))) := by
                      refine ⟨?_, (HRW.out.2.trans (hb8.mono HRW.out.2.size)).setCell HRW.out.1.low _⟩
                      rw [← doneK_set gz i (by rw [HGZ.out.1]; exact hlt)]
                      refine HRW.out.1.put i hid _ _ (KeepBut.of_below hb8 _) (owns_mono ho8 (by have := HRW.out.2.size; omega)) (Or.inr fun g' hg' => ?_)
                      have := ownBlock_ge ho8 g' hg'
                      omega
                    replace c6 := cell_keep hb8 c6
                    have f8 := (HRW.out.1.below hb8).frz i
                    clear ho8 hb8 KS f6
                    go_wp2_with fail
                    go_roundw
                    case rel => exact ⟨i + 1, _, hlt, by go_num, HNX.out⟩
                    case measure => simp [intOf]; omega
                  · have hii : ¬ (i : Int) < ul := by omega
                    have HF : Hid (SetsOwn w.heap.size wr (.slice (some ⟨g, 0, none⟩) ul uc) (roundD P hs) ∧ Below w.heap.size w wr) := by
                      have h1 := HRW.out.1
                      have e1 : doneK gz i = roundD P hs := by rw [show i = gz.length by rw [HGZ.out.1]; omega, doneK_all, HGZ.out.2.1]
                      have e2 : (roundD P hs).length = ul := by rw [← e1, doneK_len, HGZ.out.1]
                      rw [e1] at h1
                      have h2 := h1.isSets uc
                      rw [e2] at h2
                      exact ⟨⟨h2, Or.inr ⟨_, _, _, _, rfl, h1.mono (HX.out W (Below.refl _ _)).2.size⟩⟩, (HX.out wr HRW.out.2).2⟩
                    go_wp2_with fail
                    go_ret
                    exact ⟨_, rfl, HF.out⟩
end Go.Proofs.YtglonlpfnllocaaGreatDoor

/-
  SameInts at two lists of the same numbers: it only reads.
-/
namespace Go.Proofs.YtglonlpfnllocaaGreatDoor
open Go.RowKit Go.Extern.Stop Go.Stop Go.Extern

set_option maxHeartbeats 1000000 in
theorem sameQ_cons (zs : List Int) (b1 o1 c1 b2 o2 c2 : Nat) (w : World) (hm : zs.length ≤ 1000000)
    (h1 : ∀ j, j < zs.length → w.cell? ⟨b1, o1 + j, none⟩ = some (.int .i64 (zs.getD j 0))) (h2 : ∀ j, j < zs.length → w.cell? ⟨b2, o2 + j, none⟩ = some (.int .i64 (zs.getD j 0))) :
    Calls Tryz.prog 12 #[.slice (some ⟨b1, o1, none⟩) zs.length c1, .slice (some ⟨b2, o2, none⟩) zs.length c2] w fun e w' => e = .returned (.bool true) ∧ ∃ m, w' = w.drewN m := by
  have H1 : Hid (∀ j, j < zs.length → w.cell? ⟨b1, o1 + j, none⟩ = some (.int .i64 (zs.getD j 0))) := h1
  have H2 : Hid (∀ j, j < zs.length → w.cell? ⟨b2, o2 + j, none⟩ = some (.int .i64 (zs.getD j 0))) := h2
  clear h1 h2
  generalize hn : zs.length = n at *
  have HN : Hid (zs.length = n) := hn
  clear hn
  go_enter Tryz.func12, Tryz.ntmps12
  go_wp2
  go_loopw [5] (fun t wr => ∃ k : Nat, k ≤ n ∧ t = .int .i64 k ∧ ∃ m, wr = w.drewN m) (fun t _ => (n - intOf t).toNat)
  case atStart => exact ⟨0, Nat.zero_le _, rfl, 0, rfl⟩
  case round =>
    obtain ⟨k, hk, rfl, m, hwr⟩ := hrel
    have hB : Below w.heap.size w wr := by rw [hwr]; exact below_drewN (Below.refl _ _) m
    have HW : Hid (wr = w.drewN m) := hwr
    clear hwr
    by_cases hlt : k < n
    · have e1 := cell_keep hB (H1.out k hlt)
      have e2 := cell_keep hB (H2.out k hlt)
      generalize zs.getD k 0 = z at e1 e2
      go_wp2
      go_quiet (fail)
      go_wp2
      go_roundw
      case rel => exact ⟨k + 1, hlt, by go_num, m + nq, by rw [HW.out, World.drewN_drewN]⟩
      case measure => simp [intOf]; omega
    · go_wp2
      go_ret
      exact ⟨rfl, m, HW.out⟩
set_option maxHeartbeats 1000000 in
theorem sameQ_none (a1 a2 : Option Addr) (c1 c2 : Nat) (w : World) :
    Calls Tryz.prog 12 #[.slice a1 0 c1, .slice a2 0 c2] w fun e w' => e = .returned (.bool true) ∧ ∃ m, w' = w.drewN m := by
  go_enter Tryz.func12, Tryz.ntmps12
  go_wp2
  go_loopw [5] (fun t wr => t = .int .i64 0 ∧ ∃ m, wr = w.drewN m) (fun _ _ => 0)
  case atStart => exact ⟨rfl, 0, rfl⟩
  case round =>
    obtain ⟨rfl, hB⟩ := hrel
    go_wp2
    go_ret
    exact ⟨rfl, hB⟩
/-- SameInts at two lists of the same numbers. -/
theorem sameQ_true (zs : List Int) (v1 v2 : Value) (w : World) (hm : zs.length ≤ 1000000) (h1 : IsInts w v1 zs) (h2 : IsInts w v2 zs) :
    Calls Tryz.prog 12 #[v1, v2] w fun e w' => e = .returned (.bool true) ∧ ∃ m, w' = w.drewN m := by
  rcases h1 with ⟨hz, a1, c1, rfl⟩ | ⟨hz, b1, o1, c1, rfl, hc1⟩
  · rcases h2 with ⟨_, a2, c2, rfl⟩ | ⟨hz', _⟩
    · exact sameQ_none a1 a2 c1 c2 w
    · exact absurd hz hz'
  · rcases h2 with ⟨hz', _⟩ | ⟨_, b2, o2, c2, rfl, hc2⟩
    · exact absurd hz' hz
    · exact sameQ_cons zs b1 o1 c1 b2 o2 c2 w hm hc1 hc2
/-- The same in a world that drew. -/
theorem sameQ_drew (zs : List Int) (v1 v2 : Value) (w : World) (hm : zs.length ≤ 1000000) (h1 : IsInts w v1 zs) (h2 : IsInts w v2 zs) (n : Nat) :
    Calls Tryz.prog 12 #[v1, v2] (w.drewN n) fun e w' => e = .returned (.bool true) ∧ ∃ m, w' = w.drewN m :=
  (sameQ_true zs v1 v2 (w.drewN n) hm (h1.below (below_drewN (Below.refl _ _) n)) (h2.below (below_drewN (Below.refl _ _) n))).mono fun _ _ ⟨he, m, hm⟩ => ⟨he, n + m, by rw [hm, World.drewN_drewN]⟩
end Go.Proofs.YtglonlpfnllocaaGreatDoor

/-
  SameInts at any two lists.
-/
namespace Go.Proofs.YtglonlpfnllocaaGreatDoor
open Go.RowKit Go.Extern.Stop Go.Stop Go.Extern

theorem take_eq_all {xs ys : List Int} (hl : xs.length = ys.length) (n : Nat) (hn : n = xs.length) (h : xs.take n = ys.take n) : xs = ys := by
  rw [List.take_of_length_le (by omega), List.take_of_length_le (by omega)] at h
  exact h
theorem take_eq_step {xs ys : List Int} {k : Nat} (hx : k < xs.length) (hy : k < ys.length) (h : xs.take k = ys.take k) (h1 : xs.getD k 0 = ys.getD k 0) : xs.take (k + 1) = ys.take (k + 1) := by
  rw [take_snoc xs 0 k hx, take_snoc ys 0 k hy, h, h1]
theorem ints_atB {w : World} {pa : Option Addr} {n pc : Nat} {zs : List Int} (h : IsInts w (.slice pa n pc) zs) (hn : n = zs.length) (i : Nat) (hi : i < n) : ∃ b o, pa = some ⟨b, o, none⟩ ∧ w.cell? ⟨b, o + i, none⟩ = some (.int .i64 (zs.getD i 0)) := by
  rcases h with ⟨q, _⟩ | ⟨_, b, o, c, q, hc⟩
  · rw [hn, q] at hi; cases hi
  · injection q with q1 q2 q3
    exact ⟨b, o, q1, hc i (by omega)⟩
set_option maxRecDepth 100000 in
set_option maxHeartbeats 4000000 in
theorem sameInts_any (xs ys : List Int) (u v : Value) (w : World) (hx : xs.length ≤ 1000000) (hy : ys.length ≤ 1000000) (h1 : IsInts w u xs) (h2 : IsInts w v ys) :
    Calls Tryz.prog 12 #[u, v] w fun e w' => e = .returned (.bool (decide (xs = ys))) ∧ Below w.heap.size w w' := by
  obtain ⟨R, hR⟩ : ∃ R, R = decide (xs = ys) := ⟨_, rfl⟩
  have HR : Hid (R = decide (xs = ys)) := hR
  have H1 : Hid (IsInts w u xs) := h1
  have H2 : Hid (IsInts w v ys) := h2
  obtain ⟨ua, uc, rfl⟩ := isInts_form h1
  obtain ⟨va, vc, rfl⟩ := isInts_form h2
  obtain ⟨n, hn⟩ : ∃ n, n = xs.length := ⟨_, rfl⟩
  obtain ⟨m, hm⟩ : ∃ n, n = ys.length := ⟨_, rfl⟩
  have HN : Hid (n = xs.length ∧ m = ys.length) := ⟨hn, hm⟩
  rw [← hR]
  rw [← hn] at H1 ⊢
  rw [← hm] at H2 ⊢
  rw [← hn] at hx
  rw [← hm] at hy
  clear h1 h2 hR hn hm
  go_enter Tryz.func12, Tryz.ntmps12
  by_cases hl : n = m
  · subst hl
    go_wp2_with fail
    go_loopw [5] (fun t wr => ∃ k : Nat, k ≤ n ∧ t = .int .i64 k ∧ xs.take k = ys.take k ∧ Below w.heap.size w wr) (fun t _ => (n - intOf t).toNat)
    case atStart => exact ⟨0, Nat.zero_le _, rfl, rfl, Below.refl _ _⟩
    case round =>
      obtain ⟨k, hk, rfl, htk, hB⟩ := hrel
      have HT : Hid (xs.take k = ys.take k ∧ Below w.heap.size w wr) := ⟨htk, hB⟩
      clear htk
      by_cases hlt : k < n
      · have hki : (k : Int) < n := by omega
        obtain ⟨b1, o1, rfl, e1⟩ := ints_atB (H1.out.below hB) HN.out.1 k hlt
        obtain ⟨b2, o2, rfl, e2⟩ := ints_atB (H2.out.below hB) HN.out.2 k hlt
        obtain ⟨x, hx'⟩ : ∃ z, z = xs.getD k 0 := ⟨_, rfl⟩
        obtain ⟨y, hy'⟩ : ∃ z, z = ys.getD k 0 := ⟨_, rfl⟩
        rw [← hx'] at e1
        rw [← hy'] at e2
        have HXY : Hid (x = xs.getD k 0 ∧ y = ys.getD k 0) := ⟨hx', hy'⟩
        clear hx' hy' hB
        by_cases hxy : x = y
        · have HS1 : Hid (xs.take (k + 1) = ys.take (k + 1)) := take_eq_step (by rw [← HN.out.1]; exact hlt) (by rw [← HN.out.2]; exact hlt) HT.out.1 (by rw [← HXY.out.1, ← HXY.out.2]; exact hxy)
          subst hxy
          go_wp2_with fail
          go_quiet (fail)
          go_wp2_with fail
          go_roundw
          case rel => exact ⟨k + 1, hlt, by go_num, HS1.out, below_drewN HT.out.2 _⟩
          case measure => simp [intOf]; omega
        · have HF : Hid (R = false) := by
            show R = false
            rw [HR.out]
            refine decide_eq_false fun q => hxy ?_
            rw [HXY.out.1, HXY.out.2, q]
          go_wp2_with fail
          go_quiet (fail)
          go_wp2_with fail
          go_ret
          exact ⟨by rw [HF.out]; rfl, below_drewN HT.out.2 _⟩
      · have hkn : k = n := by omega
        have HF : Hid (R = true) := by
          show R = true
          rw [HR.out]
          exact decide_eq_true (take_eq_all (by rw [← HN.out.1, ← HN.out.2]) k (by rw [hkn]; exact HN.out.1) HT.out.1)
        clear hB
        go_wp2_with fail
        go_ret
        exact ⟨by rw [HF.out]; rfl, HT.out.2⟩
  · have hl' : ¬ ((n : Int) = (m : Int)) := by omega
    have HF : Hid (R = false) := by
      show R = false
      rw [HR.out]
      exact decide_eq_false fun q => hl (by rw [HN.out.1, HN.out.2, q])
    go_wp2_with fail
    go_ret
    exact ⟨by rw [HF.out]; rfl, Below.refl _ _⟩
end Go.Proofs.YtglonlpfnllocaaGreatDoor

/-
  SameSets at any sets, by a contract.
-/
namespace Go.Proofs.YtglonlpfnllocaaGreatDoor
open Go.RowKit Go.Extern.Stop Go.Stop Go.Extern

set_option maxRecDepth 100000 in
set_option maxHeartbeats 8000000 in
theorem sameSets_any (xs ys : List (List Int)) (u v : Value) (w : World) (h1 : IsSets w u xs) (h2 : IsSets w v ys) (hn : xs.length ≤ 1000000) (hm : ys.length ≤ 1000000) (hx : ∀ j, j < xs.length → (xs.getD j []).length ≤ 1000000) (hy : ∀ j, j < ys.length → (ys.getD j []).length ≤ 1000000) :
    Calls Tryz.prog 51 #[u, v] w fun e w' => e = .returned (.bool (decide (xs = ys))) ∧ Below w.heap.size w w' := by
  obtain ⟨R, hR⟩ : ∃ R, R = decide (xs = ys) := ⟨_, rfl⟩
  have HR : Hid (R = decide (xs = ys)) := hR
  rw [← hR]
  obtain ⟨ua, uc, rfl, hr1⟩ := h1
  obtain ⟨va, vc, rfl, hr2⟩ := h2
  obtain ⟨n, hnn⟩ : ∃ n, n = xs.length := ⟨_, rfl⟩
  obtain ⟨m, hmm⟩ : ∃ n, n = ys.length := ⟨_, rfl⟩
  rw [← hnn] at hr1 hn hx ⊢
  rw [← hmm] at hr2 hm hy ⊢
  have HN : Hid (n = xs.length ∧ m = ys.length) := ⟨hnn, hmm⟩
  have HS : Hid (∀ wx, Below w.heap.size w wx → ∀ j, j < n → j < m → ∃ b o x b' o' x', ua = some ⟨b, o, none⟩ ∧ wx.cell? ⟨b, o + j, none⟩ = some x ∧ va = some ⟨b', o', none⟩ ∧ wx.cell? ⟨b', o' + j, none⟩ = some x' ∧ IsInts wx x (xs.getD j []) ∧ IsInts wx x' (ys.getD j [])) := fun wx hb j hj hj2 => by
    obtain ⟨b, o, x, q1, q2, q3⟩ := hr1 j hj
    obtain ⟨b', o', x', r1, r2, r3⟩ := hr2 j hj2
    exact ⟨b, o, x, b', o', x', q1, cell_keep hb q2, r1, cell_keep hb r2, q3.below hb, r3.below hb⟩
  have HL : Hid ((∀ j, j < n → (xs.getD j []).length ≤ 1000000) ∧ ∀ j, j < m → (ys.getD j []).length ≤ 1000000) := ⟨hx, hy⟩
  clear hr1 hr2 hx hy hnn hmm hR
  go_enter Tryz.func51, Tryz.ntmps51
  by_cases hl : n = m
  · subst hl
    go_upto_region 4 with fail
    go_loopw [5] (fun t wr => ∃ k : Nat, k ≤ n ∧ t = .int .i64 k ∧ xs.take k = ys.take k ∧ Below w.heap.size w wr) (fun t _ => (n - intOf t).toNat)
    case atStart => exact ⟨0, Nat.zero_le _, rfl, rfl, Below.refl _ _⟩
    case round =>
      obtain ⟨k, hk, rfl, htk, hwr⟩ := hrel
      have HT : Hid (xs.take k = ys.take k) := htk
      clear htk
      by_cases hlt : k < n
      · obtain ⟨b, o, x, b', o', x', rfl, e0, rfl, f0, hx, hx'⟩ := HS.out wr hwr k hlt hlt
        have hki : (k : Int) < n := by omega
        obtain ⟨D, hD⟩ : ∃ D, D = decide (xs.getD k [] = ys.getD k []) := ⟨_, rfl⟩
        have HD : Hid (D = decide (xs.getD k [] = ys.getD k [])) := hD
        have KI : ∀ d os, Calls Tryz.prog 12 #[x, x'] (Go.Sort.grow (redrawn wr d) os) fun e w'' => e = .returned (.bool D) ∧ ∃ p : Regrown, w'' = Go.Sort.grow (redrawn wr p.d) p.os := fun d os => by
          rw [hD]
          exact Calls.regrown_of (sameInts_any (xs.getD k []) (ys.getD k []) x x' _ (HL.out.1 k hlt) (HL.out.2 k hlt) (hx.below (below_regrown wr d os)) (hx'.below (below_regrown wr d os)))
        have E0 := cell_regrown e0
        have F0 := cell_regrown f0
        clear hx hx' e0 f0 hD
        go_upto_region 6 with fail
        refine wp_region_quiet_below (by kernel_rfl) (by kernel_rfl) ?_
        repeat (quiet_step (first | exact KI _ _))
        refine wpQuiet_nil ?_
        intro _ hw'
        obtain ⟨⟨dq, osq⟩, hw''⟩ := hw'
        subst hw''
        have hBQ : Below w.heap.size w (Go.Sort.grow (redrawn wr dq) osq) := hwr.trans ((below_regrown wr dq osq).mono hwr.size)
        clear KI E0 F0
        cases D with
        | true =>
          have HS1 : Hid (xs.take (k + 1) = ys.take (k + 1)) := take_eq_succ (by rw [← HN.out.1]; exact hlt) (by rw [← HN.out.2]; exact hlt) HT.out (of_decide_eq_true HD.out.symm)
          go_wp2_with fail
          go_roundw
          case rel => exact ⟨k + 1, hlt, by go_num, HS1.out, hBQ⟩
          case measure => simp [intOf]; omega
        | false =>
          have HF : Hid (R = false) := by
            show R = false
            rw [HR.out]
            exact decide_eq_false fun q => (of_decide_eq_false HD.out.symm) (by rw [q])
          go_wp2_with fail
          go_ret
          exact ⟨by rw [HF.out]; rfl, hBQ⟩
      · have hkn : k = n := by omega
        have HF : Hid (R = true) := by
          show R = true
          rw [HR.out]
          refine decide_eq_true ?_
          have := HT.out
          rw [hkn] at this
          rw [List.take_of_length_le (by rw [← HN.out.1]; exact Nat.le_refl _), List.take_of_length_le (by rw [← HN.out.2]; exact Nat.le_refl _)] at this
          exact this
        go_wp2_with fail
        go_ret
        exact ⟨by rw [HF.out]; rfl, hwr⟩
  · have hl' : ¬ ((n : Int) = (m : Int)) := by omega
    have HF : Hid (R = false) := by
      show R = false
      rw [HR.out]
      exact decide_eq_false fun q => hl (by rw [HN.out.1, HN.out.2, q])
    go_wp2_with fail
    go_ret
    exact ⟨by rw [HF.out]; rfl, Below.refl _ _⟩
end Go.Proofs.YtglonlpfnllocaaGreatDoor

/-
  The document's LeastOf, by a contract.
-/
namespace Go.Proofs.YtglonlpfnllocaaGreatDoor
open Go.RowKit Go.Extern.Stop Go.Stop Go.Extern

set_option maxRecDepth 100000 in
set_option maxHeartbeats 8000000 in
theorem refLeast_any (P : ProgD) (v1 v2 v3 : Value) (w : World) (hS : SmallP P) (hck : checkE P = none) (h : IsProg w v1 v2 v3 P) :
    Calls Tryz.prog 22 #[.agg #[v1, v2, v3]] w fun e w' => ∃ va vn vc, ∃ m : Nat, e = .returned (.tuple #[.slice va vn vc, .int .i64 (m : Int)]) ∧ FixK P m ∧ IsSets w' (.slice va vn vc) (iterD P m) ∧ Below w.heap.size w w' := by
  have H : Hid (IsProg w v1 v2 v3 P ∧ SmallP P ∧ checkE P = none) := ⟨h, hS, hck⟩
  obtain ⟨⟨a1, c1, rfl, -, -⟩, ⟨a2, c2, rfl, -, -⟩, ⟨a3, c3, rfl, -, -⟩⟩ := h
  obtain ⟨n1, hn1⟩ : ∃ m, m = P.vars.length := ⟨_, rfl⟩
  obtain ⟨n2, hn2⟩ : ∃ m, m = P.funs.length := ⟨_, rfl⟩
  obtain ⟨n3, hn3⟩ : ∃ m, m = P.stmts.length := ⟨_, rfl⟩
  rw [← hn1, ← hn2, ← hn3] at H ⊢
  obtain ⟨W, hW⟩ : ∃ W, W = w.alloc (.cells #[.slice a1 n1 c1, .slice a2 n2 c2, .slice a3 n3 c3] 26) := ⟨_, rfl⟩
  have hBW : Below w.heap.size w W := by rw [hW]; exact below1 w _
  have HX : Hid (Box3 W w.heap.size (.slice a1 n1 c1) (.slice a2 n2 c2) (.slice a3 n3 c3)) := by show Box3 _ _ _ _ _; rw [hW]; exact box3_new w _ _ _ _
  obtain ⟨M, hM⟩ : ∃ M : Nat, M = places P P.stmts.length := ⟨_, rfl⟩
  have hMl : M ≤ 1000000 := by
    obtain ⟨s1, s2, s3⟩ := right_small hck
    have hpl := places_le P P.stmts.length
    omega
  have KN : Hid (Calls Tryz.prog 49 #[.agg #[.slice a1 n1 c1, .slice a2 n2 c2, .slice a3 n3 c3]] W fun e w' => e = .returned (.int .i64 (M : Int)) ∧ Below W.heap.size W w') := by
    have := refNodes_any P _ _ _ W hS (H.out.1.below hBW)
    rw [← hM] at this
    exact this
  obtain ⟨p0, p1, p2⟩ := HX.out
  have HMP : Hid (M = places P P.stmts.length) := hM
  clear hn1 hn2 hn3 hS hM hck
  go_enter Tryz.func22, Tryz.ntmps22
  go_upto_region 1 with fail
  rw [← hW]
  clear hW
  go_wp2_with fail
  refine KN.out.mono ?_
  rintro e w1 ⟨rfl, hB1⟩
  have HM1 := make_rows M hMl w1
  have hB1w : Below w.heap.size w w1 := hBW.trans (hB1.mono hBW.size)
  have HX1 : Hid (Box3 w1 w.heap.size (.slice a1 n1 c1) (.slice a2 n2 c2) (.slice a3 n3 c3)) := HX.out.below hB1
  clear KN p0 p1 p2 hB1 hBW HX
  go_upto_region 2 with fail
  obtain ⟨W2, hW2⟩ : ∃ W2, W2 = w1.alloc (.cells (Array.replicate M (Value.slice none 0 0)) TSI) := ⟨_, rfl⟩
  have hB2 : Below w1.heap.size w1 W2 := by rw [hW2]; exact below1 w1 _
  have HI2 : Hid (IsSets W2 (.slice (some ⟨w1.heap.size, 0, none⟩) M M) (iterD P 0)) := by
    show IsSets _ _ (emptyD P)
    unfold emptyD
    rw [← HMP.out, hW2]
    have := rows2_isSets_make w1 M
    exact this
  have HX2 : Hid (Box3 W2 w.heap.size (.slice a1 n1 c1) (.slice a2 n2 c2) (.slice a3 n3 c3)) := HX1.out.below hB2
  have HB2 : Hid (Below w.heap.size w W2) := hB1w.trans (hB2.mono hB1w.size)
  rw [← hW2]
  clear hW2 HM1 hB2 HX1 hB1w
  obtain ⟨g, hg⟩ : ∃ g, g = w1.heap.size := ⟨_, rfl⟩
  rw [← hg] at HI2 ⊢
  clear hg
  have HG : Hid (∀ k, (iterD P k).length = M ∧ SetsOk P (iterD P k) ∧ ∀ j, j < (iterD P k).length → ((iterD P k).getD j []).length ≤ 200) := fun k => ⟨by rw [iterD_len, HMP.out], setsOk_iter H.out.2.2 k, (setsOk_iter H.out.2.2 k).short H.out.2.2⟩
  have KRd : Hid (∀ wx k ha hc, Below w.heap.size w wx → IsSets wx (.slice ha M hc) (iterD P k) → Calls Tryz.prog 50 #[.agg #[.slice a1 n1 c1, .slice a2 n2 c2, .slice a3 n3 c3], .slice ha M hc] wx fun e w' => ∃ va vc, e = .returned (.slice va M vc) ∧ IsSets w' (.slice va M vc) (iterD P (k + 1)) ∧ Below wx.heap.size wx w') := fun wx k ha hc hb hi => by
    refine (refRoundOf_any P _ _ _ _ (iterD P k) wx H.out.2.1 H.out.2.2 (H.out.1.below hb) hi (HG.out k).2.1).mono ?_
    rintro e w' ⟨v, rfl, hr, hb'⟩
    obtain ⟨va, vc, rfl, q⟩ := hr
    refine ⟨va, vc, ?_, ⟨va, vc, ?_, q⟩, hb'⟩
    · rw [roundD_len, (HG.out k).1]
    · show _ = Value.slice va (roundD P (iterD P k)).length vc
      rw [roundD_len, (HG.out k).1]
  have KEq : Hid (∀ wx k va vc ha hc, IsSets wx (.slice va M vc) (iterD P (k + 1)) → IsSets wx (.slice ha M hc) (iterD P k) → Calls Tryz.prog 51 #[.slice va M vc, .slice ha M hc] wx fun e w' => e = .returned (.bool (decide (iterD P (k + 1) = iterD P k))) ∧ Below wx.heap.size wx w') := fun wx k va vc ha hc h1 h2 =>
    sameSets_any _ _ _ _ wx h1 h2 (by rw [(HG.out (k + 1)).1]; exact hMl) (by rw [(HG.out k).1]; exact hMl) (fun j hj => by have := (HG.out (k + 1)).2.2 j hj; omega) (fun j hj => by have := (HG.out k).2.2 j hj; omega)
  go_wp2_with fail
  go_loopw [4, 5] (fun t4 t5 wr => ∃ (ha : Option Addr) (hc k : Nat), t4 = .slice ha M hc ∧ t5 = .int .i64 k ∧ IsSets wr (.slice ha M hc) (iterD P k) ∧ (∀ j, j < k → roundD P (iterD P j) ≠ iterD P j) ∧ Below W2.heap.size W2 wr) (fun _ t5 _ => (40000 - intOf t5).toNat)
  case atStart => exact ⟨_, _, 0, rfl, rfl, HI2.out, fun j hj => absurd hj (Nat.not_lt_zero _), Below.refl _ _⟩
  case round =>
    obtain ⟨ha, hc, k, rfl, rfl, hi, hno, hwr⟩ := hrel
    have hk := rounds_few H.out.2.2 k hno
    obtain ⟨p0, p1, p2⟩ := HX2.out.below hwr
    have hBr : Below w.heap.size w wr := HB2.out.trans (hwr.mono HB2.out.size)
    have HI : Hid (IsSets wr (.slice ha M hc) (iterD P k) ∧ (∀ j, j < k → roundD P (iterD P j) ≠ iterD P j) ∧ Below w.heap.size w wr ∧ Below W2.heap.size W2 wr) := ⟨hi, hno, hBr, hwr⟩
    clear hi hno hBr hwr
    go_wp2_with fail
    refine (KRd.out wr k ha hc HI.out.2.2.1 HI.out.1).mono ?_
    rintro e w3 ⟨va, vc, rfl, hi3, hb3⟩
    have H3 : Hid (IsSets w3 (.slice va M vc) (iterD P (k + 1)) ∧ IsSets w3 (.slice ha M hc) (iterD P k) ∧ Below wr.heap.size wr w3) := ⟨hi3, HI.out.1.below hb3, hb3⟩
    clear hi3 hb3 p0 p1 p2
    go_wp2_with fail
    refine (KEq.out w3 k va vc ha hc H3.out.1 H3.out.2.1).mono ?_
    rintro e w4 ⟨rfl, hb4⟩
    obtain ⟨D, hD⟩ : ∃ D, D = decide (iterD P (k + 1) = iterD P k) := ⟨_, rfl⟩
    rw [← hD]
    have H4 : Hid (IsSets w4 (.slice va M vc) (iterD P (k + 1)) ∧ Below w.heap.size w w4 ∧ Below W2.heap.size W2 w4 ∧ D = decide (iterD P (k + 1) = iterD P k) ∧ IsSets w4 (.slice ha M hc) (iterD P k)) := by
      have hb3 := H3.out.2.2
      have h34 : Below wr.heap.size wr w4 := hb3.trans (hb4.mono hb3.size)
      exact ⟨H3.out.1.below hb4, HI.out.2.2.1.trans (h34.mono HI.out.2.2.1.size), HI.out.2.2.2.trans (h34.mono HI.out.2.2.2.size), hD, H3.out.2.1.below hb4⟩
    clear hb4 hD H3
    cases D with
    | true =>
      have HF : Hid (FixK P k) := ⟨of_decide_eq_true H4.out.2.2.2.1.symm, HI.out.2.1⟩
      go_wp2_with fail
      go_ret2
      exact ⟨_, _, _, k, rfl, HF.out, H4.out.2.2.2.2, H4.out.2.1⟩
    | false =>
      have hne : roundD P (iterD P k) ≠ iterD P k := fun e => by
        have := H4.out.2.2.2.1
        rw [show iterD P (k + 1) = iterD P k from e] at this
        simp at this
      have HNX : Hid (∀ j, j < k + 1 → roundD P (iterD P j) ≠ iterD P j) := fun j hj => by
        by_cases ej : j = k
        · rw [ej]; exact hne
        · exact HI.out.2.1 j (by omega)
      clear hne
      go_wp2_with fail
      go_roundw
      case rel => exact ⟨va, vc, k + 1, rfl, by go_num, H4.out.1, HNX.out, H4.out.2.2.1⟩
      case measure => simp [intOf]; omega
end Go.Proofs.YtglonlpfnllocaaGreatDoor

/-
  The document's LeastOf, once more: its rows are its own.
-/
namespace Go.Proofs.YtglonlpfnllocaaGreatDoor
open Go.RowKit Go.Extern.Stop Go.Stop Go.Extern

set_option maxRecDepth 100000 in
set_option maxHeartbeats 8000000 in
theorem refLeastOwn_any (P : ProgD) (v1 v2 v3 : Value) (w : World) (hS : SmallP P) (hck : checkE P = none) (h : IsProg w v1 v2 v3 P) :
    Calls Tryz.prog 22 #[.agg #[v1, v2, v3]] w fun e w' => ∃ va vn vc, ∃ m : Nat, e = .returned (.tuple #[.slice va vn vc, .int .i64 (m : Int)]) ∧ FixK P m ∧ SetsOwn w.heap.size w' (.slice va vn vc) (iterD P m) ∧ Below w.heap.size w w' := by
  have H : Hid (IsProg w v1 v2 v3 P ∧ SmallP P ∧ checkE P = none) := ⟨h, hS, hck⟩
  obtain ⟨⟨a1, c1, rfl, -, -⟩, ⟨a2, c2, rfl, -, -⟩, ⟨a3, c3, rfl, -, -⟩⟩ := h
  obtain ⟨n1, hn1⟩ : ∃ m, m = P.vars.length := ⟨_, rfl⟩
  obtain ⟨n2, hn2⟩ : ∃ m, m = P.funs.length := ⟨_, rfl⟩
  obtain ⟨n3, hn3⟩ : ∃ m, m = P.stmts.length := ⟨_, rfl⟩
  rw [← hn1, ← hn2, ← hn3] at H ⊢
  obtain ⟨W, hW⟩ : ∃ W, W = w.alloc (.cells #[.slice a1 n1 c1, .slice a2 n2 c2, .slice a3 n3 c3] 26) := ⟨_, rfl⟩
  have hBW : Below w.heap.size w W := by rw [hW]; exact below1 w _
  have HX : Hid (Box3 W w.heap.size (.slice a1 n1 c1) (.slice a2 n2 c2) (.slice a3 n3 c3)) := by show Box3 _ _ _ _ _; rw [hW]; exact box3_new w _ _ _ _
  obtain ⟨M, hM⟩ : ∃ M : Nat, M = places P P.stmts.length := ⟨_, rfl⟩
  have hMl : M ≤ 1000000 := by
    obtain ⟨s1, s2, s3⟩ := right_small hck
    have hpl := places_le P P.stmts.length
    omega
  have KN : Hid (Calls Tryz.prog 49 #[.agg #[.slice a1 n1 c1, .slice a2 n2 c2, .slice a3 n3 c3]] W fun e w' => e = .returned (.int .i64 (M : Int)) ∧ Below W.heap.size W w') := by
    have := refNodes_any P _ _ _ W hS (H.out.1.below hBW)
    rw [← hM] at this
    exact this
  obtain ⟨p0, p1, p2⟩ := HX.out
  have HMP : Hid (M = places P P.stmts.length) := hM
  clear hn1 hn2 hn3 hS hM hck
  go_enter Tryz.func22, Tryz.ntmps22
  go_upto_region 1 with fail
  rw [← hW]
  clear hW
  go_wp2_with fail
  refine KN.out.mono ?_
  rintro e w1 ⟨rfl, hB1⟩
  have HM1 := make_rows M hMl w1
  have hB1w : Below w.heap.size w w1 := hBW.trans (hB1.mono hBW.size)
  have HX1 : Hid (Box3 w1 w.heap.size (.slice a1 n1 c1) (.slice a2 n2 c2) (.slice a3 n3 c3)) := HX.out.below hB1
  clear KN p0 p1 p2 hB1 hBW HX
  go_upto_region 2 with fail
  obtain ⟨W2, hW2⟩ : ∃ W2, W2 = w1.alloc (.cells (Array.replicate M (Value.slice none 0 0)) TSI) := ⟨_, rfl⟩
  have hB2 : Below w1.heap.size w1 W2 := by rw [hW2]; exact below1 w1 _
  have HI2 : Hid (SetsOwn w.heap.size W2 (.slice (some ⟨w1.heap.size, 0, none⟩) M M) (iterD P 0)) := by
    show SetsOwn _ _ _ (emptyD P)
    unfold emptyD
    rw [← HMP.out, hW2]
    exact ⟨rows2_isSets_make w1 M, Or.inr ⟨_, _, _, _, rfl, (Rows2.make w1 M).to3.mono hB1w.size⟩⟩
  have HX2 : Hid (Box3 W2 w.heap.size (.slice a1 n1 c1) (.slice a2 n2 c2) (.slice a3 n3 c3)) := HX1.out.below hB2
  have HB2 : Hid (Below w.heap.size w W2) := hB1w.trans (hB2.mono hB1w.size)
  rw [← hW2]
  clear hW2 HM1 hB2 HX1 hB1w
  obtain ⟨g, hg⟩ : ∃ g, g = w1.heap.size := ⟨_, rfl⟩
  rw [← hg] at HI2 ⊢
  clear hg
  have HG : Hid (∀ k, (iterD P k).length = M ∧ SetsOk P (iterD P k) ∧ ∀ j, j < (iterD P k).length → ((iterD P k).getD j []).length ≤ 200) := fun k => ⟨by rw [iterD_len, HMP.out], setsOk_iter H.out.2.2 k, (setsOk_iter H.out.2.2 k).short H.out.2.2⟩
  have KRd : Hid (∀ wx k ha hc, Below w.heap.size w wx → SetsOwn w.heap.size wx (.slice ha M hc) (iterD P k) → Calls Tryz.prog 50 #[.agg #[.slice a1 n1 c1, .slice a2 n2 c2, .slice a3 n3 c3], .slice ha M hc] wx fun e w' => ∃ va vc, e = .returned (.slice va M vc) ∧ SetsOwn w.heap.size w' (.slice va M vc) (iterD P (k + 1)) ∧ Below wx.heap.size wx w') := fun wx k ha hc hb hi => by
    refine (refRoundOwn_any P _ _ _ _ (iterD P k) wx H.out.2.1 H.out.2.2 (H.out.1.below hb) hi.1 (HG.out k).2.1).mono ?_
    rintro e w' ⟨v, rfl, hr, hb'⟩
    have hl : (roundD P (iterD P k)).length = M := by rw [roundD_len, (HG.out k).1]
    obtain ⟨⟨va, vc, rfl, q⟩, q2⟩ := hr
    rw [hl]
    refine ⟨va, vc, rfl, ⟨⟨va, vc, ?_, q⟩, ?_⟩, hb'⟩
    · show _ = Value.slice va (roundD P (iterD P k)).length vc
      rw [hl]
    · rcases q2 with q2 | ⟨g, us, n, c, e, h2⟩
      · exact Or.inl q2
      · rw [hl] at e
        exact Or.inr ⟨g, us, n, c, e, h2.mono hb.size⟩
  have KEq : Hid (∀ wx k va vc ha hc, IsSets wx (.slice va M vc) (iterD P (k + 1)) → IsSets wx (.slice ha M hc) (iterD P k) → Calls Tryz.prog 51 #[.slice va M vc, .slice ha M hc] wx fun e w' => e = .returned (.bool (decide (iterD P (k + 1) = iterD P k))) ∧ Below wx.heap.size wx w') := fun wx k va vc ha hc h1 h2 =>
    sameSets_any _ _ _ _ wx h1 h2 (by rw [(HG.out (k + 1)).1]; exact hMl) (by rw [(HG.out k).1]; exact hMl) (fun j hj => by have := (HG.out (k + 1)).2.2 j hj; omega) (fun j hj => by have := (HG.out k).2.2 j hj; omega)
  go_wp2_with fail
  go_loopw [4, 5] (fun t4 t5 wr => ∃ (ha : Option Addr) (hc k : Nat), t4 = .slice ha M hc ∧ t5 = .int .i64 k ∧ SetsOwn w.heap.size wr (.slice ha M hc) (iterD P k) ∧ (∀ j, j < k → roundD P (iterD P j) ≠ iterD P j) ∧ Below W2.heap.size W2 wr) (fun _ t5 _ => (40000 - intOf t5).toNat)
  case atStart => exact ⟨_, _, 0, rfl, rfl, HI2.out, fun j hj => absurd hj (Nat.not_lt_zero _), Below.refl _ _⟩
  case round =>
    obtain ⟨ha, hc, k, rfl, rfl, hi, hno, hwr⟩ := hrel
    have hk := rounds_few H.out.2.2 k hno
    obtain ⟨p0, p1, p2⟩ := HX2.out.below hwr
    have hBr : Below w.heap.size w wr := HB2.out.trans (hwr.mono HB2.out.size)
    have HI : Hid (SetsOwn w.heap.size wr (.slice ha M hc) (iterD P k) ∧ (∀ j, j < k → roundD P (iterD P j) ≠ iterD P j) ∧ Below w.heap.size w wr ∧ Below W2.heap.size W2 wr) := ⟨hi, hno, hBr, hwr⟩
    clear hi hno hBr hwr
    go_wp2_with fail
    refine (KRd.out wr k ha hc HI.out.2.2.1 HI.out.1).mono ?_
    rintro e w3 ⟨va, vc, rfl, hi3, hb3⟩
    have H3 : Hid (SetsOwn w.heap.size w3 (.slice va M vc) (iterD P (k + 1)) ∧ SetsOwn w.heap.size w3 (.slice ha M hc) (iterD P k) ∧ Below wr.heap.size wr w3) := ⟨hi3, HI.out.1.below hb3, hb3⟩
    clear hi3 hb3 p0 p1 p2
    go_wp2_with fail
    refine (KEq.out w3 k va vc ha hc H3.out.1.1 H3.out.2.1.1).mono ?_
    rintro e w4 ⟨rfl, hb4⟩
    obtain ⟨D, hD⟩ : ∃ D, D = decide (iterD P (k + 1) = iterD P k) := ⟨_, rfl⟩
    rw [← hD]
    have H4 : Hid (SetsOwn w.heap.size w4 (.slice va M vc) (iterD P (k + 1)) ∧ Below w.heap.size w w4 ∧ Below W2.heap.size W2 w4 ∧ D = decide (iterD P (k + 1) = iterD P k) ∧ SetsOwn w.heap.size w4 (.slice ha M hc) (iterD P k)) := by
      have hb3 := H3.out.2.2
      have h34 : Below wr.heap.size wr w4 := hb3.trans (hb4.mono hb3.size)
      exact ⟨H3.out.1.below hb4, HI.out.2.2.1.trans (h34.mono HI.out.2.2.1.size), HI.out.2.2.2.trans (h34.mono HI.out.2.2.2.size), hD, H3.out.2.1.below hb4⟩
    clear hb4 hD H3
    cases D with
    | true =>
      have HF : Hid (FixK P k) := ⟨of_decide_eq_true H4.out.2.2.2.1.symm, HI.out.2.1⟩
      go_wp2_with fail
      go_ret2
      exact ⟨_, _, _, k, rfl, HF.out, H4.out.2.2.2.2, H4.out.2.1⟩
    | false =>
      have hne : roundD P (iterD P k) ≠ iterD P k := fun e => by
        have := H4.out.2.2.2.1
        rw [show iterD P (k + 1) = iterD P k from e] at this
        simp at this
      have HNX : Hid (∀ j, j < k + 1 → roundD P (iterD P j) ≠ iterD P j) := fun j hj => by
        by_cases ej : j = k
        · rw [ej]; exact hne
        · exact HI.out.2.1 j (by omega)
      clear hne
      go_wp2_with fail
      go_roundw
      case rel => exact ⟨va, vc, k + 1, rfl, by go_num, H4.out.1, HNX.out, H4.out.2.2.1⟩
      case measure => simp [intOf]; omega
end Go.Proofs.YtglonlpfnllocaaGreatDoor

/-
  Package set: Within, by contracts.
-/
namespace Go.Proofs.YtglonlpfnllocaaGreatDoor
open Go.RowKit Go.Extern.Stop Go.Stop Go.Extern Go.Sort

set_option maxHeartbeats 1000000 in
theorem within1_any (ys : List Int) (vb : Value) (pb : Nat) (x : Int) (w : World) (hm : ys.length ≤ 1000000) (hb : w.cell? ⟨pb, 0, none⟩ = some vb) (hv : IsInts w vb ys) (hs : ys.Pairwise (· ≤ ·)) :
    Calls Tryz.prog 54 #[.int .i64 x, .pointer (some ⟨pb, 0, none⟩)] w fun e w' => e = .returned (.bool (!ys.contains x)) ∧ Below w.heap.size w w' := by
  have HV : Hid (IsInts w vb ys) := hv
  obtain ⟨va, vc, rfl⟩ := hv.form
  clear hv
  go_enter Tryz.func54, Tryz.ntmps54
  go_wp2_with fail
  refine (holds_any ys _ x _ hm HV.out hs).mono ?_
  rintro e w1 ⟨rfl, hB⟩
  obtain ⟨B, hBe⟩ : ∃ B, B = ys.contains x := ⟨_, rfl⟩
  rw [← hBe]
  have HBe : Hid (B = ys.contains x) := hBe
  clear hBe
  go_wp2
  go_ret
  exact ⟨by rw [← HBe.out]; rfl, hB⟩

theorem any_take_succ (p : Int → Bool) (zs : List Int) (k : Nat) (h : k < zs.length) (h1 : (zs.take k).any p = false) (h2 : p (zs.getD k 0) = false) : (zs.take (k + 1)).any p = false := by
  rw [take_succ_getD zs k h, List.any_append, h1]
  simpa using h2
theorem any_at (p : Int → Bool) (zs : List Int) (k : Nat) (h : k < zs.length) (h2 : p (zs.getD k 0) = true) : zs.any p = true :=
  List.any_eq_true.2 ⟨zs[k], List.getElem_mem h, by simpa [List.getD, h] using h2⟩

set_option maxHeartbeats 1000000 in
theorem indexFunc_any (p : Int → Bool) (zs : List Int) (v : Value) (pb : Nat) (w : World) (hm : zs.length ≤ 1000000) (h : IsInts w v zs)
    (hcl : ∀ wr x, Below w.heap.size w wr → Calls Tryz.prog 54 #[.int .i64 x, .pointer (some ⟨pb, 0, none⟩)] wr fun e w' => e = .returned (.bool (p x)) ∧ Below wr.heap.size wr w') :
    Calls Tryz.prog 88 #[v, .func (Fn.func 54) #[] #[.pointer (some ⟨pb, 0, none⟩)]] w fun e w' => ∃ r : Int, e = .returned (.int .i64 r) ∧ ((0 ≤ r ∧ zs.any p = true) ∨ (r = -1 ∧ zs.any p = false)) ∧ Below w.heap.size w w' := by
  have HCL : Hid (∀ wr x, Below w.heap.size w wr → Calls Tryz.prog 54 #[.int .i64 x, .pointer (some ⟨pb, 0, none⟩)] wr fun e w' => e = .returned (.bool (p x)) ∧ Below wr.heap.size wr w') := hcl
  clear hcl
  rcases h with ⟨hz, a, c, rfl⟩ | ⟨hz, b, o, c, rfl, hc⟩
  · subst hz
    go_enter Tryz.func88, Tryz.ntmps88
    go_wp2_with fail
    go_loopw [8] (fun t wr => t = .int .i64 0 ∧ wr = w) (fun _ _ => 0)
    case atStart => exact ⟨rfl, rfl⟩
    case round =>
      obtain ⟨rfl, rfl⟩ := hrel
      go_wp2_with fail
      go_ret
      exact ⟨-1, rfl, Or.inr ⟨rfl, rfl⟩, Below.refl _ _⟩
  · have HC : Hid (∀ j, j < zs.length → w.cell? ⟨b, o + j, none⟩ = some (.int .i64 (zs.getD j 0))) := hc
    clear hc hz
    generalize hn : zs.length = n at *
    have HN : Hid (zs.length = n) := hn
    clear hn
    go_enter Tryz.func88, Tryz.ntmps88
    go_wp2_with fail
    go_loopw [8] (fun t wr => ∃ k : Nat, k ≤ n ∧ t = .int .i64 k ∧ (zs.take k).any p = false ∧ Below w.heap.size w wr) (fun t _ => (n - intOf t).toNat)
    case atStart => exact ⟨0, Nat.zero_le _, rfl, rfl, Below.refl _ _⟩
    case round =>
      obtain ⟨k, hk, rfl, hall, hB⟩ := hrel
      have HA : Hid ((zs.take k).any p = false) := hall
      clear hall
      by_cases hlt : k < n
      · have e1 := cell_keep hB (HC.out k hlt)
        obtain ⟨z, hze⟩ : ∃ z, z = zs.getD k 0 := ⟨_, rfl⟩
        rw [← hze] at e1
        have HZ : Hid (z = zs.getD k 0) := hze
        clear hze
        go_wp2_with fail
        refine (HCL.out wr z hB).mono ?_
        rintro e w1 ⟨rfl, hB1⟩
        have hBw : Below w.heap.size w w1 := hB.trans (hB1.mono hB.size)
        clear hB1
        cases hpz : p z with
        | true =>
          have HP : Hid (zs.any p = true) := any_at p zs k (by rw [HN.out]; exact hlt) (by rw [← HZ.out]; exact hpz)
          clear hpz
          go_wp2_with fail
          go_ret
          exact ⟨k, rfl, Or.inl ⟨by omega, HP.out⟩, hBw⟩
        | false =>
          have HP : Hid ((zs.take (k + 1)).any p = false) := any_take_succ p zs k (by rw [HN.out]; exact hlt) HA.out (by rw [← HZ.out]; exact hpz)
          clear hpz
          go_wp2_with fail
          go_roundw
          case rel => exact ⟨k + 1, hlt, by go_num, HP.out, hBw⟩
          case measure => simp [intOf]; omega
      · go_wp2_with fail
        go_ret
        refine ⟨-1, rfl, Or.inr ⟨rfl, ?_⟩, hB⟩
        have hkn : k = zs.length := by rw [HN.out]; omega
        have := HA.out
        rw [hkn, List.take_length] at this
        exact this

theorem containsFunc_any (p : Int → Bool) (zs : List Int) (v : Value) (pb : Nat) (w : World) (hm : zs.length ≤ 1000000) (h : IsInts w v zs)
    (hcl : ∀ wr x, Below w.heap.size w wr → Calls Tryz.prog 54 #[.int .i64 x, .pointer (some ⟨pb, 0, none⟩)] wr fun e w' => e = .returned (.bool (p x)) ∧ Below wr.heap.size wr w') :
    Calls Tryz.prog 53 #[v, .func (Fn.func 54) #[] #[.pointer (some ⟨pb, 0, none⟩)]] w fun e w' => e = .returned (.bool (zs.any p)) ∧ Below w.heap.size w w' := by
  have HK := indexFunc_any p zs v pb w hm h hcl
  have HK' : Hid (Calls Tryz.prog 88 #[v, .func (Fn.func 54) #[] #[.pointer (some ⟨pb, 0, none⟩)]] w fun e w' => ∃ r : Int, e = .returned (.int .i64 r) ∧ ((0 ≤ r ∧ zs.any p = true) ∨ (r = -1 ∧ zs.any p = false)) ∧ Below w.heap.size w w') := HK
  clear HK hcl h hm
  obtain ⟨B, hBe⟩ : ∃ B, B = zs.any p := ⟨_, rfl⟩
  rw [← hBe] at HK' ⊢
  clear hBe
  go_enter Tryz.func53, Tryz.ntmps53
  go_wp2_with fail
  refine HK'.out.mono ?_
  rintro e w1 ⟨r, rfl, hr, hB⟩
  rcases hr with ⟨h1, rfl⟩ | ⟨rfl, rfl⟩
  · go_wp2
    go_ret
    exact ⟨rfl, hB⟩
  · go_wp2
    go_ret
    exact ⟨rfl, hB⟩

set_option maxHeartbeats 1000000 in
theorem within_any (xs ys : List Int) (u v : Value) (w : World) (hx : xs.length ≤ 100000) (hy : ys.length ≤ 100000) (h1 : IsInts w u xs) (h2 : IsInts w v ys) :
    Calls Tryz.prog 24 #[u, v] w fun e w' => e = .returned (.bool (xs.all fun x => ys.contains x)) ∧ Below w.heap.size w w' := by
  have H1 : Hid (IsInts w u xs) := h1
  have HS : Hid (Calls Tryz.prog 52 #[v] w fun e w' => Sorted w w' e ys) := sorted_any ys v w (by omega) h2
  have hall : (xs.all fun x => ys.contains x) = !(xs.any fun x => !(srt ys).contains x) := by
    rw [List.not_any_eq_all_not]
    refine congrFun (congrArg List.all rfl) _ |>.trans ?_
    apply List.all_congr rfl
    intro x
    rw [Bool.not_not, Bool.eq_iff_iff, List.contains_iff_mem, List.contains_iff_mem]
    exact ((srt_perm ys).mem_iff).symm
  rw [hall]
  clear hall h1 h2
  go_enter Tryz.func24, Tryz.ntmps24
  go_wp2_with fail
  refine HS.out.mono ?_
  rintro e w1 hs
  have hsorted : ∃ a n c, e = .returned (.slice a n c) ∧ IsInts w1 (.slice a n c) (srt ys) ∧ Below w.heap.size w w1 := by
    rcases hs with ⟨hz, b, c, rfl, hB⟩ | ⟨hz, g, cap, rfl, hg1, hg2, hcap, hH, hB⟩
    · refine ⟨b, 0, c, rfl, ?_, hB⟩
      rw [hz]
      have : srt [] = [] := List.eq_nil_of_length_eq_zero (by rw [srt_length]; rfl)
      rw [this]; exact IsInts.nil _ _ _
    · exact ⟨_, _, cap, rfl, isInts_of_holds (by rw [srt_length]) hH, hB⟩
  obtain ⟨a, n, c, rfl, hI, hB⟩ := hsorted
  have HI : Hid (IsInts w1 (.slice a n c) (srt ys)) := hI
  clear hs hI
  go_wp2_with fail
  have hB1 := fun o => (Below.refl w1.heap.size w1).alloc (Nat.le_refl _) o
  have hBw := fun o => hB.trans ((hB1 o).mono hB.size)
  refine (containsFunc_any (fun x => !(srt ys).contains x) xs u w1.heap.size _ (by omega) (H1.out.below (hBw _)) (fun wr x hb => within1_any (srt ys) _ w1.heap.size x wr (by rw [srt_length]; omega) (cell_keep hb (by simp)) ((HI.out.below (hB1 _)).below hb) (srt_sorted ys))).mono ?_
  rintro e w2 ⟨rfl, hB2⟩
  have hBw2 : Below w.heap.size w w2 := (hBw _).trans (hB2.mono (by have := hB.size; simp; omega))
  obtain ⟨B, hBe⟩ : ∃ B, B = (xs.any fun x => !(srt ys).contains x) := ⟨_, rfl⟩
  rw [← hBe]
  have HBe : Hid (B = (xs.any fun x => !(srt ys).contains x)) := hBe
  clear hBe hBw hB1 hB2
  go_wp2
  go_ret
  exact ⟨by rw [← HBe.out]; rfl, hBw2⟩
end Go.Proofs.YtglonlpfnllocaaGreatDoor

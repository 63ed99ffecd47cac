/-
  Package cons: slices.SortFunc at edges, by a contract.
-/
import Derived.Test.YtimmkenmahagjaaGreatDoorCT
import Derived.Test.YtimmkenmahagjaaGreatDoorShelfS
import Derived.Shelf.SlSortCmp.WholeK
import Derived.Deep.RegionHeld3
namespace Go.Proofs.YtimmkenmahagjaaGreatDoor
open Go.RowKit Go.Extern.Stop Go.Stop Go.Extern Go.Sort

/-- Which of two edges is the lesser one. -/
def cfE (x y : Pair) : Int := if Lib.compareInt x.1 y.1 ≠ 0 then Lib.compareInt x.1 y.1 else Lib.compareInt x.2 y.2
def ltE (x y : Pair) : Prop := x.1 < y.1 ∨ (x.1 = y.1 ∧ x.2 < y.2)
theorem ltOf_cfE (x y : Pair) : ltOf cfE x y = true ↔ ltE x y := by
  unfold ltOf cfE ltE Lib.compareInt
  by_cases h1 : x.1 < y.1
  · simp [h1]
  · by_cases h2 : y.1 < x.1
    · have : ¬ x.1 = y.1 := by omega
      simp [h1, h2, this]
    · have h3 : x.1 = y.1 := by omega
      by_cases h4 : x.2 < y.2
      · simp [h3, h4]
      · by_cases h5 : y.2 < x.2 <;> simp [h3, h4, h5]
theorem ltOf_false (x y : Pair) : ltOf cfE x y = false ↔ ¬ ltE x y := by
  rw [← ltOf_cfE]; simp
theorem swoE : SWO (ltOf cfE) where
  irrefl x := by rw [ltOf_false]; unfold ltE; omega
  trans x y z h1 h2 := by rw [ltOf_cfE] at *; unfold ltE at *; omega
  ntrans x y z h1 h2 := by rw [ltOf_false] at *; unfold ltE at *; omega

set_option maxHeartbeats 2000000 in
theorem orInt_any (w : World) (b c : Nat) (x y : Int) (e0 : w.cell? ⟨b, 0, none⟩ = some (.int .i64 x)) (e1 : w.cell? ⟨b, 1, none⟩ = some (.int .i64 y)) :
    Calls Tryz.prog 116 #[.slice (some ⟨b, 0, none⟩) 2 c] w fun e w' => e = .returned (.int .i64 (if x ≠ 0 then x else y)) ∧ w' = w := by
  obtain ⟨R, hR⟩ : ∃ R, R = (if x ≠ 0 then x else y) := ⟨_, rfl⟩
  have HR : Hid (R = (if x ≠ 0 then x else y)) := hR
  rw [← hR]
  clear hR
  go_enter Tryz.func116, Tryz.ntmps116
  go_wp2_with fail
  go_loopw [8] (fun t wr => ∃ k : Nat, k ≤ 2 ∧ t = .int .i64 k ∧ (1 ≤ k → x = 0) ∧ (2 ≤ k → y = 0) ∧ wr = w) (fun t _ => (2 - intOf t).toNat)
  case atStart => exact ⟨0, by omega, rfl, by omega, by omega, rfl⟩
  case round =>
    obtain ⟨k, hk, rfl, h1, h2, hwr⟩ := hrel
    obtain rfl := hwr.symm
    have hc : k = 0 ∨ k = 1 ∨ k = 2 := by omega
    rcases hc with rfl | rfl | rfl
    · by_cases hx : x = 0
      · have HX : Hid (x = 0) := hx
        clear h1 h2
        go_wp2_with fail
        go_roundw
        case rel => refine ⟨1, by omega, by go_num, fun _ => HX.out, by omega, ?_⟩; first | rfl | trivial
        case measure => simp [intOf]
      · have hX : Hid (R = x) := by show R = _; rw [HR.out, if_pos hx]
        clear h1 h2
        go_wp2_with fail
        go_ret
        exact ⟨by rw [hX.out]; first | done | rfl, rfl⟩
    · have hx := h1 (by omega)
      by_cases hy : y = 0
      · have HX : Hid (x = 0 ∧ y = 0) := ⟨hx, hy⟩
        clear h1 h2 hx
        go_wp2_with fail
        go_roundw
        case rel => refine ⟨2, by omega, by go_num, fun _ => HX.out.1, fun _ => HX.out.2, ?_⟩; first | rfl | trivial
        case measure => simp [intOf]
      · have hX : Hid (R = y) := by show R = _; rw [HR.out, if_neg (by rw [hx]; simp)]
        clear h1 h2 hx
        go_wp2_with fail
        go_ret
        exact ⟨by rw [hX.out]; first | done | rfl, rfl⟩
    · have hX : Hid (R = 0) := by show R = _; rw [HR.out, h1 (by omega), h2 (by omega)]; simp
      clear h1 h2
      go_wp2_with fail
      go_ret
      exact ⟨by rw [hX.out]; first | done | rfl, rfl⟩

theorem keep4c {w0 w : World} {p0 p1 p2 p3 : Addr} {v0 v1 v2 v3 : Value} (k0 : w0.cell? p0 = some v0) (k1 : w0.cell? p1 = some v1) (k2 : w0.cell? p2 = some v2) (k3 : w0.cell? p3 = some v3) (hb : Below w0.heap.size w0 w) : w.cell? p0 = some v0 ∧ w.cell? p1 = some v1 ∧ w.cell? p2 = some v2 ∧ w.cell? p3 = some v3 :=
  ⟨cell_keep hb k0, cell_keep hb k1, cell_keep hb k2, cell_keep hb k3⟩
theorem below_alC {w0 w : World} (h : Below w0.heap.size w0 w) (o : Obj) : Below w0.heap.size w0 (w.alloc o) := h.alloc h.size o
theorem grow3 (W : World) (a b c : Obj) : (((W.alloc a).alloc b).alloc c).drew = grow (W.drewN 1) #[a, b, c] := by
  rw [alloc_eq_grow, alloc_eq_grow, alloc_eq_grow, grow_grow, grow_grow]; rfl
set_option maxRecDepth 100000 in
set_option maxHeartbeats 4000000 in
theorem tidy2_any (x y : Pair) (W : World) : Calls Tryz.prog 115 #[.agg #[.int .i64 x.1, .int .i64 x.2], .agg #[.int .i64 y.1, .int .i64 y.2]] W fun e w' => e = .returned (.int .i64 (cfE x y)) ∧ ∃ q os', w' = grow (W.drewN q) os' := by
  obtain ⟨x1, hx1⟩ : ∃ z, z = x.1 := ⟨_, rfl⟩
  obtain ⟨x2, hx2⟩ : ∃ z, z = x.2 := ⟨_, rfl⟩
  obtain ⟨y1, hy1⟩ : ∃ z, z = y.1 := ⟨_, rfl⟩
  obtain ⟨y2, hy2⟩ : ∃ z, z = y.2 := ⟨_, rfl⟩
  obtain ⟨F, hF⟩ : ∃ F : Int → Int → Int, F = Lib.compareInt := ⟨_, rfl⟩
  have HR : Hid (cfE x y = (if F x1 y1 ≠ 0 then F x1 y1 else F x2 y2)) := by show _ = _; unfold cfE; rw [hF, hx1, hx2, hy1, hy2]
  have HC : Hid (∀ wx p q, Calls Tryz.prog 117 #[.int .i64 p, .int .i64 q] wx fun e w' => e = .returned (.int .i64 (F p q)) ∧ w' = wx) := fun wx p q => by rw [hF]; exact Tryz.cmp_Compare_int p q wx
  rw [← hx1, ← hx2, ← hy1, ← hy2]
  clear hx1 hx2 hy1 hy2 hF
  obtain ⟨W2, hW2⟩ : ∃ W2, W2 = (W.alloc (.cells #[.int .i64 x1, .int .i64 x2] TE)).alloc (.cells #[.int .i64 y1, .int .i64 y2] TE) := ⟨_, rfl⟩
  have a0 : W2.cell? ⟨W.heap.size, 0, none⟩ = some (.int .i64 x1) := by rw [hW2]; exact cell_keep (below1 _ _) (by simp)
  have a1 : W2.cell? ⟨W.heap.size, 1, none⟩ = some (.int .i64 x2) := by rw [hW2]; exact cell_keep (below1 _ _) (by simp)
  have b0 : W2.cell? ⟨W.heap.size + 1, 0, none⟩ = some (.int .i64 y1) := by rw [hW2]; exact new_cell _ _ _ _ _ _ (by simp) rfl
  have b1 : W2.cell? ⟨W.heap.size + 1, 1, none⟩ = some (.int .i64 y2) := by rw [hW2]; exact new_cell _ _ _ _ _ _ (by simp) rfl
  have HO : Hid (∀ wx : World, Calls Tryz.prog 116 #[.slice (some ⟨wx.heap.size, 0, none⟩) 2 2] (wx.alloc (.cells #[.int .i64 (F x1 y1), .int .i64 (F x2 y2)] 3)) fun e w' => e = .returned (.int .i64 (if F x1 y1 ≠ 0 then F x1 y1 else F x2 y2)) ∧ w' = wx.alloc (.cells #[.int .i64 (F x1 y1), .int .i64 (F x2 y2)] 3)) := fun wx => orInt_any _ wx.heap.size 2 (F x1 y1) (F x2 y2) (by simp) (by simp)
  obtain ⟨R, hR⟩ : ∃ R, R = (if F x1 y1 ≠ 0 then F x1 y1 else F x2 y2) := ⟨_, rfl⟩
  rw [← hR] at HR HO
  rw [HR.out]
  clear hR
  go_enter Tryz.func115, Tryz.ntmps115
  go_upto_region 1 with fail
  rw [← hW2]
  have HW2 : Hid (W2 = (W.alloc (.cells #[.int .i64 x1, .int .i64 x2] TE)).alloc (.cells #[.int .i64 y1, .int .i64 y2] TE)) := hW2
  clear hW2
  go_region_held3 (fun wx => wx.cell? ⟨W.heap.size, 0, none⟩ = some (.int .i64 x1) ∧ wx.cell? ⟨W.heap.size, 1, none⟩ = some (.int .i64 x2) ∧ wx.cell? ⟨W.heap.size + 1, 0, none⟩ = some (.int .i64 y1) ∧ wx.cell? ⟨W.heap.size + 1, 1, none⟩ = some (.int .i64 y2))
    ((go_split_ands; refine keep4c a0 a1 b0 b1 ?_; repeat (with_reducible first | assumption | exact Below.refl _ _ | refine Below.drew ?_ | refine below_alC ?_ _)))
    (first
      | (go_at_call 117; refine (HC.out _ _ _).mono ?_; rintro e wq ⟨rfl, hwq⟩; obtain rfl := hwq.symm; clear hwq)
      | (go_at_call 116; first
          | (refine (HO.out W2.drew).mono ?_; rintro e wq ⟨rfl, hwq⟩; obtain rfl := hwq.symm; clear hwq)
          | (refine (HO.out W2).mono ?_; rintro e wq ⟨rfl, hwq⟩; obtain rfl := hwq.symm; clear hwq)))
  go_wp2_with fail
  go_ret
  refine ⟨rfl, 1, #[.cells #[.int .i64 x1, .int .i64 x2] TE, .cells #[.int .i64 y1, .int .i64 y2] TE, .cells #[.int .i64 (F x1 y1), .int .i64 (F x2 y2)] 3], ?_⟩
  rw [HW2.out]
  exact grow3 W _ _ _

abbrev encE (x : Pair) : List Value := pairCells x
theorem toArray_at (es : List Pair) (q : Nat) (h : q < es.length) : (es.toArray)[q]! = es.getD q default := by
  rw [getElem!_pos es.toArray q (by simpa using h)]
  simp [List.getD, h]
theorem ecells_flat (es : List Pair) (t : Nat) (h : t < es.length * 2) : (ecells es)[t]? = some ((flatK encE 2 es.toArray)[t]!) := by
  rw [get_flatK _ _ _ _ (by simpa using h)]
  obtain ⟨q, hq⟩ : ∃ q, t = q * 2 ∨ t = q * 2 + 1 := ⟨t / 2, by omega⟩
  rcases hq with rfl | rfl
  · have hq : q < es.length := by omega
    rw [show q * 2 / 2 = q by omega, show q * 2 % 2 = 0 by omega, toArray_at es q hq]
    exact (ecells_at es q hq).1
  · have hq : q < es.length := by omega
    rw [show (q * 2 + 1) / 2 = q by omega, show (q * 2 + 1) % 2 = 1 by omega, toArray_at es q hq]
    exact (ecells_at es q hq).2
theorem RowE.holdsK {w : World} {g : Nat} {es : List Pair} (h : RowE w g es) : HoldsK encE 2 w g 0 es.toArray := by
  intro j hj
  rw [size_flatK] at hj
  have hj' : j < es.length * 2 := by simpa using hj
  obtain ⟨h1, h2⟩ := h.pos j hj'
  rw [Nat.zero_add]
  refine ⟨?_, h2⟩
  rw [h1, ecells_flat es j hj']
  rfl
theorem RowE.of_holdsK {w : World} {g : Nat} {d : Array Pair} (h : HoldsK encE 2 w g 0 d) : RowE w g d.toList := by
  refine ⟨fun j hj => ?_⟩
  have hj' : j < d.toList.length * 2 := hj
  obtain ⟨h1, h2⟩ := h j (by rw [size_flatK]; simpa using hj)
  rw [Nat.zero_add] at h1 h2
  refine ⟨?_, h2⟩
  rw [h1, ecells_flat d.toList j hj']
  simp
def SortedE (es : List Pair) : Prop := ∀ i j, i < j → j < es.length → ¬ ltE (es.getD j default) (es.getD i default)
set_option maxHeartbeats 1000000 in
theorem sortE_any (es : List Pair) (w : World) (B g cap : Nat) (hn : es.length ≤ 1000000) (hB : B ≤ g) (hg : g < w.heap.size) (h : RowE w g es) :
    Calls Tryz.prog 114 #[.slice (some ⟨g, 0, none⟩) es.length cap, .func (.func 115) #[] #[]] w fun e w' => e = .returned (.tuple #[]) ∧ ∃ es', es'.Perm es ∧ SortedE es' ∧ RowE w' g es' ∧ Below B w w' ∧ w.heap.size ≤ w'.heap.size := by
  have eg : ∀ args w, (callFunc 115 args).run Tryz.prog w = .ok (.enter 115 args) w := enters_of Tryz.func115 (by kernel_rfl) rfl
  have hcon := AnyQ.slices_SortFunc Tryz.sortE 2 Tryz.isAgg58 Tryz.sizeOf58 encE (fun _ => rfl) (fun x v hv => by simp [pairCells] at hv; rcases hv with rfl | rfl <;> rfl) cfE swoE 115 #[] g 0 cap es.toArray w eg (fun m os dk _ x y => tidy2_any x y _) h.holdsK hg (by simp; omega)
  have hsz : es.toArray.size = es.length := by simp
  rw [hsz] at hcon
  change Calls Tryz.prog 114 _ _ _ at hcon
  refine hcon.mono ?_
  rintro e w' ⟨rfl, d', n, os, hp, hs, rfl⟩
  have hsz' : d'.size = es.length := by have := hp.1; simpa using this
  have hHK : HoldsK encE 2 (sortWorldK encE 2 w g 0 n d' os) g 0 d' ∧ g < (sortWorldK encE 2 w g 0 n d' os).heap.size := AtK.holds (d0 := es.toArray) ⟨n, os, rfl⟩ h.holdsK (by simpa using hsz') hg
  have hB' : Below B w (sortWorldK encE 2 w g 0 n d' os) := by
    unfold sortWorldK putRowK
    have h1 : Below B w (putRow id (Sort.ahead w n) g 0 (flatK encE 2 d')) := Lib.below_putRow (Below.refl _ _) hB
    exact ⟨h1.os, h1.tape, h1.output, Nat.le_trans h1.size (by simp [grow]), fun k hk => by rw [heap_grow_old _ _ (by have := h1.size; simp [putRow, mapBlock, Sort.ahead]; omega)]; exact h1.block k hk⟩
  refine ⟨rfl, d'.toList, ?_, ?_, RowE.of_holdsK hHK.1, hB', hB'.size⟩
  · have := hp.2.2
    rw [← hsz', Array.extract_size] at this
    rw [hsz', ← hsz, Array.extract_size] at this
    simpa using this
  · intro i j hij hj
    have := hs i j (Nat.zero_le _) hij (by rw [← hsz']; simpa using hj)
    rw [ltOf_false] at this
    have e1 : d'[j]! = d'.toList.getD j default := by
      rw [getElem!_pos d' j (by simpa using hj)]
      simp [List.getD, show j < d'.size by simpa using hj]
    have e2 : d'[i]! = d'.toList.getD i default := by
      rw [getElem!_pos d' i (by simp at hj; omega)]
      simp [List.getD, show i < d'.size by simp at hj; omega]
    rw [← e1, ← e2]
    exact this
end Go.Proofs.YtimmkenmahagjaaGreatDoor

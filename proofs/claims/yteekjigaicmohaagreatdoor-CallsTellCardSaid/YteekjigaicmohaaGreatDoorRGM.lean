/-
  Package run: what a statement does to a machine, as plain data; (*machine).step, kind by kind.
-/
import Derived.Test.YteekjigaicmohaaGreatDoorRFM
namespace Go.Proofs.YteekjigaicmohaaGreatDoor
open Go.RowKit Go.Extern.Stop Go.Stop Go.Extern

/-- The row of the cells of the functions. -/
theorem Mach.frow {w : World} {B Bt mb n1 n2 : Nat} {s : StD} {l : Lay} {v1 v2 v3 xv xf xt xp : Value} (h : Mach w B Bt mb n1 n2 s l v1 v2 v3 xv xf xt xp) (hn : 0 < n2) :
    ∃ g cap, xf = .slice (some ⟨g, 0, none⟩) n2 cap ∧ (∀ i, i < n2 → w.cell? ⟨g, i, none⟩ = some (ptrV (l.at (.fn i)))) ∧ ∃ cs, w.heap[g]? = some (.cells cs 176 (0, 0)) := by
  rcases h.rf.2 with ⟨q, e⟩ | ⟨g, cap, cur, hv, hg, hh, hcap, hmax, hsz, hcur⟩
  · omega
  · refine ⟨g, cap, hv, fun i hi => ?_, _, hh⟩
    rw [Lib.cell_of_heap hh]
    have h1 : (cur.toList.take (n2 * 1))[i]? = (l.fb.map ptrV)[i]? := by rw [hcur]
    rw [List.getElem?_take_of_lt (by omega)] at h1
    simp only [Array.getElem?_toList] at h1
    rw [h1]
    have hi' : i < l.fb.length := by rw [h.lf]; exact hi
    simp [hi', Lay.at, List.getD]
theorem fresh_ne {w : World} {b : Nat} {o : Obj} (h : w.heap[b]? = some o) : w.heap.size ≠ b := fun e => by
  rw [← e] at h
  simp at h
def loadD (s : StD) (x : Nat) : Option Ref → StD
  | none => s
  | some r => if r.isFn then s else s.put (.var x) (s.get r)
def storeD (s : StD) (x : Option Ref) : Option Ref → StD
  | none => s
  | some r => if r.isFn then s else s.put r x

set_option maxRecDepth 100000 in
set_option maxHeartbeats 8000000 in
theorem step_Addr {w0 w : World} {Bt mb n1 n2 n3 tb tq tc na ac : Nat} {aa : Option Addr} {s : StD} {l : Lay} {v1 v2 xv xf xt xp : Value} (h : Mach w w0.heap.size Bt mb n1 n2 s l v1 v2 (.slice (some ⟨tb, tq, none⟩) n3 tc) xv xf xt xp) (k x : Nat) (yn : Nat) (hk : k < n3) (hx : x < n1)
    (q0 : w.cell? ⟨tb, tq + k * 4, none⟩ = some (.string ⟨#[97, 100, 100, 114]⟩)) (q1 : w.cell? ⟨tb, tq + k * 4 + 1, none⟩ = some (.int .i64 (x : Int))) (q2 : w.cell? ⟨tb, tq + k * 4 + 2, none⟩ = some (.int .i64 (yn : Int))) (q3 : w.cell? ⟨tb, tq + k * 4 + 3, none⟩ = some (.slice aa na ac)) (hyn : yn < n1) :
    Calls Tryz.prog 80 #[.pointer (some ⟨mb, 0, none⟩), .int .i64 (k : Int)] w fun e w' => e = .returned (.tuple #[]) ∧ ∃ l' xt' xp', Mach w' w0.heap.size Bt mb n1 n2 (s.put (.var x) (some (.var yn))) l' v1 v2 (.slice (some ⟨tb, tq, none⟩) n3 tc) xv xf xt' xp' ∧ Below w0.heap.size w w' := by
  have hB := h.size
  obtain ⟨-, -, c2, c3, c4, -⟩ := h.cellsM
  obtain ⟨g0, cap, rfl, hvr, gcs, hgb⟩ := h.vrow (by omega)
  have e1 := hvr x hx
  unfold ptrV at e1
  have hcell := (h.cells (.var x) hx).2
  obtain ⟨-, -, x2, -⟩ := cell_kind (h.cells (.var x) hx)
  obtain ⟨xb, hxb⟩ : ∃ b, b = l.at (.var x) := ⟨_, rfl⟩
  rw [← hxb] at e1 x2 hcell
  have HXB : Hid (xb = l.at (.var x)) := hxb
  have HCL : Hid (w.heap[xb]? = some (.cells #[.string (refKind (.var x)), .int .i64 (refNo (.var x) : Int), hasV l (s.get (.var x))] 178 (0, 0))) := hcell
  have HG0 : Hid (w.heap[g0]? = some (.cells gcs 176 (0, 0))) := hgb
  have m1 : mb ≠ xb := ne_block h.blk hcell (by decide)
  have m2 : g0 ≠ xb := ne_block hgb hcell (by decide)
  have m3 : w.heap.size ≠ xb := fresh_ne hcell
  have HLX : Hid (w0.heap.size ≤ xb) := by show _ ≤ _; rw [hxb]; exact (h.cells (.var x) hx).1
  have hki : (k : Int) < n3 := by omega
  have hxi : (x : Int) < n1 := by omega
  have d1 := hvr yn hyn
  unfold ptrV at d1
  obtain ⟨-, -, d2, -⟩ := cell_kind (h.cells (.var yn) hyn)
  obtain ⟨yb, hyb⟩ : ∃ b, b = l.at (.var yn) := ⟨_, rfl⟩
  rw [← hyb] at d1 d2
  have HYB : Hid (yb = l.at (.var yn)) := hyb
  clear hyb
  obtain ⟨hv, hhv⟩ : ∃ v, .pointer v = hasV l (s.get (.var yn)) := ⟨_, rfl⟩
  rw [← hhv] at d2
  have HHV : Hid (.pointer hv = hasV l (s.get (.var yn))) := hhv
  have HXO : Hid (OkO n1 n2 s.things.length (s.get (.var yn))) := h.get_ok _
  have hyi : (yn : Int) < n1 := by omega
  clear hhv
  obtain ⟨u, hu⟩ : ∃ v, .pointer v = hasV l (s.get (.var x)) := ⟨_, rfl⟩
  rw [← hu] at x2
  have HU : Hid (.pointer u = hasV l (s.get (.var x))) := hu
  clear hu
  have HM : Hid (Mach w w0.heap.size Bt mb n1 n2 s l v1 v2 (.slice (some ⟨tb, tq, none⟩) n3 tc) (.slice (some ⟨g0, 0, none⟩) n1 cap) xf xt xp) := h
  clear h hvr hgb hcell hxb
  go_enter Tryz.func80, Tryz.ntmps80
  go_upto_region 1 with fail
  obtain ⟨W1, hW1⟩ : ∃ W1, W1 = w.alloc (.cells #[.string ⟨#[97, 100, 100, 114]⟩, .int .i64 (x : Int), .int .i64 (yn : Int), .slice aa na ac] 45) := ⟨_, rfl⟩
  have hB1 : Below w.heap.size w W1 := by rw [hW1]; exact below1 w _
  have hbox : W1.heap[w.heap.size]? = some (.cells #[.string ⟨#[97, 100, 100, 114]⟩, .int .i64 (x : Int), .int .i64 (yn : Int), .slice aa na ac] 45 (0, 0)) := by rw [hW1]; exact heap_new w _
  rw [← hW1]
  clear hW1 q0 q1 q2 q3 c2
  replace c3 := cell_keep hB1 c3
  replace c4 := cell_keep hB1 c4
  replace e1 := cell_keep hB1 e1
  replace x2 := cell_keep hB1 x2
  have s0 : W1.cell? ⟨w.heap.size, 0, none⟩ = some (.string ⟨#[97, 100, 100, 114]⟩) := by rw [Lib.cell_of_heap hbox]; rfl
  have s1 : W1.cell? ⟨w.heap.size, 1, none⟩ = some (.int .i64 (x : Int)) := by rw [Lib.cell_of_heap hbox]; rfl
  have s2 : W1.cell? ⟨w.heap.size, 2, none⟩ = some (.int .i64 (yn : Int)) := by rw [Lib.cell_of_heap hbox]; rfl
  have s3 : W1.cell? ⟨w.heap.size, 3, none⟩ = some (.slice aa na ac) := by rw [Lib.cell_of_heap hbox]; rfl
  go_region_held3 (fun wx => wx.cell? ⟨mb, 3, none⟩ = some (.slice (some ⟨g0, 0, none⟩) n1 cap) ∧ wx.cell? ⟨w.heap.size, 1, none⟩ = some (.int .i64 (x : Int)) ∧ wx.cell? ⟨g0, x, none⟩ = some (.pointer (some ⟨xb, 0, none⟩)))
    ((go_split_ands; exact ⟨c3, s1, e1⟩)) (fail)
  obtain ⟨W2, hW2⟩ : ∃ W2, W2 = W1.drew := ⟨_, rfl⟩
  have hB2 : Below w.heap.size w W2 := by rw [hW2]; exact hB1.drew
  have hB12 : Below W1.heap.size W1 W2 := by rw [hW2]; exact (Below.refl _ _).drew
  replace c3 := cell_keep hB12 c3
  replace c4 := cell_keep hB12 c4
  replace e1 := cell_keep hB12 e1
  replace x2 := cell_keep hB12 x2
  replace s0 := cell_keep hB12 s0
  replace s2 := cell_keep hB12 s2
  replace s3 := cell_keep hB12 s3
  rw [← hW2]
  have x2f := frozen_of_block (block_keep hB2 HCL.out) 2
  have HBX : Hid (W2.heap[w.heap.size]? = some (.cells #[.string ⟨#[97, 100, 100, 114]⟩, .int .i64 (x : Int), .int .i64 (yn : Int), .slice aa na ac] 45 (0, 0))) := block_keep hB12 hbox
  clear hW2 hbox hB1 s1 hB12 HCL
  have HM2 : Hid (Mach W2 w0.heap.size Bt mb n1 n2 s l v1 v2 (.slice (some ⟨tb, tq, none⟩) n3 tc) (.slice (some ⟨g0, 0, none⟩) n1 cap) xf xt xp) := HM.out.below hB2
  replace d1 := cell_keep hB2 d1
  replace d2 := cell_keep hB2 d2
  have HP : Hid (Mach (W2.setCell ⟨xb, 2, none⟩ (.pointer (some ⟨yb, 0, none⟩))) w0.heap.size Bt mb n1 n2 (s.put (.var x) (some (.var yn))) l v1 v2 (.slice (some ⟨tb, tq, none⟩) n3 tc) (.slice (some ⟨g0, 0, none⟩) n1 cap) xf xt xp) := by
    have := HM2.out.put (r := .var x) hx rfl (x := some (.var yn)) (fun r hr => by cases hr; exact hyn)
    rw [← HXB.out] at this
    unfold hasV at this
    simp only [Option.map_some] at this
    rw [← HYB.out] at this
    exact this
  go_upto_region 4 with fail
  go_region_held3 (fun wx => wx.cell? ⟨mb, 3, none⟩ = some (.slice (some ⟨g0, 0, none⟩) n1 cap) ∧ wx.cell? ⟨w.heap.size, 2, none⟩ = some (.int .i64 (yn : Int)) ∧ wx.cell? ⟨g0, yn, none⟩ = some (.pointer (some ⟨yb, 0, none⟩)))
    ((go_split_ands; first | exact ⟨c3, s2, d1⟩ | exact ⟨other_cell c3 m1, other_cell s2 m3, other_cell d1 m2⟩)) (fail)
  go_wp2_with fail
  refine bodyPost_end (results_none rfl _ _ _) rfl ?_
  exact ⟨rfl, _, _, _, HP.out.below (Below.refl _ _).drew, ((hB2.mono hB).setCell HLX.out _).drew⟩

set_option maxRecDepth 100000 in
set_option maxHeartbeats 8000000 in
theorem step_Copy {w0 w : World} {Bt mb n1 n2 n3 tb tq tc na ac : Nat} {aa : Option Addr} {s : StD} {l : Lay} {v1 v2 xv xf xt xp : Value} (h : Mach w w0.heap.size Bt mb n1 n2 s l v1 v2 (.slice (some ⟨tb, tq, none⟩) n3 tc) xv xf xt xp) (k x : Nat) (yn : Nat) (hk : k < n3) (hx : x < n1)
    (q0 : w.cell? ⟨tb, tq + k * 4, none⟩ = some (.string ⟨#[99, 111, 112, 121]⟩)) (q1 : w.cell? ⟨tb, tq + k * 4 + 1, none⟩ = some (.int .i64 (x : Int))) (q2 : w.cell? ⟨tb, tq + k * 4 + 2, none⟩ = some (.int .i64 (yn : Int))) (q3 : w.cell? ⟨tb, tq + k * 4 + 3, none⟩ = some (.slice aa na ac)) (hyn : yn < n1) :
    Calls Tryz.prog 80 #[.pointer (some ⟨mb, 0, none⟩), .int .i64 (k : Int)] w fun e w' => e = .returned (.tuple #[]) ∧ ∃ l' xt' xp', Mach w' w0.heap.size Bt mb n1 n2 (s.put (.var x) (s.get (.var yn))) l' v1 v2 (.slice (some ⟨tb, tq, none⟩) n3 tc) xv xf xt' xp' ∧ Below w0.heap.size w w' := by
  have hB := h.size
  obtain ⟨-, -, c2, c3, c4, -⟩ := h.cellsM
  obtain ⟨g0, cap, rfl, hvr, gcs, hgb⟩ := h.vrow (by omega)
  have e1 := hvr x hx
  unfold ptrV at e1
  have hcell := (h.cells (.var x) hx).2
  obtain ⟨-, -, x2, -⟩ := cell_kind (h.cells (.var x) hx)
  obtain ⟨xb, hxb⟩ : ∃ b, b = l.at (.var x) := ⟨_, rfl⟩
  rw [← hxb] at e1 x2 hcell
  have HXB : Hid (xb = l.at (.var x)) := hxb
  have HCL : Hid (w.heap[xb]? = some (.cells #[.string (refKind (.var x)), .int .i64 (refNo (.var x) : Int), hasV l (s.get (.var x))] 178 (0, 0))) := hcell
  have HG0 : Hid (w.heap[g0]? = some (.cells gcs 176 (0, 0))) := hgb
  have m1 : mb ≠ xb := ne_block h.blk hcell (by decide)
  have m2 : g0 ≠ xb := ne_block hgb hcell (by decide)
  have m3 : w.heap.size ≠ xb := fresh_ne hcell
  have HLX : Hid (w0.heap.size ≤ xb) := by show _ ≤ _; rw [hxb]; exact (h.cells (.var x) hx).1
  have hki : (k : Int) < n3 := by omega
  have hxi : (x : Int) < n1 := by omega
  have d1 := hvr yn hyn
  unfold ptrV at d1
  obtain ⟨-, -, d2, -⟩ := cell_kind (h.cells (.var yn) hyn)
  obtain ⟨yb, hyb⟩ : ∃ b, b = l.at (.var yn) := ⟨_, rfl⟩
  rw [← hyb] at d1 d2
  have HYB : Hid (yb = l.at (.var yn)) := hyb
  clear hyb
  obtain ⟨hv, hhv⟩ : ∃ v, .pointer v = hasV l (s.get (.var yn)) := ⟨_, rfl⟩
  rw [← hhv] at d2
  have HHV : Hid (.pointer hv = hasV l (s.get (.var yn))) := hhv
  have HXO : Hid (OkO n1 n2 s.things.length (s.get (.var yn))) := h.get_ok _
  have hyi : (yn : Int) < n1 := by omega
  clear hhv
  obtain ⟨u, hu⟩ : ∃ v, .pointer v = hasV l (s.get (.var x)) := ⟨_, rfl⟩
  rw [← hu] at x2
  have HU : Hid (.pointer u = hasV l (s.get (.var x))) := hu
  clear hu
  have HM : Hid (Mach w w0.heap.size Bt mb n1 n2 s l v1 v2 (.slice (some ⟨tb, tq, none⟩) n3 tc) (.slice (some ⟨g0, 0, none⟩) n1 cap) xf xt xp) := h
  clear h hvr hgb hcell hxb
  go_enter Tryz.func80, Tryz.ntmps80
  go_upto_region 1 with fail
  obtain ⟨W1, hW1⟩ : ∃ W1, W1 = w.alloc (.cells #[.string ⟨#[99, 111, 112, 121]⟩, .int .i64 (x : Int), .int .i64 (yn : Int), .slice aa na ac] 45) := ⟨_, rfl⟩
  have hB1 : Below w.heap.size w W1 := by rw [hW1]; exact below1 w _
  have hbox : W1.heap[w.heap.size]? = some (.cells #[.string ⟨#[99, 111, 112, 121]⟩, .int .i64 (x : Int), .int .i64 (yn : Int), .slice aa na ac] 45 (0, 0)) := by rw [hW1]; exact heap_new w _
  rw [← hW1]
  clear hW1 q0 q1 q2 q3 c2
  replace c3 := cell_keep hB1 c3
  replace c4 := cell_keep hB1 c4
  replace e1 := cell_keep hB1 e1
  replace x2 := cell_keep hB1 x2
  have s0 : W1.cell? ⟨w.heap.size, 0, none⟩ = some (.string ⟨#[99, 111, 112, 121]⟩) := by rw [Lib.cell_of_heap hbox]; rfl
  have s1 : W1.cell? ⟨w.heap.size, 1, none⟩ = some (.int .i64 (x : Int)) := by rw [Lib.cell_of_heap hbox]; rfl
  have s2 : W1.cell? ⟨w.heap.size, 2, none⟩ = some (.int .i64 (yn : Int)) := by rw [Lib.cell_of_heap hbox]; rfl
  have s3 : W1.cell? ⟨w.heap.size, 3, none⟩ = some (.slice aa na ac) := by rw [Lib.cell_of_heap hbox]; rfl
  go_region_held3 (fun wx => wx.cell? ⟨mb, 3, none⟩ = some (.slice (some ⟨g0, 0, none⟩) n1 cap) ∧ wx.cell? ⟨w.heap.size, 1, none⟩ = some (.int .i64 (x : Int)) ∧ wx.cell? ⟨g0, x, none⟩ = some (.pointer (some ⟨xb, 0, none⟩)))
    ((go_split_ands; exact ⟨c3, s1, e1⟩)) (fail)
  obtain ⟨W2, hW2⟩ : ∃ W2, W2 = W1.drew := ⟨_, rfl⟩
  have hB2 : Below w.heap.size w W2 := by rw [hW2]; exact hB1.drew
  have hB12 : Below W1.heap.size W1 W2 := by rw [hW2]; exact (Below.refl _ _).drew
  replace c3 := cell_keep hB12 c3
  replace c4 := cell_keep hB12 c4
  replace e1 := cell_keep hB12 e1
  replace x2 := cell_keep hB12 x2
  replace s0 := cell_keep hB12 s0
  replace s2 := cell_keep hB12 s2
  replace s3 := cell_keep hB12 s3
  rw [← hW2]
  have x2f := frozen_of_block (block_keep hB2 HCL.out) 2
  have HBX : Hid (W2.heap[w.heap.size]? = some (.cells #[.string ⟨#[99, 111, 112, 121]⟩, .int .i64 (x : Int), .int .i64 (yn : Int), .slice aa na ac] 45 (0, 0))) := block_keep hB12 hbox
  clear hW2 hbox hB1 s1 hB12 HCL
  have HM2 : Hid (Mach W2 w0.heap.size Bt mb n1 n2 s l v1 v2 (.slice (some ⟨tb, tq, none⟩) n3 tc) (.slice (some ⟨g0, 0, none⟩) n1 cap) xf xt xp) := HM.out.below hB2
  replace d1 := cell_keep hB2 d1
  replace d2 := cell_keep hB2 d2
  have HP : Hid (Mach (W2.setCell ⟨xb, 2, none⟩ (.pointer hv)) w0.heap.size Bt mb n1 n2 (s.put (.var x) (s.get (.var yn))) l v1 v2 (.slice (some ⟨tb, tq, none⟩) n3 tc) (.slice (some ⟨g0, 0, none⟩) n1 cap) xf xt xp) := by
    have := HM2.out.put (r := .var x) hx rfl (x := s.get (.var yn)) HXO.out
    rw [← HXB.out, ← HHV.out] at this
    exact this
  go_upto_region 6 with fail
  go_region_held3 (fun wx => wx.cell? ⟨mb, 3, none⟩ = some (.slice (some ⟨g0, 0, none⟩) n1 cap) ∧ wx.cell? ⟨w.heap.size, 2, none⟩ = some (.int .i64 (yn : Int)) ∧ wx.cell? ⟨g0, yn, none⟩ = some (.pointer (some ⟨yb, 0, none⟩)) ∧ wx.cell? ⟨yb, 2, none⟩ = some (.pointer hv))
    ((go_split_ands; first | exact ⟨c3, s2, d1, d2⟩ | exact ⟨other_cell c3 m1, other_cell s2 m3, other_cell d1 m2, cell_set_same d2⟩)) (fail)
  go_wp2_with fail
  refine bodyPost_end (results_none rfl _ _ _) rfl ?_
  exact ⟨rfl, _, _, _, HP.out.below (Below.refl _ _).drew, ((hB2.mono hB).setCell HLX.out _).drew⟩

set_option maxRecDepth 100000 in
set_option maxHeartbeats 8000000 in
theorem step_Load {w0 w : World} {Bt mb n1 n2 n3 tb tq tc na ac : Nat} {aa : Option Addr} {s : StD} {l : Lay} {v1 v2 xv xf xt xp : Value} (h : Mach w w0.heap.size Bt mb n1 n2 s l v1 v2 (.slice (some ⟨tb, tq, none⟩) n3 tc) xv xf xt xp) (k x : Nat) (yn : Nat) (hk : k < n3) (hx : x < n1)
    (q0 : w.cell? ⟨tb, tq + k * 4, none⟩ = some (.string ⟨#[108, 111, 97, 100]⟩)) (q1 : w.cell? ⟨tb, tq + k * 4 + 1, none⟩ = some (.int .i64 (x : Int))) (q2 : w.cell? ⟨tb, tq + k * 4 + 2, none⟩ = some (.int .i64 (yn : Int))) (q3 : w.cell? ⟨tb, tq + k * 4 + 3, none⟩ = some (.slice aa na ac)) (hyn : yn < n1) :
    Calls Tryz.prog 80 #[.pointer (some ⟨mb, 0, none⟩), .int .i64 (k : Int)] w fun e w' => e = .returned (.tuple #[]) ∧ ∃ l' xt' xp', Mach w' w0.heap.size Bt mb n1 n2 (loadD s x (s.get (.var yn))) l' v1 v2 (.slice (some ⟨tb, tq, none⟩) n3 tc) xv xf xt' xp' ∧ Below w0.heap.size w w' := by
  have hB := h.size
  obtain ⟨-, -, c2, c3, c4, -⟩ := h.cellsM
  obtain ⟨g0, cap, rfl, hvr, gcs, hgb⟩ := h.vrow (by omega)
  have e1 := hvr x hx
  unfold ptrV at e1
  have hcell := (h.cells (.var x) hx).2
  obtain ⟨-, -, x2, -⟩ := cell_kind (h.cells (.var x) hx)
  obtain ⟨xb, hxb⟩ : ∃ b, b = l.at (.var x) := ⟨_, rfl⟩
  rw [← hxb] at e1 x2 hcell
  have HXB : Hid (xb = l.at (.var x)) := hxb
  have HCL : Hid (w.heap[xb]? = some (.cells #[.string (refKind (.var x)), .int .i64 (refNo (.var x) : Int), hasV l (s.get (.var x))] 178 (0, 0))) := hcell
  have HG0 : Hid (w.heap[g0]? = some (.cells gcs 176 (0, 0))) := hgb
  have m1 : mb ≠ xb := ne_block h.blk hcell (by decide)
  have m2 : g0 ≠ xb := ne_block hgb hcell (by decide)
  have m3 : w.heap.size ≠ xb := fresh_ne hcell
  have HLX : Hid (w0.heap.size ≤ xb) := by show _ ≤ _; rw [hxb]; exact (h.cells (.var x) hx).1
  have hki : (k : Int) < n3 := by omega
  have hxi : (x : Int) < n1 := by omega
  have d1 := hvr yn hyn
  unfold ptrV at d1
  obtain ⟨-, -, d2, -⟩ := cell_kind (h.cells (.var yn) hyn)
  obtain ⟨yb, hyb⟩ : ∃ b, b = l.at (.var yn) := ⟨_, rfl⟩
  rw [← hyb] at d1 d2
  have HYB : Hid (yb = l.at (.var yn)) := hyb
  clear hyb
  obtain ⟨hv, hhv⟩ : ∃ v, .pointer v = hasV l (s.get (.var yn)) := ⟨_, rfl⟩
  rw [← hhv] at d2
  have HHV : Hid (.pointer hv = hasV l (s.get (.var yn))) := hhv
  have HXO : Hid (OkO n1 n2 s.things.length (s.get (.var yn))) := h.get_ok _
  have hyi : (yn : Int) < n1 := by omega
  clear hhv
  obtain ⟨u, hu⟩ : ∃ v, .pointer v = hasV l (s.get (.var x)) := ⟨_, rfl⟩
  rw [← hu] at x2
  have HU : Hid (.pointer u = hasV l (s.get (.var x))) := hu
  clear hu
  have HM : Hid (Mach w w0.heap.size Bt mb n1 n2 s l v1 v2 (.slice (some ⟨tb, tq, none⟩) n3 tc) (.slice (some ⟨g0, 0, none⟩) n1 cap) xf xt xp) := h
  clear h hvr hgb hcell hxb
  go_enter Tryz.func80, Tryz.ntmps80
  go_upto_region 1 with fail
  obtain ⟨W1, hW1⟩ : ∃ W1, W1 = w.alloc (.cells #[.string ⟨#[108, 111, 97, 100]⟩, .int .i64 (x : Int), .int .i64 (yn : Int), .slice aa na ac] 45) := ⟨_, rfl⟩
  have hB1 : Below w.heap.size w W1 := by rw [hW1]; exact below1 w _
  have hbox : W1.heap[w.heap.size]? = some (.cells #[.string ⟨#[108, 111, 97, 100]⟩, .int .i64 (x : Int), .int .i64 (yn : Int), .slice aa na ac] 45 (0, 0)) := by rw [hW1]; exact heap_new w _
  rw [← hW1]
  clear hW1 q0 q1 q2 q3 c2
  replace c3 := cell_keep hB1 c3
  replace c4 := cell_keep hB1 c4
  replace e1 := cell_keep hB1 e1
  replace x2 := cell_keep hB1 x2
  have s0 : W1.cell? ⟨w.heap.size, 0, none⟩ = some (.string ⟨#[108, 111, 97, 100]⟩) := by rw [Lib.cell_of_heap hbox]; rfl
  have s1 : W1.cell? ⟨w.heap.size, 1, none⟩ = some (.int .i64 (x : Int)) := by rw [Lib.cell_of_heap hbox]; rfl
  have s2 : W1.cell? ⟨w.heap.size, 2, none⟩ = some (.int .i64 (yn : Int)) := by rw [Lib.cell_of_heap hbox]; rfl
  have s3 : W1.cell? ⟨w.heap.size, 3, none⟩ = some (.slice aa na ac) := by rw [Lib.cell_of_heap hbox]; rfl
  go_region_held3 (fun wx => wx.cell? ⟨mb, 3, none⟩ = some (.slice (some ⟨g0, 0, none⟩) n1 cap) ∧ wx.cell? ⟨w.heap.size, 1, none⟩ = some (.int .i64 (x : Int)) ∧ wx.cell? ⟨g0, x, none⟩ = some (.pointer (some ⟨xb, 0, none⟩)))
    ((go_split_ands; exact ⟨c3, s1, e1⟩)) (fail)
  obtain ⟨W2, hW2⟩ : ∃ W2, W2 = W1.drew := ⟨_, rfl⟩
  have hB2 : Below w.heap.size w W2 := by rw [hW2]; exact hB1.drew
  have hB12 : Below W1.heap.size W1 W2 := by rw [hW2]; exact (Below.refl _ _).drew
  replace c3 := cell_keep hB12 c3
  replace c4 := cell_keep hB12 c4
  replace e1 := cell_keep hB12 e1
  replace x2 := cell_keep hB12 x2
  replace s0 := cell_keep hB12 s0
  replace s2 := cell_keep hB12 s2
  replace s3 := cell_keep hB12 s3
  rw [← hW2]
  have x2f := frozen_of_block (block_keep hB2 HCL.out) 2
  have HBX : Hid (W2.heap[w.heap.size]? = some (.cells #[.string ⟨#[108, 111, 97, 100]⟩, .int .i64 (x : Int), .int .i64 (yn : Int), .slice aa na ac] 45 (0, 0))) := block_keep hB12 hbox
  clear hW2 hbox hB1 s1 hB12 HCL
  have HM2 : Hid (Mach W2 w0.heap.size Bt mb n1 n2 s l v1 v2 (.slice (some ⟨tb, tq, none⟩) n3 tc) (.slice (some ⟨g0, 0, none⟩) n1 cap) xf xt xp) := HM.out.below hB2
  replace d1 := cell_keep hB2 d1
  replace d2 := cell_keep hB2 d2
  go_upto_region 8 with fail
  go_region_held3 (fun wx => wx.cell? ⟨mb, 3, none⟩ = some (.slice (some ⟨g0, 0, none⟩) n1 cap) ∧ wx.cell? ⟨w.heap.size, 2, none⟩ = some (.int .i64 (yn : Int)) ∧ wx.cell? ⟨g0, yn, none⟩ = some (.pointer (some ⟨yb, 0, none⟩)) ∧ wx.cell? ⟨yb, 2, none⟩ = some (.pointer hv))
    ((go_split_ands; exact ⟨c3, s2, d1, d2⟩)) (fail)
  obtain ⟨W3, hW3⟩ : ∃ W3, W3 = W2.drew := ⟨_, rfl⟩
  have hB23 : Below W2.heap.size W2 W3 := by rw [hW3]; exact (Below.refl _ _).drew
  have hB3 : Below w.heap.size w W3 := hB2.trans (hB23.mono hB2.size)
  replace x2 := cell_keep hB23 x2
  have HM3 : Hid (Mach W3 w0.heap.size Bt mb n1 n2 (s) l v1 v2 (.slice (some ⟨tb, tq, none⟩) n3 tc) (.slice (some ⟨g0, 0, none⟩) n1 cap) xf xt xp) := HM.out.below hB3
  replace x2f : W3.frozen? ⟨xb, 2, none⟩ = false := by rw [hW3]; exact x2f
  rw [← hW3]
  clear hW3 c3 c4 e1 s0 s2 s3 d1 d2 HM HM2 HBX hB23
  have HK : Hid (Calls Tryz.prog 127 #[.pointer hv] W3 fun e w' => e = .returned (.bool (holdsO (s.get (.var yn)))) ∧ w' = W3) := by
    show Calls _ _ _ _ _
    rw [HHV.out]
    exact runHolds_any l _ W3 (fun r hr => (cell_kind (HM3.out.cells r (HM3.out.get_ok _ r hr))).1)
  cases hgy : s.get (.var yn) with
  | none =>
    rw [hgy] at HK
    unfold holdsO at HK
    have HL : Hid (loadD s x (s.get (.var yn)) = s) := by show _ = _; rw [hgy]; rfl
    clear hgy
    go_wp2_with (go_at_call 127; refine HK.out.mono ?_; rintro e w1 ⟨rfl, hw1⟩; obtain rfl := hw1.symm)
    refine bodyPost_end (results_none rfl _ _ _) rfl ?_
    exact ⟨rfl, _, _, _, by rw [HL.out]; exact HM3.out, hB3.mono hB⟩
  | some r =>
    have hrk := HXO.out r hgy
    rw [hgy] at HK HHV
    cases hfn : r.isFn with
    | true =>
      have hh : holdsO (some r) = false := by simp [holdsO, hfn]
      have HL : Hid (loadD s x (s.get (.var yn)) = s) := by show _ = _; rw [hgy]; simp [loadD, hfn]
      rw [hh] at HK
      clear hgy hh hfn
      go_wp2_with (go_at_call 127; refine HK.out.mono ?_; rintro e w1 ⟨rfl, hw1⟩; obtain rfl := hw1.symm)
      refine bodyPost_end (results_none rfl _ _ _) rfl ?_
      exact ⟨rfl, _, _, _, by rw [HL.out]; exact HM3.out, hB3.mono hB⟩
    | false =>
      have hh : holdsO (some r) = true := by simp [holdsO, hfn]
      have HL : Hid (loadD s x (s.get (.var yn)) = s.put (.var x) (s.get r)) := by show _ = _; rw [hgy]; simp [loadD, hfn]
      rw [hh] at HK
      obtain ⟨-, -, r2, -⟩ := cell_kind (HM3.out.cells r hrk)
      obtain ⟨rb, hrb⟩ : ∃ b, b = l.at r := ⟨_, rfl⟩
      have hhv : hv = some ⟨rb, 0, none⟩ := by
        have := HHV.out
        unfold hasV at this
        simp only [Option.map_some, Value.pointer.injEq] at this
        rw [this, hrb]
      subst hhv
      rw [← hrb] at r2
      obtain ⟨rv, hrv⟩ : ∃ v, .pointer v = hasV l (s.get r) := ⟨_, rfl⟩
      rw [← hrv] at r2
      have HP : Hid (Mach (W3.setCell ⟨xb, 2, none⟩ (.pointer rv)) w0.heap.size Bt mb n1 n2 (s.put (.var x) (s.get r)) l v1 v2 (.slice (some ⟨tb, tq, none⟩) n3 tc) (.slice (some ⟨g0, 0, none⟩) n1 cap) xf xt xp) := by
        have := HM3.out.put (r := .var x) hx rfl (x := s.get r) (HM3.out.get_ok r)
        rw [← HXB.out, ← hrv] at this
        exact this
      clear hgy hh hfn hrb hrv HHV HXO
      go_wp2_with (go_at_call 127; refine HK.out.mono ?_; rintro e w1 ⟨rfl, hw1⟩; obtain rfl := hw1.symm)
      refine bodyPost_end (results_none rfl _ _ _) rfl ?_
      exact ⟨rfl, _, _, _, by rw [HL.out]; exact HP.out, (hB3.mono hB).setCell HLX.out _⟩

set_option maxRecDepth 100000 in
set_option maxHeartbeats 8000000 in
theorem step_Store {w0 w : World} {Bt mb n1 n2 n3 tb tq tc na ac : Nat} {aa : Option Addr} {s : StD} {l : Lay} {v1 v2 xv xf xt xp : Value} (h : Mach w w0.heap.size Bt mb n1 n2 s l v1 v2 (.slice (some ⟨tb, tq, none⟩) n3 tc) xv xf xt xp) (k x : Nat) (yn : Nat) (hk : k < n3) (hx : x < n1)
    (q0 : w.cell? ⟨tb, tq + k * 4, none⟩ = some (.string ⟨#[115, 116, 111, 114, 101]⟩)) (q1 : w.cell? ⟨tb, tq + k * 4 + 1, none⟩ = some (.int .i64 (x : Int))) (q2 : w.cell? ⟨tb, tq + k * 4 + 2, none⟩ = some (.int .i64 (yn : Int))) (q3 : w.cell? ⟨tb, tq + k * 4 + 3, none⟩ = some (.slice aa na ac)) (hyn : yn < n1) :
    Calls Tryz.prog 80 #[.pointer (some ⟨mb, 0, none⟩), .int .i64 (k : Int)] w fun e w' => e = .returned (.tuple #[]) ∧ ∃ l' xt' xp', Mach w' w0.heap.size Bt mb n1 n2 (storeD s (s.get (.var yn)) (s.get (.var x))) l' v1 v2 (.slice (some ⟨tb, tq, none⟩) n3 tc) xv xf xt' xp' ∧ Below w0.heap.size w w' := by
  have hB := h.size
  obtain ⟨-, -, c2, c3, c4, -⟩ := h.cellsM
  obtain ⟨g0, cap, rfl, hvr, gcs, hgb⟩ := h.vrow (by omega)
  have e1 := hvr x hx
  unfold ptrV at e1
  have hcell := (h.cells (.var x) hx).2
  obtain ⟨-, -, x2, -⟩ := cell_kind (h.cells (.var x) hx)
  obtain ⟨xb, hxb⟩ : ∃ b, b = l.at (.var x) := ⟨_, rfl⟩
  rw [← hxb] at e1 x2 hcell
  have HXB : Hid (xb = l.at (.var x)) := hxb
  have HCL : Hid (w.heap[xb]? = some (.cells #[.string (refKind (.var x)), .int .i64 (refNo (.var x) : Int), hasV l (s.get (.var x))] 178 (0, 0))) := hcell
  have HG0 : Hid (w.heap[g0]? = some (.cells gcs 176 (0, 0))) := hgb
  have m1 : mb ≠ xb := ne_block h.blk hcell (by decide)
  have m2 : g0 ≠ xb := ne_block hgb hcell (by decide)
  have m3 : w.heap.size ≠ xb := fresh_ne hcell
  have HLX : Hid (w0.heap.size ≤ xb) := by show _ ≤ _; rw [hxb]; exact (h.cells (.var x) hx).1
  have hki : (k : Int) < n3 := by omega
  have hxi : (x : Int) < n1 := by omega
  have d1 := hvr yn hyn
  unfold ptrV at d1
  obtain ⟨-, -, d2, -⟩ := cell_kind (h.cells (.var yn) hyn)
  obtain ⟨yb, hyb⟩ : ∃ b, b = l.at (.var yn) := ⟨_, rfl⟩
  rw [← hyb] at d1 d2
  have HYB : Hid (yb = l.at (.var yn)) := hyb
  clear hyb
  obtain ⟨hv, hhv⟩ : ∃ v, .pointer v = hasV l (s.get (.var yn)) := ⟨_, rfl⟩
  rw [← hhv] at d2
  have HHV : Hid (.pointer hv = hasV l (s.get (.var yn))) := hhv
  have HXO : Hid (OkO n1 n2 s.things.length (s.get (.var yn))) := h.get_ok _
  have hyi : (yn : Int) < n1 := by omega
  clear hhv
  obtain ⟨u, hu⟩ : ∃ v, .pointer v = hasV l (s.get (.var x)) := ⟨_, rfl⟩
  rw [← hu] at x2
  have HU : Hid (.pointer u = hasV l (s.get (.var x))) := hu
  clear hu
  have HM : Hid (Mach w w0.heap.size Bt mb n1 n2 s l v1 v2 (.slice (some ⟨tb, tq, none⟩) n3 tc) (.slice (some ⟨g0, 0, none⟩) n1 cap) xf xt xp) := h
  clear h hvr hgb hcell hxb
  go_enter Tryz.func80, Tryz.ntmps80
  go_upto_region 1 with fail
  obtain ⟨W1, hW1⟩ : ∃ W1, W1 = w.alloc (.cells #[.string ⟨#[115, 116, 111, 114, 101]⟩, .int .i64 (x : Int), .int .i64 (yn : Int), .slice aa na ac] 45) := ⟨_, rfl⟩
  have hB1 : Below w.heap.size w W1 := by rw [hW1]; exact below1 w _
  have hbox : W1.heap[w.heap.size]? = some (.cells #[.string ⟨#[115, 116, 111, 114, 101]⟩, .int .i64 (x : Int), .int .i64 (yn : Int), .slice aa na ac] 45 (0, 0)) := by rw [hW1]; exact heap_new w _
  rw [← hW1]
  clear hW1 q0 q1 q2 q3 c2
  replace c3 := cell_keep hB1 c3
  replace c4 := cell_keep hB1 c4
  replace e1 := cell_keep hB1 e1
  replace x2 := cell_keep hB1 x2
  have s0 : W1.cell? ⟨w.heap.size, 0, none⟩ = some (.string ⟨#[115, 116, 111, 114, 101]⟩) := by rw [Lib.cell_of_heap hbox]; rfl
  have s1 : W1.cell? ⟨w.heap.size, 1, none⟩ = some (.int .i64 (x : Int)) := by rw [Lib.cell_of_heap hbox]; rfl
  have s2 : W1.cell? ⟨w.heap.size, 2, none⟩ = some (.int .i64 (yn : Int)) := by rw [Lib.cell_of_heap hbox]; rfl
  have s3 : W1.cell? ⟨w.heap.size, 3, none⟩ = some (.slice aa na ac) := by rw [Lib.cell_of_heap hbox]; rfl
  go_region_held3 (fun wx => wx.cell? ⟨mb, 3, none⟩ = some (.slice (some ⟨g0, 0, none⟩) n1 cap) ∧ wx.cell? ⟨w.heap.size, 1, none⟩ = some (.int .i64 (x : Int)) ∧ wx.cell? ⟨g0, x, none⟩ = some (.pointer (some ⟨xb, 0, none⟩)))
    ((go_split_ands; exact ⟨c3, s1, e1⟩)) (fail)
  obtain ⟨W2, hW2⟩ : ∃ W2, W2 = W1.drew := ⟨_, rfl⟩
  have hB2 : Below w.heap.size w W2 := by rw [hW2]; exact hB1.drew
  have hB12 : Below W1.heap.size W1 W2 := by rw [hW2]; exact (Below.refl _ _).drew
  replace c3 := cell_keep hB12 c3
  replace c4 := cell_keep hB12 c4
  replace e1 := cell_keep hB12 e1
  replace x2 := cell_keep hB12 x2
  replace s0 := cell_keep hB12 s0
  replace s2 := cell_keep hB12 s2
  replace s3 := cell_keep hB12 s3
  rw [← hW2]
  have x2f := frozen_of_block (block_keep hB2 HCL.out) 2
  have HBX : Hid (W2.heap[w.heap.size]? = some (.cells #[.string ⟨#[115, 116, 111, 114, 101]⟩, .int .i64 (x : Int), .int .i64 (yn : Int), .slice aa na ac] 45 (0, 0))) := block_keep hB12 hbox
  clear hW2 hbox hB1 s1 hB12 HCL
  have HM2 : Hid (Mach W2 w0.heap.size Bt mb n1 n2 s l v1 v2 (.slice (some ⟨tb, tq, none⟩) n3 tc) (.slice (some ⟨g0, 0, none⟩) n1 cap) xf xt xp) := HM.out.below hB2
  replace d1 := cell_keep hB2 d1
  replace d2 := cell_keep hB2 d2
  have HM3 := HM2
  have HGB : Hid (∃ cs, W2.heap[g0]? = some (.cells cs 176 (0, 0))) := ⟨_, block_keep hB2 HG0.out⟩
  have HK : Hid (Calls Tryz.prog 127 #[.pointer u] W2 fun e w' => e = .returned (.bool (holdsO (s.get (.var x)))) ∧ w' = W2) := by
    show Calls _ _ _ _ _
    rw [HU.out]
    exact runHolds_any l _ W2 (fun r hr => (cell_kind (HM3.out.cells r (HM3.out.get_ok _ r hr))).1)
  cases hgy : s.get (.var x) with
  | none =>
    rw [hgy] at HK
    unfold holdsO at HK
    have HL : Hid (storeD s (s.get (.var yn)) (s.get (.var x)) = s) := by show _ = _; rw [hgy]; rfl
    clear hgy
    go_wp2_with (go_at_call 127; refine HK.out.mono ?_; rintro e w1 ⟨rfl, hw1⟩; obtain rfl := hw1.symm)
    refine bodyPost_end (results_none rfl _ _ _) rfl ?_
    exact ⟨rfl, _, _, _, by rw [HL.out]; exact HM3.out, hB2.mono hB⟩
  | some r =>
    have hrk := HM3.out.get_ok _ r hgy
    rw [hgy] at HK HU
    cases hfn : r.isFn with
    | true =>
      have hh : holdsO (some r) = false := by simp [holdsO, hfn]
      have HL : Hid (storeD s (s.get (.var yn)) (s.get (.var x)) = s) := by show _ = _; rw [hgy]; simp [storeD, hfn]
      rw [hh] at HK
      clear hgy hh hfn
      go_wp2_with (go_at_call 127; refine HK.out.mono ?_; rintro e w1 ⟨rfl, hw1⟩; obtain rfl := hw1.symm)
      refine bodyPost_end (results_none rfl _ _ _) rfl ?_
      exact ⟨rfl, _, _, _, by rw [HL.out]; exact HM3.out, hB2.mono hB⟩
    | false =>
      have hh : holdsO (some r) = true := by simp [holdsO, hfn]
      have HL : Hid (storeD s (s.get (.var yn)) (s.get (.var x)) = s.put r (s.get (.var yn))) := by show _ = _; rw [hgy]; simp [storeD, hfn]
      rw [hh] at HK
      have hcr := HM3.out.cells r hrk
      obtain ⟨-, -, r2, r2f⟩ := cell_kind hcr
      obtain ⟨rb, hrb⟩ : ∃ b, b = l.at r := ⟨_, rfl⟩
      have hhv : u = some ⟨rb, 0, none⟩ := by
        have := HU.out
        unfold hasV at this
        simp only [Option.map_some, Value.pointer.injEq] at this
        rw [this, hrb]
      subst hhv
      have HLR : Hid (w0.heap.size ≤ rb) := by show _ ≤ _; rw [hrb]; exact hcr.1
      replace hcr := hcr.2
      rw [← hrb] at r2 r2f hcr
      obtain ⟨rv, hrv⟩ : ∃ v, .pointer v = hasV l (s.get r) := ⟨_, rfl⟩
      rw [← hrv] at r2
      obtain ⟨gcs, hgb⟩ := HGB.out
      have t1 : mb ≠ rb := ne_block HM3.out.blk hcr (by decide)
      have t2 : g0 ≠ rb := ne_block hgb hcr (by decide)
      have t3 : w.heap.size ≠ rb := ne_block HBX.out hcr (by decide)
      have HP : Hid (Mach (W2.setCell ⟨rb, 2, none⟩ (.pointer hv)) w0.heap.size Bt mb n1 n2 (s.put r (s.get (.var yn))) l v1 v2 (.slice (some ⟨tb, tq, none⟩) n3 tc) (.slice (some ⟨g0, 0, none⟩) n1 cap) xf xt xp) := by
        have := HM3.out.put (r := r) hrk hfn (x := s.get (.var yn)) HXO.out
        rw [← hrb, ← HHV.out] at this
        exact this
      clear hgy hh hfn hrb hrv HU hgb hcr
      go_upto_region 14 with (go_at_call 127; refine HK.out.mono ?_; rintro e w1 ⟨rfl, hw1⟩; obtain rfl := hw1.symm)
      go_region_held3 (fun wx => wx.cell? ⟨mb, 3, none⟩ = some (.slice (some ⟨g0, 0, none⟩) n1 cap) ∧ wx.cell? ⟨w.heap.size, 2, none⟩ = some (.int .i64 (yn : Int)) ∧ wx.cell? ⟨g0, yn, none⟩ = some (.pointer (some ⟨yb, 0, none⟩)) ∧ wx.cell? ⟨yb, 2, none⟩ = some (.pointer hv))
        ((go_split_ands; first | exact ⟨c3, s2, d1, d2⟩ | exact ⟨other_cell c3 t1, other_cell s2 t3, other_cell d1 t2, cell_set_same d2⟩)) (fail)
      go_wp2_with fail
      refine bodyPost_end (results_none rfl _ _ _) rfl ?_
      exact ⟨rfl, _, _, _, by rw [HL.out]; exact HP.out.below (Below.refl _ _).drew, ((hB2.mono hB).setCell HLR.out _).drew⟩
end Go.Proofs.YteekjigaicmohaaGreatDoor

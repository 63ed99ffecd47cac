/-
  Package run: (*machine).step of the kinds new, fun and call; of all kinds, by a contract.
-/
import Derived.Test.YteekjigaicmohaaGreatDoorRGM
namespace Go.Proofs.YteekjigaicmohaaGreatDoor
open Go.RowKit Go.Extern.Stop Go.Stop Go.Extern

theorem has_new {l : Lay} {b n : Nat} (h : l.tb.length = n) : hasV (layT l b) (some (.thing n)) = .pointer (some ⟨b, 0, none⟩) := by
  unfold hasV
  simp only [Option.map_some]
  rw [show (layT l b).at (.thing n) = b from getD_snoc_last l.tb b 0 n h.symm]

set_option maxRecDepth 100000 in
set_option maxHeartbeats 8000000 in
theorem step_New {w0 w : World} {Bt mb n1 n2 n3 tb tq tc na ac : Nat} {aa : Option Addr} {s : StD} {l : Lay} {v1 v2 xv xf xt xp : Value} (h : Mach w w0.heap.size Bt mb n1 n2 s l v1 v2 (.slice (some ⟨tb, tq, none⟩) n3 tc) xv xf xt xp) (k x : Nat) (y : Int) (hk : k < n3) (hx : x < n1)
    (q0 : w.cell? ⟨tb, tq + k * 4, none⟩ = some (.string ⟨#[110, 101, 119]⟩)) (q1 : w.cell? ⟨tb, tq + k * 4 + 1, none⟩ = some (.int .i64 (x : Int))) (q2 : w.cell? ⟨tb, tq + k * 4 + 2, none⟩ = some (.int .i64 y)) (q3 : w.cell? ⟨tb, tq + k * 4 + 3, none⟩ = some (.slice aa na ac)) (hth : s.things.length ≤ 1000000) :
    Calls Tryz.prog 80 #[.pointer (some ⟨mb, 0, none⟩), .int .i64 (k : Int)] w fun e w' => e = .returned (.tuple #[]) ∧ ∃ l' xt' xp', Mach w' w0.heap.size Bt mb n1 n2 ((addT s k).put (.var x) (some (.thing s.things.length))) l' v1 v2 (.slice (some ⟨tb, tq, none⟩) n3 tc) xv xf xt' xp' ∧ Below w0.heap.size w w' := by
  have hB := h.size
  obtain ⟨-, -, c2, c3, c4, -⟩ := h.cellsM
  obtain ⟨g0, cap, rfl, hvr, gcs, hgb⟩ := h.vrow (by omega)
  have e1 := hvr x hx
  unfold ptrV at e1
  have hcell := (h.cells (.var x) hx).2
  obtain ⟨-, -, x2, -⟩ := cell_kind (h.cells (.var x) hx)
  obtain ⟨xb, hxb⟩ : ∃ b, b = l.at (.var x) := ⟨_, rfl⟩
  rw [← hxb] at e1 x2 hcell
  have HXB : Hid (xb = l.at (.var x)) := hxb
  have HCL : Hid (w.heap[xb]? = some (.cells #[.string (refKind (.var x)), .int .i64 (refNo (.var x) : Int), hasV l (s.get (.var x))] 178 (0, 0))) := hcell
  have HG0 : Hid (w.heap[g0]? = some (.cells gcs 176 (0, 0))) := hgb
  have m1 : mb ≠ xb := ne_block h.blk hcell (by decide)
  have m2 : g0 ≠ xb := ne_block hgb hcell (by decide)
  have m3 : w.heap.size ≠ xb := fresh_ne hcell
  have HLX : Hid (w0.heap.size ≤ xb) := by show _ ≤ _; rw [hxb]; exact (h.cells (.var x) hx).1
  have hki : (k : Int) < n3 := by omega
  have hxi : (x : Int) < n1 := by omega
  obtain ⟨u, hu⟩ : ∃ v, .pointer v = hasV l (s.get (.var x)) := ⟨_, rfl⟩
  rw [← hu] at x2
  have HU : Hid (.pointer u = hasV l (s.get (.var x))) := hu
  clear hu
  have HM : Hid (Mach w w0.heap.size Bt mb n1 n2 s l v1 v2 (.slice (some ⟨tb, tq, none⟩) n3 tc) (.slice (some ⟨g0, 0, none⟩) n1 cap) xf xt xp) := h
  clear h hvr hgb hcell hxb
  go_enter Tryz.func80, Tryz.ntmps80
  go_upto_region 1 with fail
  obtain ⟨W1, hW1⟩ : ∃ W1, W1 = w.alloc (.cells #[.string ⟨#[110, 101, 119]⟩, .int .i64 (x : Int), .int .i64 y, .slice aa na ac] 45) := ⟨_, rfl⟩
  have hB1 : Below w.heap.size w W1 := by rw [hW1]; exact below1 w _
  have hbox : W1.heap[w.heap.size]? = some (.cells #[.string ⟨#[110, 101, 119]⟩, .int .i64 (x : Int), .int .i64 y, .slice aa na ac] 45 (0, 0)) := by rw [hW1]; exact heap_new w _
  rw [← hW1]
  clear hW1 q0 q1 q2 q3 c2
  replace c3 := cell_keep hB1 c3
  replace c4 := cell_keep hB1 c4
  replace e1 := cell_keep hB1 e1
  replace x2 := cell_keep hB1 x2
  have s0 : W1.cell? ⟨w.heap.size, 0, none⟩ = some (.string ⟨#[110, 101, 119]⟩) := by rw [Lib.cell_of_heap hbox]; rfl
  have s1 : W1.cell? ⟨w.heap.size, 1, none⟩ = some (.int .i64 (x : Int)) := by rw [Lib.cell_of_heap hbox]; rfl
  have s2 : W1.cell? ⟨w.heap.size, 2, none⟩ = some (.int .i64 y) := by rw [Lib.cell_of_heap hbox]; rfl
  have s3 : W1.cell? ⟨w.heap.size, 3, none⟩ = some (.slice aa na ac) := by rw [Lib.cell_of_heap hbox]; rfl
  go_region_held3 (fun wx => wx.cell? ⟨mb, 3, none⟩ = some (.slice (some ⟨g0, 0, none⟩) n1 cap) ∧ wx.cell? ⟨w.heap.size, 1, none⟩ = some (.int .i64 (x : Int)) ∧ wx.cell? ⟨g0, x, none⟩ = some (.pointer (some ⟨xb, 0, none⟩)))
    ((go_split_ands; exact ⟨c3, s1, e1⟩)) (fail)
  obtain ⟨W2, hW2⟩ : ∃ W2, W2 = W1.drew := ⟨_, rfl⟩
  have hB2 : Below w.heap.size w W2 := by rw [hW2]; exact hB1.drew
  have hB12 : Below W1.heap.size W1 W2 := by rw [hW2]; exact (Below.refl _ _).drew
  replace c3 := cell_keep hB12 c3
  replace c4 := cell_keep hB12 c4
  replace e1 := cell_keep hB12 e1
  replace x2 := cell_keep hB12 x2
  replace s0 := cell_keep hB12 s0
  replace s2 := cell_keep hB12 s2
  replace s3 := cell_keep hB12 s3
  rw [← hW2]
  have x2f := frozen_of_block (block_keep hB2 HCL.out) 2
  have HBX : Hid (W2.heap[w.heap.size]? = some (.cells #[.string ⟨#[110, 101, 119]⟩, .int .i64 (x : Int), .int .i64 y, .slice aa na ac] 45 (0, 0))) := block_keep hB12 hbox
  clear hW2 hbox hB1 s1 hB12 HCL
  have HM2 : Hid (Mach W2 w0.heap.size Bt mb n1 n2 s l v1 v2 (.slice (some ⟨tb, tq, none⟩) n3 tc) (.slice (some ⟨g0, 0, none⟩) n1 cap) xf xt xp) := HM.out.below hB2
  have HK : Hid (Calls Tryz.prog 128 #[.pointer (some ⟨mb, 0, none⟩), .int .i64 (k : Int)] W2 fun e w' => e = .returned (ptrV W2.heap.size) ∧ ∃ xt' xp', Mach w' w0.heap.size Bt mb n1 n2 (addT s k) (layT l W2.heap.size) v1 v2 (.slice (some ⟨tb, tq, none⟩) n3 tc) (.slice (some ⟨g0, 0, none⟩) n1 cap) xf xt' xp' ∧ Below w0.heap.size W2 w') := newThing_any HM2.out k hth
  have HLT : Hid (l.tb.length = s.things.length) := HM2.out.lt
  clear c3 c4 e1 x2 s2 s3 x2f HM HM2 HBX
  go_upto_region 15 with fail
  go_wp2_with (go_at_call 128; refine HK.out.mono ?_; rintro e w4 ⟨rfl, xt', xp', hM4, hB4⟩; unfold ptrV; have hc4 := hM4.cells (.var x) hx; obtain ⟨-, -, z2, z2f⟩ := cell_kind hc4; rw [show (layT l W2.heap.size).at (.var x) = l.at (.var x) from rfl, ← HXB.out] at z2 z2f; have HM4 : Hid (Mach w4 w0.heap.size Bt mb n1 n2 (addT s k) (layT l W2.heap.size) v1 v2 (.slice (some ⟨tb, tq, none⟩) n3 tc) (.slice (some ⟨g0, 0, none⟩) n1 cap) xf xt' xp') := hM4; clear hM4 hc4; obtain ⟨zu, hzu⟩ : ∃ v, .pointer v = hasV (layT l W2.heap.size) ((addT s k).get (.var x)) := ⟨_, rfl⟩; rw [← hzu] at z2; clear hzu)
  refine bodyPost_end (results_none rfl _ _ _) rfl ?_
  refine ⟨rfl, layT l W2.heap.size, xt', xp', ?_, ((hB2.mono hB).trans hB4).setCell HLX.out _⟩
  have := HM4.out.put (r := .var x) hx rfl (x := some (.thing s.things.length)) (fun r hr => by cases hr; show _ < _; simp [addT])
  rw [show (layT l W2.heap.size).at (.var x) = l.at (.var x) from rfl, ← HXB.out, has_new HLT.out] at this
  exact this

set_option maxRecDepth 100000 in
set_option maxHeartbeats 8000000 in
theorem step_Fun {w0 w : World} {Bt mb n1 n2 n3 tb tq tc na ac : Nat} {aa : Option Addr} {s : StD} {l : Lay} {v1 v2 xv xf xt xp : Value} (h : Mach w w0.heap.size Bt mb n1 n2 s l v1 v2 (.slice (some ⟨tb, tq, none⟩) n3 tc) xv xf xt xp) (k x : Nat) (yn : Nat) (hk : k < n3) (hx : x < n1)
    (q0 : w.cell? ⟨tb, tq + k * 4, none⟩ = some (.string ⟨#[102, 117, 110]⟩)) (q1 : w.cell? ⟨tb, tq + k * 4 + 1, none⟩ = some (.int .i64 (x : Int))) (q2 : w.cell? ⟨tb, tq + k * 4 + 2, none⟩ = some (.int .i64 (yn : Int))) (q3 : w.cell? ⟨tb, tq + k * 4 + 3, none⟩ = some (.slice aa na ac)) (hyn : yn < n2) :
    Calls Tryz.prog 80 #[.pointer (some ⟨mb, 0, none⟩), .int .i64 (k : Int)] w fun e w' => e = .returned (.tuple #[]) ∧ ∃ l' xt' xp', Mach w' w0.heap.size Bt mb n1 n2 (s.put (.var x) (some (.fn yn))) l' v1 v2 (.slice (some ⟨tb, tq, none⟩) n3 tc) xv xf xt' xp' ∧ Below w0.heap.size w w' := by
  have hB := h.size
  obtain ⟨-, -, c2, c3, c4, -⟩ := h.cellsM
  obtain ⟨g0, cap, rfl, hvr, gcs, hgb⟩ := h.vrow (by omega)
  have e1 := hvr x hx
  unfold ptrV at e1
  have hcell := (h.cells (.var x) hx).2
  obtain ⟨-, -, x2, -⟩ := cell_kind (h.cells (.var x) hx)
  obtain ⟨xb, hxb⟩ : ∃ b, b = l.at (.var x) := ⟨_, rfl⟩
  rw [← hxb] at e1 x2 hcell
  have HXB : Hid (xb = l.at (.var x)) := hxb
  have HCL : Hid (w.heap[xb]? = some (.cells #[.string (refKind (.var x)), .int .i64 (refNo (.var x) : Int), hasV l (s.get (.var x))] 178 (0, 0))) := hcell
  have HG0 : Hid (w.heap[g0]? = some (.cells gcs 176 (0, 0))) := hgb
  have m1 : mb ≠ xb := ne_block h.blk hcell (by decide)
  have m2 : g0 ≠ xb := ne_block hgb hcell (by decide)
  have m3 : w.heap.size ≠ xb := fresh_ne hcell
  have HLX : Hid (w0.heap.size ≤ xb) := by show _ ≤ _; rw [hxb]; exact (h.cells (.var x) hx).1
  have hki : (k : Int) < n3 := by omega
  have hxi : (x : Int) < n1 := by omega
  obtain ⟨g1, cap1, rfl, hfr, -⟩ := h.frow (by omega)
  have d1 := hfr yn hyn
  unfold ptrV at d1
  have HG1 : Hid (∃ cs, w.heap[g1]? = some (.cells cs 176 (0, 0))) := by obtain ⟨g, c, e, -, q⟩ := h.frow (by omega); cases e; exact q
  obtain ⟨yb, hyb⟩ : ∃ b, b = l.at (.fn yn) := ⟨_, rfl⟩
  rw [← hyb] at d1
  have HYB : Hid (yb = l.at (.fn yn)) := hyb
  have m4 : g1 ≠ xb := by obtain ⟨cs, q⟩ := HG1.out; exact ne_block q hcell (by decide)
  clear hyb hfr
  have hyi : (yn : Int) < n2 := by omega
  obtain ⟨u, hu⟩ : ∃ v, .pointer v = hasV l (s.get (.var x)) := ⟨_, rfl⟩
  rw [← hu] at x2
  have HU : Hid (.pointer u = hasV l (s.get (.var x))) := hu
  clear hu
  have HM : Hid (Mach w w0.heap.size Bt mb n1 n2 s l v1 v2 (.slice (some ⟨tb, tq, none⟩) n3 tc) (.slice (some ⟨g0, 0, none⟩) n1 cap) (.slice (some ⟨g1, 0, none⟩) n2 cap1) xt xp) := h
  clear h hvr hgb hcell hxb
  go_enter Tryz.func80, Tryz.ntmps80
  go_upto_region 1 with fail
  obtain ⟨W1, hW1⟩ : ∃ W1, W1 = w.alloc (.cells #[.string ⟨#[102, 117, 110]⟩, .int .i64 (x : Int), .int .i64 (yn : Int), .slice aa na ac] 45) := ⟨_, rfl⟩
  have hB1 : Below w.heap.size w W1 := by rw [hW1]; exact below1 w _
  have hbox : W1.heap[w.heap.size]? = some (.cells #[.string ⟨#[102, 117, 110]⟩, .int .i64 (x : Int), .int .i64 (yn : Int), .slice aa na ac] 45 (0, 0)) := by rw [hW1]; exact heap_new w _
  rw [← hW1]
  clear hW1 q0 q1 q2 q3 c2
  replace c3 := cell_keep hB1 c3
  replace c4 := cell_keep hB1 c4
  replace e1 := cell_keep hB1 e1
  replace x2 := cell_keep hB1 x2
  have s0 : W1.cell? ⟨w.heap.size, 0, none⟩ = some (.string ⟨#[102, 117, 110]⟩) := by rw [Lib.cell_of_heap hbox]; rfl
  have s1 : W1.cell? ⟨w.heap.size, 1, none⟩ = some (.int .i64 (x : Int)) := by rw [Lib.cell_of_heap hbox]; rfl
  have s2 : W1.cell? ⟨w.heap.size, 2, none⟩ = some (.int .i64 (yn : Int)) := by rw [Lib.cell_of_heap hbox]; rfl
  have s3 : W1.cell? ⟨w.heap.size, 3, none⟩ = some (.slice aa na ac) := by rw [Lib.cell_of_heap hbox]; rfl
  go_region_held3 (fun wx => wx.cell? ⟨mb, 3, none⟩ = some (.slice (some ⟨g0, 0, none⟩) n1 cap) ∧ wx.cell? ⟨w.heap.size, 1, none⟩ = some (.int .i64 (x : Int)) ∧ wx.cell? ⟨g0, x, none⟩ = some (.pointer (some ⟨xb, 0, none⟩)))
    ((go_split_ands; exact ⟨c3, s1, e1⟩)) (fail)
  obtain ⟨W2, hW2⟩ : ∃ W2, W2 = W1.drew := ⟨_, rfl⟩
  have hB2 : Below w.heap.size w W2 := by rw [hW2]; exact hB1.drew
  have hB12 : Below W1.heap.size W1 W2 := by rw [hW2]; exact (Below.refl _ _).drew
  replace c3 := cell_keep hB12 c3
  replace c4 := cell_keep hB12 c4
  replace e1 := cell_keep hB12 e1
  replace x2 := cell_keep hB12 x2
  replace s0 := cell_keep hB12 s0
  replace s2 := cell_keep hB12 s2
  replace s3 := cell_keep hB12 s3
  rw [← hW2]
  have x2f := frozen_of_block (block_keep hB2 HCL.out) 2
  have HBX : Hid (W2.heap[w.heap.size]? = some (.cells #[.string ⟨#[102, 117, 110]⟩, .int .i64 (x : Int), .int .i64 (yn : Int), .slice aa na ac] 45 (0, 0))) := block_keep hB12 hbox
  clear hW2 hbox hB1 s1 hB12 HCL
  have HM2 : Hid (Mach W2 w0.heap.size Bt mb n1 n2 s l v1 v2 (.slice (some ⟨tb, tq, none⟩) n3 tc) (.slice (some ⟨g0, 0, none⟩) n1 cap) (.slice (some ⟨g1, 0, none⟩) n2 cap1) xt xp) := HM.out.below hB2
  replace d1 := cell_keep hB2 d1
  have HP : Hid (Mach (W2.setCell ⟨xb, 2, none⟩ (.pointer (some ⟨yb, 0, none⟩))) w0.heap.size Bt mb n1 n2 (s.put (.var x) (some (.fn yn))) l v1 v2 (.slice (some ⟨tb, tq, none⟩) n3 tc) (.slice (some ⟨g0, 0, none⟩) n1 cap) (.slice (some ⟨g1, 0, none⟩) n2 cap1) xt xp) := by
    have := HM2.out.put (r := .var x) hx rfl (x := some (.fn yn)) (fun r hr => by cases hr; exact hyn)
    rw [← HXB.out] at this
    unfold hasV at this
    simp only [Option.map_some] at this
    rw [← HYB.out] at this
    exact this
  go_upto_region 18 with fail
  go_region_held3 (fun wx => wx.cell? ⟨mb, 4, none⟩ = some (.slice (some ⟨g1, 0, none⟩) n2 cap1) ∧ wx.cell? ⟨w.heap.size, 2, none⟩ = some (.int .i64 (yn : Int)) ∧ wx.cell? ⟨g1, yn, none⟩ = some (.pointer (some ⟨yb, 0, none⟩)))
    ((go_split_ands; first | exact ⟨c4, s2, d1⟩ | exact ⟨other_cell c4 m1, other_cell s2 m3, other_cell d1 m4⟩)) (fail)
  go_wp2_with fail
  refine bodyPost_end (results_none rfl _ _ _) rfl ?_
  exact ⟨rfl, _, _, _, HP.out.below (Below.refl _ _).drew, ((hB2.mono hB).setCell HLX.out _).drew⟩

set_option maxRecDepth 100000 in
set_option maxHeartbeats 8000000 in
theorem step_Call {w0 w : World} {Bt mb n1 n2 n3 tb tq tc na ac : Nat} {aa : Option Addr} {s : StD} {l : Lay} {v1 v2 xv xf xt xp : Value} (h : Mach w w0.heap.size Bt mb n1 n2 s l v1 v2 (.slice (some ⟨tb, tq, none⟩) n3 tc) xv xf xt xp) (k x : Nat) (yn : Nat) (hk : k < n3) (hx : x < n1)
    (q0 : w.cell? ⟨tb, tq + k * 4, none⟩ = some (.string ⟨#[99, 97, 108, 108]⟩)) (q1 : w.cell? ⟨tb, tq + k * 4 + 1, none⟩ = some (.int .i64 (x : Int))) (q2 : w.cell? ⟨tb, tq + k * 4 + 2, none⟩ = some (.int .i64 (yn : Int))) (q3 : w.cell? ⟨tb, tq + k * 4 + 3, none⟩ = some (.slice aa na ac)) (hyn : yn < n1) (hw : Below w0.heap.size w0 w) (fs : List FunD) (hfl : fs.length = n2) (hF : IsFuns w0 v2 fs) (hf : ∀ i, i < fs.length → FunOk n1 (fs.getD i default)) (args : List Int) (hA : IsInts w0 (.slice aa na ac) args) (hal : args.length ≤ 1000000) (hao : ∀ j, j < args.length → 0 ≤ args.getD j 0 ∧ args.getD j 0 < (n1 : Int)) :
    Calls Tryz.prog 80 #[.pointer (some ⟨mb, 0, none⟩), .int .i64 (k : Int)] w fun e w' => e = .returned (.tuple #[]) ∧ ∃ l' xt' xp', Mach w' w0.heap.size Bt mb n1 n2 (callD fs s x args (s.get (.var yn))) l' v1 v2 (.slice (some ⟨tb, tq, none⟩) n3 tc) xv xf xt' xp' ∧ Below w0.heap.size w w' := by
  have HW : Hid (Below w0.heap.size w0 w) := hw
  have HF : Hid (IsFuns w0 v2 fs) := hF
  have HFO : Hid (∀ i, i < fs.length → FunOk n1 (fs.getD i default)) := hf
  have HAA : Hid (IsInts w0 (.slice aa na ac) args) := hA
  have HAO : Hid (∀ j, j < args.length → 0 ≤ args.getD j 0 ∧ args.getD j 0 < (n1 : Int)) := hao
  clear hw hF hf hA hao
  have hB := h.size
  obtain ⟨-, -, c2, c3, c4, -⟩ := h.cellsM
  obtain ⟨g0, cap, rfl, hvr, gcs, hgb⟩ := h.vrow (by omega)
  have e1 := hvr x hx
  unfold ptrV at e1
  have hcell := (h.cells (.var x) hx).2
  obtain ⟨-, -, x2, -⟩ := cell_kind (h.cells (.var x) hx)
  obtain ⟨xb, hxb⟩ : ∃ b, b = l.at (.var x) := ⟨_, rfl⟩
  rw [← hxb] at e1 x2 hcell
  have HXB : Hid (xb = l.at (.var x)) := hxb
  have HCL : Hid (w.heap[xb]? = some (.cells #[.string (refKind (.var x)), .int .i64 (refNo (.var x) : Int), hasV l (s.get (.var x))] 178 (0, 0))) := hcell
  have HG0 : Hid (w.heap[g0]? = some (.cells gcs 176 (0, 0))) := hgb
  have m1 : mb ≠ xb := ne_block h.blk hcell (by decide)
  have m2 : g0 ≠ xb := ne_block hgb hcell (by decide)
  have m3 : w.heap.size ≠ xb := fresh_ne hcell
  have HLX : Hid (w0.heap.size ≤ xb) := by show _ ≤ _; rw [hxb]; exact (h.cells (.var x) hx).1
  have hki : (k : Int) < n3 := by omega
  have hxi : (x : Int) < n1 := by omega
  have d1 := hvr yn hyn
  unfold ptrV at d1
  obtain ⟨-, -, d2, -⟩ := cell_kind (h.cells (.var yn) hyn)
  obtain ⟨yb, hyb⟩ : ∃ b, b = l.at (.var yn) := ⟨_, rfl⟩
  rw [← hyb] at d1 d2
  have HYB : Hid (yb = l.at (.var yn)) := hyb
  clear hyb
  obtain ⟨hv, hhv⟩ : ∃ v, .pointer v = hasV l (s.get (.var yn)) := ⟨_, rfl⟩
  rw [← hhv] at d2
  have HHV : Hid (.pointer hv = hasV l (s.get (.var yn))) := hhv
  have HXO : Hid (OkO n1 n2 s.things.length (s.get (.var yn))) := h.get_ok _
  have hyi : (yn : Int) < n1 := by omega
  clear hhv
  obtain ⟨u, hu⟩ : ∃ v, .pointer v = hasV l (s.get (.var x)) := ⟨_, rfl⟩
  rw [← hu] at x2
  have HU : Hid (.pointer u = hasV l (s.get (.var x))) := hu
  clear hu
  have HM : Hid (Mach w w0.heap.size Bt mb n1 n2 s l v1 v2 (.slice (some ⟨tb, tq, none⟩) n3 tc) (.slice (some ⟨g0, 0, none⟩) n1 cap) xf xt xp) := h
  clear h hvr hgb hcell hxb
  go_enter Tryz.func80, Tryz.ntmps80
  go_upto_region 1 with fail
  obtain ⟨W1, hW1⟩ : ∃ W1, W1 = w.alloc (.cells #[.string ⟨#[99, 97, 108, 108]⟩, .int .i64 (x : Int), .int .i64 (yn : Int), .slice aa na ac] 45) := ⟨_, rfl⟩
  have hB1 : Below w.heap.size w W1 := by rw [hW1]; exact below1 w _
  have hbox : W1.heap[w.heap.size]? = some (.cells #[.string ⟨#[99, 97, 108, 108]⟩, .int .i64 (x : Int), .int .i64 (yn : Int), .slice aa na ac] 45 (0, 0)) := by rw [hW1]; exact heap_new w _
  rw [← hW1]
  clear hW1 q0 q1 q2 q3 c2
  replace c3 := cell_keep hB1 c3
  replace c4 := cell_keep hB1 c4
  replace e1 := cell_keep hB1 e1
  replace x2 := cell_keep hB1 x2
  have s0 : W1.cell? ⟨w.heap.size, 0, none⟩ = some (.string ⟨#[99, 97, 108, 108]⟩) := by rw [Lib.cell_of_heap hbox]; rfl
  have s1 : W1.cell? ⟨w.heap.size, 1, none⟩ = some (.int .i64 (x : Int)) := by rw [Lib.cell_of_heap hbox]; rfl
  have s2 : W1.cell? ⟨w.heap.size, 2, none⟩ = some (.int .i64 (yn : Int)) := by rw [Lib.cell_of_heap hbox]; rfl
  have s3 : W1.cell? ⟨w.heap.size, 3, none⟩ = some (.slice aa na ac) := by rw [Lib.cell_of_heap hbox]; rfl
  go_region_held3 (fun wx => wx.cell? ⟨mb, 3, none⟩ = some (.slice (some ⟨g0, 0, none⟩) n1 cap) ∧ wx.cell? ⟨w.heap.size, 1, none⟩ = some (.int .i64 (x : Int)) ∧ wx.cell? ⟨g0, x, none⟩ = some (.pointer (some ⟨xb, 0, none⟩)))
    ((go_split_ands; exact ⟨c3, s1, e1⟩)) (fail)
  obtain ⟨W2, hW2⟩ : ∃ W2, W2 = W1.drew := ⟨_, rfl⟩
  have hB2 : Below w.heap.size w W2 := by rw [hW2]; exact hB1.drew
  have hB12 : Below W1.heap.size W1 W2 := by rw [hW2]; exact (Below.refl _ _).drew
  replace c3 := cell_keep hB12 c3
  replace c4 := cell_keep hB12 c4
  replace e1 := cell_keep hB12 e1
  replace x2 := cell_keep hB12 x2
  replace s0 := cell_keep hB12 s0
  replace s2 := cell_keep hB12 s2
  replace s3 := cell_keep hB12 s3
  rw [← hW2]
  have x2f := frozen_of_block (block_keep hB2 HCL.out) 2
  have HBX : Hid (W2.heap[w.heap.size]? = some (.cells #[.string ⟨#[99, 97, 108, 108]⟩, .int .i64 (x : Int), .int .i64 (yn : Int), .slice aa na ac] 45 (0, 0))) := block_keep hB12 hbox
  clear hW2 hbox hB1 s1 hB12 HCL
  have HM2 : Hid (Mach W2 w0.heap.size Bt mb n1 n2 s l v1 v2 (.slice (some ⟨tb, tq, none⟩) n3 tc) (.slice (some ⟨g0, 0, none⟩) n1 cap) xf xt xp) := HM.out.below hB2
  replace d1 := cell_keep hB2 d1
  replace d2 := cell_keep hB2 d2
  have KC : Hid (∀ wx, Below W2.heap.size W2 wx → Calls Tryz.prog 129 #[.pointer (some ⟨mb, 0, none⟩), .pointer (some ⟨xb, 0, none⟩), .pointer hv, .slice aa na ac] wx fun e w' => e = .returned (.tuple #[]) ∧ Mach w' w0.heap.size Bt mb n1 n2 (callD fs s x args (s.get (.var yn))) l v1 v2 (.slice (some ⟨tb, tq, none⟩) n3 tc) (.slice (some ⟨g0, 0, none⟩) n1 cap) xf xt xp ∧ Below w0.heap.size wx w') := by
    intro wx hwx
    have hwx2 : Below w.heap.size w wx := hB2.trans (hwx.mono hB2.size)
    have h1 := HM.out.below hwx2
    rw [← hfl] at h1
    have := call_any fs h1 (HW.out.trans (hwx2.mono hB)) HF.out HFO.out x hx (s.get (.var yn)) (by rw [hfl]; exact HXO.out) (.slice aa na ac) args HAA.out hal HAO.out
    unfold ptrV at this
    rw [← HXB.out, ← HHV.out, hfl] at this
    exact this
  clear HF HFO HAA HAO HM HBX
  go_upto_region 20 with fail
  go_region_with (first | (go_at_call 129; refine (KC.out _ (by first | exact (Below.refl _ _).drew | exact Below.refl _ _)).mono ?_; rintro e w4 ⟨rfl, hM4, hB4⟩; have HM4 : Hid (Mach w4 w0.heap.size Bt mb n1 n2 (callD fs s x args (s.get (.var yn))) l v1 v2 (.slice (some ⟨tb, tq, none⟩) n3 tc) (.slice (some ⟨g0, 0, none⟩) n1 cap) xf xt xp) := hM4; clear hM4))
  all_goals
    go_wp2_with fail
    refine bodyPost_end (results_none rfl _ _ _) rfl ?_
    exact ⟨rfl, _, _, _, HM4.out, (hB2.mono hB).trans (Below.trans (Below.refl _ _).drew hB4)⟩
end Go.Proofs.YteekjigaicmohaaGreatDoor
